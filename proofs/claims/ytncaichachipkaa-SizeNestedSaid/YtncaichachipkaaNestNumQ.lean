import Derived.Test.YtncaichachipkaaBoxesNumQ
import Derived.Test.YtncaichachipkaaZQ
/- SizeNested: numbers. -/
namespace Go.Proofs.Ytncaichachipkaa
open Go Go.RowKit
set_option linter.unusedVariables false
set_option linter.unusedSimpArgs false

def nSt (p h : Int) : List Int := [1, 0, 0, 0, 3, 0, 0, 0, 0,  0, 0, 0, 0, 1, 0, 1, 0, 0, 0, 0, 0, 0, 0,  1, 0, 1, 0, 1, 0, 1, h,  0, p, 0, 0,  0, 0, 0, 0,  0, 1, 0,  1280]
theorem nSt_in (p h : Int) (hp : I64 p) (hh : I64 h) : ∀ z ∈ nSt p h, I64 z := by
  intro z hz
  simp only [nSt, List.mem_cons, List.not_mem_nil, or_false] at hz
  unfold I64 at *
  omega
theorem nest_outer (p h n : Int) (hn : 0 ≤ n) (hp : 0 ≤ p ∧ p ≤ 255) (hh : 0 ≤ h ∧ h ≤ 255) (hb : n ≤ 9000000000000000000) : outerZ (nSt p h) n = n + p + h := by
  have e : outerZ (nSt p h) n = heldT (max (max 0 (max 0 0)) (if (0 : Int) ≤ -1 then min n (-1) else n) + (0 + 0 + h) + (p + 0 + 0)) := rfl
  rw [e, if_neg (by omega), heldT_in ⟨by omega, by omega⟩]
  omega
/-- Boxes in one another: of kind 1 about one, or of kind 2. -/
inductive Nest (zs : List Int) (lo hi : Int) : Bx → Prop
  | text (rs : List Rn) (h : sizeAll rs ≤ 1000) (hn : rs.length ≤ 1000) (st : List Int) : lo = linesZ zs true rs → hi = linesZ zs false rs → Nest zs lo hi (.mk 2 0 st [] rs)
  | block (b : Bx) (st : List Int) (hF : FineB zs b) (hc : b.cnt ≤ 100) : lo = max (outerZ b.st (ctn zs true b)) 0 → hi = max (outerZ b.st (ctn zs false b)) 0 → Nest zs lo hi (.mk 1 0 st [b] [])
theorem Nest.vals {zs : List Int} {lo hi : Int} {b : Bx} (h : Nest zs lo hi b) : ctn zs true b = lo ∧ ctn zs false b = hi := by
  cases h with
  | text rs h hn st h1 h2 => exact ⟨h1.symm, h2.symm⟩
  | block b st hF hc h1 h2 => exact ⟨h1.symm, h2.symm⟩
theorem Nest.fine {zs : List Int} {lo hi : Int} {b : Bx} (h : Nest zs lo hi b) : FineB zs b := by
  cases h with
  | text rs h hn st h1 h2 =>
    rw [FineB, FinesB]
    exact ⟨fun _ => fineR_small zs rs (by omega) (by omega), trivial⟩
  | block b st hF hc h1 h2 =>
    rw [FineB, FinesB, FinesB]
    exact ⟨fun e => absurd e (by decide), hF, trivial⟩
theorem Nest.few {zs : List Int} {lo hi : Int} {b : Bx} (h : Nest zs lo hi b) : b.cnt ≤ 101 := by
  cases h with
  | text rs h hn st h1 h2 => rw [Bx.cnt]; simp
  | block b st hF hc h1 h2 => rw [Bx.cnt, cnts, cnts]; simp; omega
theorem longL_ge (sp : Bool) : ∀ (l : List Gl) (m n : Int), m ≤ longL sp l m n
  | [], m, n => Int.le_refl _
  | x :: l, m, n => by
    simp only [longL]
    split
    · have := longL_ge sp l (max m 0) 0; omega
    · have := longL_ge sp l (max m (n + x.adv)) (n + x.adv); omega
theorem glyphs_adv0 (zs : List Int) (rs : List Rn) : Adv0 (glyphsL zs rs) := fun x hx => by
  obtain ⟨r, i, hr, hi, -, -, h1, -⟩ := inRuns_what (glyphsL_in zs rs x hx)
  exact h1
theorem lines_bd (zs : List Int) (rs : List Rn) (h : sizeAll rs ≤ 100000) : 0 ≤ linesZ zs true rs ∧ linesZ zs true rs ≤ linesZ zs false rs ∧ linesZ zs false rs ≤ 8000000000000000000 := by
  have h0 := glyphs_adv0 zs rs
  have e1 : linesZ zs true rs = leastL (glyphsL zs rs) := widZ_least _ h0
  have e2 : linesZ zs false rs = mostL (glyphsL zs rs) := widZ_most _ h0
  have hw : widZ [4] (glyphsL zs rs) ≤ 8000000000000000000 := by
    have hf := glyphs_fine zs rs h
    unfold widZ
    cases hh : widL [4] (glyphsL zs rs) none none with
    | none => simp
    | some v =>
      have h1 := widL_bd [4] 1099511627776 (by decide) _ hf.2 none none 0 (by decide) (fun v h => by cases h) (fun v h => by cases h) v hh
      have h2 := hf.1
      simp only [Option.getD_some]
      omega
  refine ⟨?_, ?_, hw⟩
  · rw [e1]; exact longL_ge true _ 0 0
  · rw [e1, e2]; exact least_most h0
/-- One step: a padding and a margin for the box, a block about it. -/
theorem Nest.next {zs : List Int} {lo hi : Int} {b b2 : Bx} (h : Nest zs lo hi b) (p m : Int) (hst : b2.st = nSt p m) (hk : ∃ k nd st kids rs, b = .mk k nd st kids rs ∧ b2 = .mk k nd (nSt p m) kids rs) (hp : 0 ≤ p ∧ p ≤ 255) (hm : 0 ≤ m ∧ m ≤ 255) (h0 : 0 ≤ lo) (h1 : lo ≤ hi) (h2 : hi ≤ 8500000000000000000) (hc : b.cnt ≤ 100) (st : List Int) :
    Nest zs (lo + p + m) (hi + p + m) (.mk 1 0 st [b2] []) ∧ outerZ b2.st (ctn zs true b2) = lo + p + m ∧ outerZ b2.st (ctn zs false b2) = hi + p + m := by
  have hct := h.vals
  obtain ⟨k, nd, s, kids, rs, rfl, rfl⟩ := hk
  have hs : ∀ least, ctn zs least (.mk k nd (nSt p m) kids rs) = ctn zs least (.mk k nd s kids rs) := fun least => by
    cases h with
    | text rs h hn st h1 h2 => rfl
    | block b st hF hc h1 h2 => rfl
  have hF : FineB zs (.mk k nd (nSt p m) kids rs) := by
    have := h.fine
    rw [FineB] at this ⊢
    exact this
  have hn : (Bx.mk k nd (nSt p m) kids rs).cnt ≤ 100 := by rw [Bx.cnt] at hc ⊢; exact hc
  have o1 : outerZ (Bx.mk k nd (nSt p m) kids rs).st (ctn zs true (.mk k nd (nSt p m) kids rs)) = lo + p + m := by
    rw [hs, hct.1]; exact nest_outer p m lo h0 hp hm (by omega)
  have o2 : outerZ (Bx.mk k nd (nSt p m) kids rs).st (ctn zs false (.mk k nd (nSt p m) kids rs)) = hi + p + m := by
    rw [hs, hct.2]; exact nest_outer p m hi (by omega) hp hm (by omega)
  exact ⟨.block _ st hF hn (by rw [o1]; omega) (by rw [o2]; omega), o1, o2⟩
theorem nest_cnt (k nd : Int) (st st2 st3 : List Int) (kids : List Bx) (rs : List Rn) : (Bx.mk 1 0 st3 [.mk k nd st2 kids rs] []).cnt = 1 + (Bx.mk k nd st kids rs).cnt := by
  simp only [Bx.cnt, cnts]; simp
end Go.Proofs.Ytncaichachipkaa
