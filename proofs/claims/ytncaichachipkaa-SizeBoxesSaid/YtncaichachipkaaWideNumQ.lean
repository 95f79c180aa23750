import Derived.Test.YtncaichachipkaaBrkFineQ
/- The widest row of glyphs of none of some kinds. No program is named here. -/
namespace Go.Proofs.Ytncaichachipkaa
open Go Go.RowKit
set_option linter.unusedVariables false
set_option linter.unusedSimpArgs false

def maxO (M : Option Int) (r : Int) : Int := match M with | none => r | some m => if m < r then r else m
/-- Outside a row ('none') or in one, that is so wide till here. -/
def widL (ks : List Int) : List Gl → Option Int → Option Int → Option Int
  | [], none, M => M
  | [], some r, M => some (maxO M r)
  | x :: l, none, M => if ks.contains x.kind then widL ks l none M else widL ks l (some x.adv) M
  | x :: l, some r, M => if ks.contains x.kind then widL ks l none (some (maxO M r)) else widL ks l (some (r + x.adv)) M
def widZ (ks : List Int) (g : List Gl) : Int := (widL ks g none none).getD 0
section
variable (ks : List Int) (g : List Gl) (i : Nat) (M : Option Int) (r : Int)
theorem widL_out (h : g.length ≤ i) : widL ks (g.drop i) none M = M := by rw [List.drop_eq_nil_of_le h]; rfl
theorem widL_skip (h : i < g.length) (hk : ks.contains g[i].kind = true) : widL ks (g.drop i) none M = widL ks (g.drop (i + 1)) none M := by
  rw [List.drop_eq_getElem_cons h]; simp only [widL]; rw [if_pos hk]
theorem widL_open (h : i < g.length) (hk : ks.contains g[i].kind = false) : widL ks (g.drop i) none M = widL ks (g.drop i) (some 0) M := by
  rw [List.drop_eq_getElem_cons h]; simp only [widL]; rw [if_neg (by rw [hk]; decide), if_neg (by rw [hk]; decide), Int.zero_add]
theorem widL_add (h : i < g.length) (hk : ks.contains g[i].kind = false) : widL ks (g.drop i) (some r) M = widL ks (g.drop (i + 1)) (some (r + g[i].adv)) M := by
  rw [List.drop_eq_getElem_cons h]; simp only [widL]; rw [if_neg (by rw [hk]; decide)]
theorem widL_shut (h : i < g.length) (hk : ks.contains g[i].kind = true) : widL ks (g.drop i) (some r) M = widL ks (g.drop (i + 1)) none (some (maxO M r)) := by
  rw [List.drop_eq_getElem_cons h]; simp only [widL]; rw [if_pos hk]
theorem widL_last (h : g.length ≤ i) : widL ks (g.drop i) (some r) M = widL ks (g.drop (i + 1)) none (some (maxO M r)) := by
  rw [List.drop_eq_nil_of_le h, List.drop_eq_nil_of_le (by omega)]; rfl
end
/-- Where no glyph leads back it is as the document reckons it: sums of rows, none below 0. -/
theorem widL_long (sp : Bool) (ks : List Int) (hks : ∀ x : Gl, ks.contains x.kind = true ↔ x.kind = 4 ∨ (sp = true ∧ x.kind = 2)) : ∀ (l : List Gl) (hl : ∀ x ∈ l, 0 ≤ x.adv) (r : Option Int) (M : Option Int) (most now : Int)
    (hr : ∀ v, r = some v → 0 ≤ v ∧ now = v) (hr0 : r = none → now = 0) (hM : max (M.getD 0) (r.getD 0) = most) (hM0 : 0 ≤ M.getD 0) , (widL ks l r M).getD 0 = longL sp l most now
  | [], hl, r, M, most, now, hr, hr0, hM, hM0 => by
    cases r with
    | none => simp only [widL, longL]; simp only [Option.getD_none] at hM; omega
    | some v =>
      have := (hr v rfl).1
      simp only [widL, longL, Option.getD_some] at hM ⊢
      cases M with
      | none => simp only [maxO, Option.getD_none] at hM ⊢; omega
      | some m => simp only [maxO, Option.getD_some] at hM ⊢; split <;> omega
  | x :: l, hl, r, M, most, now, hr, hr0, hM, hM0 => by
    have hx := hl x (by simp)
    have hl' : ∀ y ∈ l, 0 ≤ y.adv := fun y hy => hl y (by simp [hy])
    have hk := hks x
    cases r with
    | none =>
      have h0 := hr0 rfl
      subst h0
      simp only [Option.getD_none] at hM
      simp only [widL, longL]
      by_cases hc : ks.contains x.kind = true
      · rw [if_pos hc, if_pos (hk.1 hc)]
        exact widL_long sp ks hks l hl' none M _ 0 (fun v h => by cases h) (fun _ => rfl) (by simp only [Option.getD_none]; omega) hM0
      · rw [if_neg hc, if_neg (fun h => hc (hk.2 h)), Int.zero_add]
        exact widL_long sp ks hks l hl' (some x.adv) M _ _ (fun v h => by injection h with h; omega) (fun h => by cases h) (by first | (simp only [Option.getD_some]; done) | (simp only [Option.getD_some]; omega)) hM0
    | some v =>
      obtain ⟨hv, rfl⟩ := hr v rfl
      simp only [Option.getD_some] at hM
      simp only [widL, longL]
      by_cases hc : ks.contains x.kind = true
      · rw [if_pos hc, if_pos (hk.1 hc)]
        have hm : (some (maxO M now)).getD 0 = most := by
          rw [Option.getD_some]
          cases M with
          | none => simp only [maxO, Option.getD_none] at hM ⊢; omega
          | some m => simp only [maxO, Option.getD_some] at hM ⊢; split <;> omega
        exact widL_long sp ks hks l hl' none _ _ 0 (fun v h => by cases h) (fun _ => rfl) (by rw [hm, Option.getD_none]) (by rw [hm]; omega)
      · rw [if_neg hc, if_neg (fun h => hc (hk.2 h))]
        exact widL_long sp ks hks l hl' (some (now + x.adv)) M _ _ (fun v h => by injection h with h; omega) (fun h => by cases h) (by first | (simp only [Option.getD_some]; done) | (simp only [Option.getD_some]; omega)) hM0
theorem widZ_least (g : List Gl) (hg : ∀ x ∈ g, 0 ≤ x.adv) : widZ [2, 4] g = leastL g :=
  widL_long true [2, 4] (fun x => by simp [List.contains_iff_mem, or_comm]) g hg none none 0 0 (fun v h => by cases h) (fun _ => rfl) rfl (Int.le_refl _)
theorem widZ_most (g : List Gl) (hg : ∀ x ∈ g, 0 ≤ x.adv) : widZ [4] g = mostL g :=
  widL_long false [4] (fun x => by simp [List.contains_iff_mem]) g hg none none 0 0 (fun v h => by cases h) (fun _ => rfl) rfl (Int.le_refl _)
end Go.Proofs.Ytncaichachipkaa
