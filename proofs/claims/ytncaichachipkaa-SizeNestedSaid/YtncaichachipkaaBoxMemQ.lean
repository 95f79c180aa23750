import Derived.Test.YtncaichachipkaaSizeNumQ
import Derived.Test.YtncaichachipkaaZQ
import Derived.Deep.MidRow
/- Boxes in memory: blocks that S tells stand. -/
namespace Go.Proofs.Ytncaichachipkaa
open Go Go.RowKit
set_option linter.unusedVariables false
set_option linter.unusedSimpArgs false
set_option maxRecDepth 20000

def boxC (k nd : Int) (st : List Int) (A : Option Addr) (n c : Nat) (R : Option Addr) (nr cr : Nat) : List Value :=
  .int .i64 k :: .int .i64 nd :: (i64s st ++ [.slice A n c, .slice R nr cr])
theorem boxC_length (k nd : Int) (st : List Int) (A : Option Addr) (n c : Nat) (R : Option Addr) (nr cr : Nat) : (boxC k nd st A n c R nr cr).length = st.length + 4 := by simp [boxC, i64s_length]
/-- A row of cells somewhere in the blocks of S. -/
def RowS (w : World) (S : Nat → Prop) (A : Option Addr) (xs : List Value) : Prop := xs ≠ [] → ∃ g q, A = some ⟨g, q, none⟩ ∧ S g ∧ w.rangeAt g q xs
mutual
def BoxV (w : World) (S : Nat → Prop) : Bx → List Value → Prop
  | .mk k nd st kids runs, cs => ∃ A c R cr, cs = boxC k nd st A kids.length c R runs.length cr ∧ st.length = 43 ∧ (∀ z ∈ st, I64 z) ∧ RowS w S R (rCells runs) ∧ BoxesAt w S kids A
def BoxesAt (w : World) (S : Nat → Prop) : List Bx → Option Addr → Prop
  | [], _ => True
  | b :: r, A => ∃ g q cs, A = some ⟨g, q, none⟩ ∧ S g ∧ w.rangeAt g q cs ∧ BoxV w S b cs ∧ BoxesAt w S r (some ⟨g, q + 47, none⟩)
end
theorem boxV_length {w : World} {S : Nat → Prop} {b : Bx} {cs : List Value} (h : BoxV w S b cs) : cs.length = 47 := by
  cases b with
  | mk k nd st kids runs =>
    rw [BoxV] at h
    obtain ⟨A, c, R, cr, rfl, hl, _⟩ := h
    rw [boxC_length, hl]
theorem boxV_one {w : World} {S : Nat → Prop} {b : Bx} {cs : List Value} (h : BoxV w S b cs) : ∀ v ∈ cs, v.oneCell' = true := by
  cases b with
  | mk k nd st kids runs =>
    rw [BoxV] at h
    obtain ⟨A, c, R, cr, rfl, hl, _⟩ := h
    intro v hv
    simp only [boxC, List.mem_cons, List.mem_append, List.not_mem_nil, or_false] at hv
    rcases hv with rfl | rfl | hv | rfl | rfl
    · rfl
    · rfl
    · exact i64s_one _ v hv
    · rfl
    · rfl
section
variable {w w' : World} {S S' : Nat → Prop}
theorem range_keep {g q : Nat} {cs : List Value} (h : w.rangeAt g q cs) (he : w'.heap[g]? = w.heap[g]?) : w'.rangeAt g q cs := fun j v hv => by
  rw [World.cell?_of_block (w := w) (a := ⟨g, q + j, none⟩) he]; exact h j v hv
theorem RowS.keep {A : Option Addr} {xs : List Value} (h : RowS w S A xs) (hS : ∀ g, S g → S' g ∧ w'.heap[g]? = w.heap[g]?) : RowS w' S' A xs := fun hx => by
  obtain ⟨g, q, e, hs, hr⟩ := h hx
  exact ⟨g, q, e, (hS g hs).1, range_keep hr (hS g hs).2⟩
mutual
theorem BoxV.keep (hS : ∀ g, S g → S' g ∧ w'.heap[g]? = w.heap[g]?) : ∀ (b : Bx) {cs : List Value}, BoxV w S b cs → BoxV w' S' b cs
  | .mk k nd st kids runs, cs, h => by
    rw [BoxV] at h ⊢
    obtain ⟨A, c, R, cr, e, hl, hz, hR, hB⟩ := h
    exact ⟨A, c, R, cr, e, hl, hz, hR.keep hS, BoxesAt.keep hS kids hB⟩
theorem BoxesAt.keep (hS : ∀ g, S g → S' g ∧ w'.heap[g]? = w.heap[g]?) : ∀ (l : List Bx) {A : Option Addr}, BoxesAt w S l A → BoxesAt w' S' l A
  | [], A, h => by rw [BoxesAt]; trivial
  | b :: r, A, h => by
    rw [BoxesAt] at h ⊢
    obtain ⟨g, q, cs, e, hs, hr, hv, hb⟩ := h
    exact ⟨g, q, cs, e, (hS g hs).1, range_keep hr (hS g hs).2, BoxV.keep hS b hv, BoxesAt.keep hS r hb⟩
end
theorem BoxV.below {B : Nat} {b : Bx} {cs : List Value} (h : BoxV w (· < B) b cs) (hb : Below B w w') : BoxV w' (· < B) b cs := h.keep fun g hg => ⟨hg, hb.block g hg⟩
theorem BoxV.mono {b : Bx} {cs : List Value} (h : BoxV w S b cs) (hS : ∀ g, S g → S' g) : BoxV w S' b cs := h.keep fun g hg => ⟨hS g hg, rfl⟩
theorem RowS.row {A : Option Addr} {xs : List Value} {B : Nat} (h : RowS w S A xs) (hS : ∀ g, S g → g < B) : Row w B A xs := fun hn => by
  obtain ⟨g, q, e, hs, hr⟩ := h (fun e => by subst e; simp at hn)
  refine ⟨_, e, hS g hs, fun i hi => ?_⟩
  rw [Addr.add_mid]
  exact hr i _ (List.getElem?_eq_getElem hi)
theorem BoxesAt.get : ∀ {l : List Bx} {A : Option Addr}, BoxesAt w S l A → ∀ i (h : i < l.length), ∃ g q cs, A = some ⟨g, q, none⟩ ∧ S g ∧ w.rangeAt g (q + i * 47) cs ∧ BoxV w S l[i] cs
  | b :: r, A, h, 0, hi => by
    rw [BoxesAt] at h
    obtain ⟨g, q, cs, e, hs, hr, hv, _⟩ := h
    exact ⟨g, q, cs, e, hs, by simpa using hr, hv⟩
  | b :: r, A, h, i + 1, hi => by
    rw [BoxesAt] at h
    obtain ⟨g, q, cs, e, hs, hr, hv, hb⟩ := h
    obtain ⟨g', q', cs', e', hs', hr', hv'⟩ := BoxesAt.get hb i (by simpa using hi)
    injection e' with e'
    injection e' with e1 e2 _
    subst e1 e2
    exact ⟨g, q, cs', e, hs', by rw [show q + (i + 1) * 47 = q + 47 + i * 47 by omega]; exact hr', by simpa using hv'⟩
end
/-- The box in place. -/
def BoxAt (w : World) (S : Nat → Prop) (b : Bx) (g q : Nat) : Prop := S g ∧ ∃ cs, w.rangeAt g q cs ∧ BoxV w S b cs
theorem BoxAt.keep {w w' : World} {S S' : Nat → Prop} {b : Bx} {g q : Nat} (h : BoxAt w S b g q) (hS : ∀ g, S g → S' g ∧ w'.heap[g]? = w.heap[g]?) : BoxAt w' S' b g q := by
  obtain ⟨hs, cs, hr, hv⟩ := h
  exact ⟨(hS g hs).1, cs, range_keep hr (hS g hs).2, BoxV.keep hS b hv⟩
theorem BoxAt.below {w w' : World} {B : Nat} {b : Bx} {g q : Nat} (h : BoxAt w (· < B) b g q) (hb : Below B w w') : BoxAt w' (· < B) b g q := h.keep fun g hg => ⟨hg, hb.block g hg⟩
/-- What a walk reads of a box. -/
theorem BoxAt.cells {w : World} {S : Nat → Prop} {b : Bx} {g q : Nat} (h : BoxAt w S b g q) :
    w.cell? ⟨g, q, none⟩ = some (.int .i64 b.k) ∧ b.st.length = 43 ∧ (∀ z ∈ b.st, I64 z) ∧ w.rangeAt g (q + 2) (i64s b.st) ∧
      (∃ A c, w.cell? ⟨g, q + 45, none⟩ = some (.slice A b.kids.length c) ∧ BoxesAt w S b.kids A) ∧ (∃ R cr, w.cell? ⟨g, q + 46, none⟩ = some (.slice R b.runs.length cr) ∧ RowS w S R (rCells b.runs)) := by
  obtain ⟨hs, cs, hr, hv⟩ := h
  cases b with
  | mk k nd st kids runs =>
    rw [BoxV] at hv
    obtain ⟨A, c, R, cr, rfl, hl, hz, hR, hB⟩ := hv
    have hl' := i64s_length st
    refine ⟨hr 0 (.int .i64 k) rfl, hl, hz, fun j v hv => ?_, ⟨A, c, hr 45 _ ?_, hB⟩, ⟨R, cr, hr 46 _ ?_, hR⟩⟩
    · have hj : j < (i64s st).length := (List.getElem?_eq_some_iff.1 hv).1
      rw [show q + 2 + j = q + (j + 2) by omega]
      refine hr (j + 2) v ?_
      show ((i64s st) ++ [.slice A kids.length c, .slice R runs.length cr])[j]? = some v
      rw [List.getElem?_append_left hj]; exact hv
    · show ((i64s st) ++ [.slice A kids.length c, .slice R runs.length cr])[43]? = _
      rw [List.getElem?_append_right (by omega), hl', hl]; rfl
    · show ((i64s st) ++ [.slice A kids.length c, .slice R runs.length cr])[44]? = _
      rw [List.getElem?_append_right (by omega), hl', hl]; rfl
theorem style_num {w : World} {g q : Nat} {st : List Int} (h : w.rangeAt g q (i64s st)) (i : Nat) (hi : i < st.length) : w.cell? ⟨g, q + i, none⟩ = some (.int .i64 (st.getD i 0)) := by
  refine h i _ ?_
  simp [i64s, List.getD, List.getElem?_eq_getElem hi]
end Go.Proofs.Ytncaichachipkaa
