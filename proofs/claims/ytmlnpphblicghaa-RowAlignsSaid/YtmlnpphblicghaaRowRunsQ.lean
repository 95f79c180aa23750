import Derived.Test.YtmlnpphblicghaaZQ
import Derived.Test.YtmlnpphblicghaaRowNumQ
/- Runs of the call's own beside its metrics; their line-heights written. -/
namespace Go.Proofs.Ytmlnpphblicghaa
open Go Go.RowKit
set_option linter.unusedVariables false
set_option linter.unusedSimpArgs false

structure RnSt (W w : World) (lo : Nat) (zs : List Int) (A : Option Addr) (n c : Nat) (rs : List Rn) : Prop where
  own : w.ownsRow (lo + 1) 49 4 (.slice A n c) n (rCells rs)
  met : Whole w lo 37 (i64s zs)
  low : Below lo W w
section
variable {W w w' : World} {lo : Nat} {zs : List Int} {A : Option Addr} {n c : Nat} {rs : List Rn}
theorem RnSt.size (h : RnSt W w lo zs A n c rs) : lo < w.heap.size := h.met.size
theorem RnSt.behind (h : RnSt W w lo zs A n c rs) (hb : Below w.heap.size w w') : RnSt W w' lo zs A n c rs :=
  ⟨own_below h.own hb (Nat.le_refl _), h.met.under hb h.met.size, h.low.trans (hb.mono (by have := h.size; omega))⟩
theorem RnSt.row (h : RnSt W w lo zs A n c rs) : Row w w.heap.size A (rCells rs) := row_of_own h.own
theorem RnSt.len (h : RnSt W w lo zs A n c rs) : rs.length = n := by
  have := h.own.1
  rw [rCells_length] at this
  omega
end
def lineR (v : Int) (x : Rn) : Rn := { x with line := v }
theorem rCells_line : ∀ (rs : List Rn) (k : Nat) (h : k < rs.length) (v : Int), (rCells rs).set (k * 4 + 3) (.int .i64 v) = rCells (rs.set k (lineR v rs[k]))
  | x :: l, 0, h, v => rfl
  | x :: l, k + 1, h, v => by
    have := rCells_line l k (by simpa using h) v
    rw [show (k + 1) * 4 + 3 = k * 4 + 3 + 1 + 1 + 1 + 1 by omega]
    simp only [rCells, List.set_cons_succ, this, List.getElem_cons_succ]
def midN (v : Int) : List Rn → Nat → List Rn
  | l, 0 => l
  | [], _ + 1 => []
  | x :: l, k + 1 => lineR v x :: midN v l k
section
variable (v : Int)
theorem midN_length : ∀ (l : List Rn) (k : Nat), (midN v l k).length = l.length
  | l, 0 => by simp [midN]
  | [], k + 1 => rfl
  | x :: l, k + 1 => by simp [midN, midN_length l k]
theorem midN_zero (l : List Rn) : midN v l 0 = l := by cases l <;> rfl
theorem midN_get : ∀ (l : List Rn) (k : Nat) (h : k < l.length), (midN v l k)[k]'(by rw [midN_length]; exact h) = l[k]
  | x :: l, 0, h => rfl
  | x :: l, k + 1, h => by simp only [midN, List.getElem_cons_succ]; exact midN_get l k (by simpa using h)
theorem midN_succ : ∀ (l : List Rn) (k : Nat) (h : k < l.length), midN v l (k + 1) = (midN v l k).set k (lineR v l[k])
  | x :: l, 0, h => by simp [midN]
  | x :: l, k + 1, h => by rw [midN, midN_succ l k (by simpa using h)]; simp [midN]
theorem midN_all : ∀ (l : List Rn), midN v l l.length = l.map (lineR v)
  | [] => rfl
  | x :: l => by simp [midN, midN_all l]
theorem midN_put (l : List Rn) (k : Nat) (h : k < l.length) : (rCells (midN v l k)).set (k * 4 + 3) (.int .i64 v) = rCells (midN v l (k + 1)) := by
  rw [rCells_line (midN v l k) k (by rw [midN_length]; exact h) v, midN_get v l k h, midN_succ v l k h]
theorem rawAll_lines (zs : List Int) : ∀ (rs : List Rn) (r : Int), rawAll zs r (rs.map (lineR v)) = rawAll zs r rs
  | [], r => rfl
  | x :: l, r => by simp only [List.map_cons, rawAll, rawAll_lines zs l]; rfl
theorem glyphsL_lines (zs : List Int) (rs : List Rn) : glyphsL zs (rs.map (lineR v)) = glyphsL zs rs := by unfold glyphsL; rw [rawAll_lines]
theorem sizeAll_lines : ∀ (rs : List Rn), sizeAll (rs.map (lineR v)) = sizeAll rs
  | [] => rfl
  | x :: l => by
    have := sizeAll_lines l
    simp only [sizeAll, List.map_cons, List.sum_cons] at this ⊢
    rw [this]; rfl
theorem hRun_lines (rs : List Rn) (r : Nat) (h : r < rs.length) : hRun (rs.map (lineR v)) r = lineZ v := by simp [hRun, h, lineR]
end
theorem RnSt.lineCell {W w : World} {lo : Nat} {zs : List Int} {g n c : Nat} {l : List Rn} {v : Int} {k : Nat} (h : RnSt W w lo zs (some ⟨g, 0, none⟩) n c (midN v l k)) (hk : k < l.length) :
    (∃ z, w.cell? ⟨g, k * 4 + 3, none⟩ = some (.int .i64 z)) ∧ w.frozen? ⟨g, k * 4 + 3, none⟩ = false := by
  have hl := h.len
  rw [midN_length] at hl
  refine ⟨⟨l[k].line, (h.own.cellAt _ (by omega)).trans ?_⟩, h.own.frozenAt _⟩
  have := (rCells_get (midN v l k) k (by rw [midN_length]; exact hk)).2.2.2
  rwa [midN_get v l k hk] at this
theorem RnSt.putLine {W w : World} {lo : Nat} {zs : List Int} {g n c : Nat} {l : List Rn} {v : Int} {k : Nat} (h : RnSt W w lo zs (some ⟨g, 0, none⟩) n c (midN v l k)) (hk : k < l.length) :
    RnSt W (w.setCell ⟨g, k * 4 + 3, none⟩ (.int .i64 v)) lo zs (some ⟨g, 0, none⟩) n c (midN v l (k + 1)) := by
  have h1 := (h.own.stored (k * 4 + 3) (.int .i64 v)).1
  rw [midN_put v l k hk] at h1
  have hg := (h.own.lt g rfl).1
  exact ⟨h1, h.met.other (p := ⟨g, k * 4 + 3, none⟩) (by show lo ≠ g; omega) _, h.low.setCell (p := ⟨g, k * 4 + 3, none⟩) (by show lo ≤ g; omega) _⟩
end Go.Proofs.Ytmlnpphblicghaa
