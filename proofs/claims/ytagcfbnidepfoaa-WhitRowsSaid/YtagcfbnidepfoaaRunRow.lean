import Derived.Test.YtagcfbnidepfoaaWhitTells
import Derived.Test.YtagcfbnidepfoaaGlyphLaw
import Derived.Test.YtagcfbnidepfoaaGlyphSame
import Derived.Laws.OwnMore
/- A row of texts of the call's own beside its metrics; one of its numbers written. -/
namespace Go.Proofs.Ytagcfbnidepfoaa
open Go Go.RowKit
set_option linter.unusedVariables false
set_option linter.unusedSimpArgs false

structure RRow (W w : World) (lo : Nat) (zs : List Int) (A : Option Addr) (n c : Nat) (rs : List Rn) : Prop where
  own : w.ownsRow (lo + 1) 31 4 (.slice A n c) n (rCells rs)
  met : Whole w lo 24 (i64s zs)
  low : Below lo W w
section
variable {W w w' : World} {lo : Nat} {zs : List Int} {A : Option Addr} {n c : Nat} {rs : List Rn}
theorem RRow.size (h : RRow W w lo zs A n c rs) : lo < w.heap.size := h.met.size
theorem RRow.behind (h : RRow W w lo zs A n c rs) (hb : Below w.heap.size w w') : RRow W w' lo zs A n c rs :=
  ⟨own_below h.own hb (Nat.le_refl _), h.met.under hb h.met.size, h.low.trans (hb.mono (by have := h.size; omega))⟩
theorem RRow.row (h : RRow W w lo zs A n c rs) : Row w w.heap.size A (rCells rs) := row_of_own h.own
end
theorem RRow.pushed {W w w' : World} {lo : Nat} {zs : List Int} {A A' : Option Addr} {n c c' : Nat} {rs : List Rn} (h : RRow W w lo zs A n c rs) (x : Rn) (hb : Below (lo + 1) w w')
    (ho : w'.ownsRow (lo + 1) 31 4 (.slice A' (n + 1) c') (n + 1) (rCells rs ++ [.int .i64 x.node, .string x.text, .int .i64 x.white, .int .i64 x.line])) : RRow W w' lo zs A' (n + 1) c' (rs ++ [x]) :=
  ⟨by rw [rCells_append]; exact ho, h.met.under hb (by omega), h.low.trans (hb.mono (by omega))⟩
theorem RRow.len {W w : World} {lo : Nat} {zs : List Int} {A : Option Addr} {n c : Nat} {rs : List Rn} (h : RRow W w lo zs A n c rs) : rs.length = n := by
  have := h.own.1
  rw [rCells_length] at this
  omega
theorem rCells_white : ∀ (rs : List Rn) (k : Nat) (h : k < rs.length) (v : Int), (rCells rs).set (k * 4 + 2) (.int .i64 v) = rCells (rs.set k (whiteR v rs[k]))
  | x :: l, 0, h, v => rfl
  | x :: l, k + 1, h, v => by
    have := rCells_white l k (by simpa using h) v
    rw [show (k + 1) * 4 + 2 = k * 4 + 2 + 1 + 1 + 1 + 1 by omega]
    simp only [rCells, List.set_cons_succ, this, List.getElem_cons_succ]
def midW (v : Int) (rs : List Rn) (k : Nat) : List Rn := (rs.take k).map (whiteR v) ++ rs.drop k
theorem midW_zero (v : Int) (rs : List Rn) : midW v rs 0 = rs := by simp [midW]
theorem midW_all (v : Int) (rs : List Rn) : midW v rs rs.length = rs.map (whiteR v) := by simp [midW]
theorem midW_length (v : Int) (rs : List Rn) (k : Nat) : (midW v rs k).length = rs.length := by
  unfold midW; rw [List.length_append, List.length_map, List.length_take, List.length_drop]; omega
theorem midW_get (v : Int) (rs : List Rn) (k : Nat) (h : k < rs.length) : (midW v rs k)[k]'(by rw [midW_length]; exact h) = rs[k] := by
  have hl : ((rs.take k).map (whiteR v)).length = k := by rw [List.length_map, List.length_take]; omega
  unfold midW
  rw [List.getElem_append_right (by omega)]
  simp only [List.getElem_drop, hl, Nat.sub_self, Nat.add_zero]
theorem midW_step (v : Int) (rs : List Rn) (k : Nat) (h : k < rs.length) : (midW v rs k).set k (whiteR v rs[k]) = midW v rs (k + 1) := by
  have hl : ((rs.take k).map (whiteR v)).length = k := by rw [List.length_map, List.length_take]; omega
  unfold midW
  rw [List.set_append_right _ _ (by omega), hl, Nat.sub_self, List.drop_eq_getElem_cons h, List.set_cons_zero, List.take_succ_eq_append_getElem h, List.map_append]
  simp
theorem sizeAll_white (v : Int) : ∀ (rs : List Rn), sizeAll (rs.map (whiteR v)) = sizeAll rs
  | [] => rfl
  | x :: l => by
    have := sizeAll_white v l
    simp only [sizeAll, List.map_cons, List.sum_cons] at this ⊢
    rw [this]
    rfl
theorem whiteR_twice (a b : Int) (rs : List Rn) : (rs.map (whiteR a)).map (whiteR b) = rs.map (whiteR b) := by
  rw [List.map_map]; rfl
section
variable {W w : World} {lo : Nat} {zs : List Int} {g n c : Nat} {rs : List Rn}
/-- The k-th one's White written. -/
theorem RRow.white (v : Int) (k : Nat) (h : RRow W w lo zs (some ⟨g, 0, none⟩) n c (midW v rs k)) (hn : n = rs.length) (hk : k < n) :
    RRow W (w.setCell ⟨g, k * 4 + 2, none⟩ (.int .i64 v)) lo zs (some ⟨g, 0, none⟩) n c (midW v rs (k + 1)) := by
  have hg : lo + 1 ≤ g := (h.own.lt g rfl).1
  have hs := (h.own.stored (k * 4 + 2) (.int .i64 v)).1
  rw [rCells_white _ k (by rw [midW_length]; omega), midW_get v rs k (by omega), midW_step v rs k (by omega)] at hs
  exact ⟨hs, h.met.other (by simp; omega) _, h.low.setCell (by simp; omega) _⟩
theorem RRow.whiteCell (h : RRow W w lo zs (some ⟨g, 0, none⟩) n c rs) (k : Nat) (hk : k < n) (hn : n = rs.length) : w.cell? ⟨g, k * 4 + 2, none⟩ = some (.int .i64 (rs[k]'(by omega)).white) ∧ w.frozen? ⟨g, k * 4 + 2, none⟩ = false := by
  refine ⟨?_, h.own.frozenAt _⟩
  rw [h.own.cellAt _ (by omega)]
  exact (rCells_get rs k (by omega)).2.2.1
end
end Go.Proofs.Ytagcfbnidepfoaa
