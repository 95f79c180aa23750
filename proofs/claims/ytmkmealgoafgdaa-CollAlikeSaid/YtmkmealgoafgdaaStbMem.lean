import Derived.Test.YtmkmealgoafgdaaStbStep
import Derived.Test.YtmkmealgoafgdaaOnly
import Derived.Sort.Row
/- A row of ints of the call's own, and whatever else stands while it is sorted. -/
namespace Go.Proofs.Ytmkmealgoafgdaa
open Go Go.RowKit Go.Sort
set_option linter.unusedVariables false
set_option linter.unusedSimpArgs false

/-- What stands while a block's cells are written. -/
structure Keep (g : Nat) (K : World → Prop) : Prop where
  drew : ∀ w, K w → K w.drew
  set : ∀ w k v, K w → K (w.setCell ⟨g, k, none⟩ v)
theorem Keep.drewN {g : Nat} {K : World → Prop} (h : Keep g K) (w : World) (n : Nat) (hw : K w) : K (w.drewN n) := by
  induction n with
  | zero => exact hw
  | succ n ih => exact h.drew _ ih
/-- A row of ints of the call's own. -/
structure St (K : World → Prop) (B g c : Nat) (d : Array Int) (w : World) : Prop where
  own : w.ownsRow B 3 1 (.slice (some ⟨g, 0, none⟩) d.size c) d.size (d.toList.map (Value.int .i64))
  keep : K w
section
variable {K : World → Prop} {B g c : Nat} {d : Array Int} {w : World}
theorem St.lt (h : St K B g c d w) : g < w.heap.size := owns_lt h.own rfl
theorem St.cell (h : St K B g c d w) {t : Nat} (ht : t < d.size) : w.cell? ⟨g, t, none⟩ = some (.int .i64 d[t]!) := by
  have := h.own.cellAt t (by omega)
  rw [this, List.getElem?_map, Array.getElem?_toList]
  simp [ht]
theorem St.frozen (h : St K B g c d w) (t : Nat) : w.frozen? ⟨g, t, none⟩ = false := h.own.frozenAt t
theorem own_drewN {v : Value} {e size n : Nat} {xs : List Value} (h : w.ownsRow B e size v n xs) (q : Nat) : (w.drewN q).ownsRow B e size v n xs := by
  exact (Only.drewN (Only.refl [] w) q).owns h (by simp)
theorem St.drewN (hK : Keep g K) (h : St K B g c d w) (q : Nat) : St K B g c d (w.drewN q) := ⟨own_drewN h.own q, hK.drewN w q h.keep⟩
theorem St.drew1 (hK : Keep g K) (h : St K B g c d w) : St K B g c d w.drew := h.drewN hK 1
theorem St.swap (hK : Keep g K) (h : St K B g c d w) {j k : Nat} (hj : j < d.size) (hk : k < d.size) :
    St K B g c (swp d j k) ((w.setCell ⟨g, j, none⟩ (.int .i64 d[k]!)).setCell ⟨g, k, none⟩ (.int .i64 d[j]!)) := by
  refine ⟨?_, hK.set _ _ _ (hK.set _ _ _ h.keep)⟩
  have h1 := (h.own.stored j (.int .i64 d[k]!)).1
  have h2 := (h1.stored k (.int .i64 d[j]!)).1
  have e : (swp d j k).toList.map (Value.int .i64) = ((d.toList.map (Value.int .i64)).set j (.int .i64 d[k]!)).set k (.int .i64 d[j]!) := by
    unfold swp; simp [List.map_set]
  rw [e, swp_size]
  exact h2
end
end Go.Proofs.Ytmkmealgoafgdaa
