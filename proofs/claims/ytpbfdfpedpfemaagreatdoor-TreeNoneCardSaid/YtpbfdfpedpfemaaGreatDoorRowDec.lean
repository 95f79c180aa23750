import Derived.Test.YtpbfdfpedpfemaaGreatDoorOnly
import Derived.Test.YtpbfdfpedpfemaaGreatDoorDeclNum
/- A row's declarations, as the walk reads them. No program is named here. -/
namespace Go.Proofs.YtpbfdfpedpfemaaGreatDoor
open Go Go.RowKit
set_option linter.unusedVariables false
set_option linter.unusedSimpArgs false
set_option maxRecDepth 20000
set_option maxHeartbeats 4000000

theorem Row.dec {w : World} {B : Nat} {A : Option Addr} {ds : List Dc} (h : Row w B A (i64s (dCells ds))) {k : Nat} (hk : k < ds.length) :
    ∃ ad, A = some ad ∧ ad.block < B ∧ w.cell? (ad.add (k * 4)) = some (.int .i64 ds[k].p) ∧ w.cell? ⟨(ad.add (k * 4)).block, (ad.add (k * 4)).off + 1, none⟩ = some (.int .i64 ds[k].w) ∧
      w.cell? ⟨(ad.add (k * 4)).block, (ad.add (k * 4)).off + 2, none⟩ = some (.int .i64 ds[k].k) ∧ w.cell? ⟨(ad.add (k * 4)).block, (ad.add (k * 4)).off + 3, none⟩ = some (.int .i64 ds[k].n) := by
  have hl := dCells_length ds
  have hl' := i64s_length (dCells ds)
  obtain ⟨ad, e, hb, hc⟩ := h (by omega)
  obtain ⟨g0, g1, g2, g3⟩ := dCells_get ds k hk
  have at_ : ∀ j, j < 4 → ∀ z, (dCells ds)[k * 4 + j]? = some z → w.cell? (ad.add (k * 4 + j)) = some (.int .i64 z) := fun j hj z hz => by
    have h1 : k * 4 + j < (i64s (dCells ds)).length := by omega
    rw [hc _ h1]
    have h2 : k * 4 + j < (dCells ds).length := by omega
    rw [List.getElem?_eq_getElem h2] at hz
    injection hz with hz
    simp [i64s, hz]
  have far : ∀ j, 0 < j → (⟨(ad.add (k * 4)).block, (ad.add (k * 4)).off + j, none⟩ : Addr) = ad.add (k * 4 + j) := fun j hj => by
    have : (ad.add (k * 4)).add j = ad.add (k * 4 + j) := add_of_add _ _ _
    rw [← this]
    generalize ad.add (k * 4) = b
    unfold Addr.add
    rw [if_neg (by omega)]
  refine ⟨ad, e, hb, at_ 0 (by omega) _ g0, ?_, ?_, ?_⟩
  · rw [far 1 (by omega)]; exact at_ 1 (by omega) _ g1
  · rw [far 2 (by omega)]; exact at_ 2 (by omega) _ g2
  · rw [far 3 (by omega)]; exact at_ 3 (by omega) _ g3
end Go.Proofs.YtpbfdfpedpfemaaGreatDoor
