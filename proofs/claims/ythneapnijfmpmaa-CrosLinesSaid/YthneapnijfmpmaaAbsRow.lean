import Derived.Test.YthneapnijfmpmaaHalfRow
import Derived.Test.YthneapnijfmpmaaLTame
import Derived.Test.YthneapnijfmpmaaAppTold
import Derived.Test.YthneapnijfmpmaaMinTwo
import Derived.Lib.MinMax
/- A row of the call's own whose elements become their amounts. -/
namespace Go.Proofs.Ythneapnijfmpmaa
open Go Go.RowKit
set_option linter.unusedVariables false
set_option linter.unusedSimpArgs false

def absI (z : Int) : Int := max z (-z)
theorem own_putI {w : World} {B0 n c g : Nat} {zs : List Int} (h : w.ownsRow B0 2 1 (.slice (some ⟨g, 0, none⟩) n c) n (i64s zs)) (k : Nat) (v : Int) :
    (w.setCell ⟨g, k, none⟩ (.int .i64 v)).ownsRow B0 2 1 (.slice (some ⟨g, 0, none⟩) n c) n (i64s (zs.set k v)) := by
  have h1 := (h.stored k (.int .i64 v)).1
  unfold i64s at h1 ⊢
  rwa [List.map_set]
theorem own_cellI {w : World} {B0 n c g : Nat} {zs : List Int} (h : w.ownsRow B0 2 1 (.slice (some ⟨g, 0, none⟩) n c) n (i64s zs)) {k : Nat} (hk : k < zs.length) : w.cell? ⟨g, k, none⟩ = some (.int .i64 zs[k]) := by
  have e : (i64s zs).length = zs.length := by simp [i64s]
  rw [h.cellAt k (by have := h.1; omega), List.getElem?_eq_getElem (by omega)]
  simp [i64s]
theorem own_lenI {w : World} {B0 n c : Nat} {A : Option Addr} {zs : List Int} (h : w.ownsRow B0 2 1 (.slice A n c) n (i64s zs)) : zs.length = n := by
  have := h.1
  simp [i64s] at this
  omega
end Go.Proofs.Ythneapnijfmpmaa
