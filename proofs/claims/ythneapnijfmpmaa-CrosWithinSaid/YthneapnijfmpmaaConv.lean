import Derived.Test.YthneapnijfmpmaaMem
/- int64(uint64(a) % c). No program is named here. -/
namespace Go.Proofs.Ythneapnijfmpmaa
open Go Go.RowKit

theorem conv_lt (a c : Int) (h1 : 1 ≤ c) (h2 : c ≤ 4611686018427387904) : ∃ k, wrap64 ((IntKind.u64.wrap a).tmod c) = k ∧ 0 ≤ k ∧ k < c := by
  have hw : 0 ≤ IntKind.u64.wrap a := by rw [IntKind.wrap_u64]; omega
  rw [Int.tmod_eq_emod_of_nonneg hw]
  have h3 := Int.emod_nonneg (IntKind.u64.wrap a) (show c ≠ 0 by omega)
  have h4 := Int.emod_lt_of_pos (IntKind.u64.wrap a) (show 0 < c by omega)
  refine ⟨IntKind.u64.wrap a % c, IntWalk.wrap64_in _ ⟨by omega, by omega⟩, h3, h4⟩
end Go.Proofs.Ythneapnijfmpmaa
