import Derived.Test.YthneapnijfmpmaaTotSub
import Derived.Test.YthneapnijfmpmaaExactSum
import Derived.Lib.VarintBits
/- exact.Sum.Half. -/
namespace Go.Proofs.Ythneapnijfmpmaa
open Go Go.RowKit
set_option linter.unusedVariables false
set_option linter.unusedSimpArgs false
set_option maxRecDepth 20000
set_option maxHeartbeats 4000000

theorem half_code (t : Int) (ht : Tot t) : tH t / 2 = tH (t / 2) ∧ bits .or .u64 (IntKind.u64.wrap (IntKind.u64.wrap (tH t) * 9223372036854775808)) (tL t / 2) = tL (t / 2) := by
  obtain ⟨t1, t2⟩ := ht
  have hL := tL_in t
  have hE := tH_tL t
  constructor
  · unfold tH; omega
  · rw [IntKind.wrap_u64, IntKind.wrap_u64]
    have h0 : tL (t / 2) = (tH t % 2) * 9223372036854775808 + tL t / 2 := by
      have h2 := tL_in (t / 2)
      have h3 := tH_tL (t / 2)
      have h4 : tH (t / 2) = tH t / 2 := by unfold tH; omega
      omega
    have h1 : tH t % 18446744073709551616 * 9223372036854775808 % 18446744073709551616 = (tH t % 2) * 9223372036854775808 := by omega
    rw [h1, h0]
    have hx : bits .or .u64 (tH t % 2 * 9223372036854775808) (tL t / 2) = bits .or .u64 (tL t / 2) (tH t % 2 * 9223372036854775808) := by simp only [bits, BitVec.or_comm]
    rw [hx, u64_orv63 _ _ (by omega) (by omega) (by omega) (by omega) (by omega)]
    omega
theorem half_any (t : Int) (ht : Tot t) (W : World) :
    Calls Try.prog 28 #[totV t] W fun e w' => e = .returned (totV (t / 2)) ∧ Below W.heap.size W w' := by
  have hl := tL_in t
  obtain ⟨e1, e2⟩ := half_code t ht
  have E1 := Lib.hid e1
  have E2 := Lib.hid e2
  clear e1 e2
  go_enter Try.func28, Try.ntmps28
  go_wp2
  refine bodyPost_ret (v := totV (t / 2)) (by simp [results, Try.results28, go_sem, E1.out, E2.out]) rfl ⟨rfl, ?_⟩
  exact (((Below.refl _ _).alloc (Nat.le_refl _) _).alloc (by simp) _)
end Go.Proofs.Ythneapnijfmpmaa
