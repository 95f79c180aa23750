import Derived.Test.YthneapnijfmpmaaTotal
/- exact.Sum.Minus. -/
namespace Go.Proofs.Ythneapnijfmpmaa
open Go Go.RowKit
set_option linter.unusedVariables false
set_option linter.unusedSimpArgs false
set_option maxRecDepth 20000
set_option maxHeartbeats 4000000

theorem sub64_run (x y : Int) (hx : 0 ≤ x) (hy : 0 ≤ y) (hy2 : y < 18446744073709551616) (w : World) : (callFunc 26 #[.int .u64 x, .int .u64 y, .int .u64 0]).run Try.prog w =
    .ok (.value (.tuple #[.int .u64 ((x + 18446744073709551616 - y) % 18446744073709551616), .int .u64 (if x < y then 1 else 0)])) w := by
  obtain ⟨x, rfl⟩ := Int.eq_ofNat_of_zero_le hx
  obtain ⟨y, rfl⟩ := Int.eq_ofNat_of_zero_le hy
  rw [run_callFunc_extern Try.func26 (by kernel_rfl) (by kernel_rfl) (by kernel_rfl) (e := sub64Entry) (by kernel_rfl), show (0 : Int) = ((0 : Nat) : Int) from rfl, run_sub64 x y 0 (by omega)]
  simp only [Result.andThen, Nat.sub_zero, Nat.add_zero]
  refine congrArg (fun z => Result.ok (Next.value (.tuple z)) w) ?_
  have e1 : ((x + 18446744073709551616 - y) % 18446744073709551616 : Nat) = ((x : Int) + 18446744073709551616 - y) % 18446744073709551616 := by omega
  have e2 : (((if x < y then 1 else 0) : Nat) : Int) = if (x : Int) < y then 1 else 0 := by split <;> split <;> omega
  rw [e1, e2]
  rfl
theorem minus_any (t s : Int) (ht : Tot t) (hs : Tot s) (W : World) :
    Calls Try.prog 19 #[totV t, totV s] W fun e w' => e = .returned (totV (t - s)) ∧ Below W.heap.size W w' := by
  have hl := tL_in t
  have hl2 := tL_in s
  obtain ⟨e1, e2⟩ := minus_code t s ht hs
  have R := sub64_run (tL t) (tL s) hl.1 hl2.1 hl2.2
  generalize (if tL t < tL s then (1 : Int) else 0) = c at *
  have R2 := Lib.hid R
  clear R
  have E1 := Lib.hid e1
  have E2 := Lib.hid e2
  clear e1 e2 ht hs
  go_enter Try.func19, Try.ntmps19
  go_wp2_with (rw [R2.out])
  refine bodyPost_ret (v := totV (t - s)) (by simp [results, Try.results19, go_sem, E1.out, E2.out]) rfl ⟨rfl, ?_⟩
  exact ((((Below.refl _ _).alloc (Nat.le_refl _) _).alloc (by simp) _).alloc (by simp; omega) _)
end Go.Proofs.Ythneapnijfmpmaa
