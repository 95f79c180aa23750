import Derived.Test.YtncaichachipkaaTotalQ
/- exact.Sum.Above. -/
namespace Go.Proofs.Ytncaichachipkaa
open Go Go.RowKit
set_option linter.unusedVariables false
set_option linter.unusedSimpArgs false
set_option maxRecDepth 20000
set_option maxHeartbeats 4000000

theorem above_any (t s : Int) (W : World) :
    Calls Try.prog 39 #[totV t, totV s] W fun e w' => e = .returned (.bool (decide (s < t))) ∧ Below W.heap.size W w' := by
  have hl := tL_in t
  have hl2 := tL_in s
  have h1 := tH_tL t
  have h2 := tH_tL s
  have B := Lib.hid (((Below.refl W.heap.size W).alloc (Nat.le_refl _) (.cells #[.int .i64 (tH t), .int .u64 (tL t)] 58)).alloc (by simp) (.cells #[.int .i64 (tH s), .int .u64 (tL s)] 58))
  unfold totV
  rcases Int.lt_trichotomy (tH s) (tH t) with h | h | h
  · have hd : decide (s < t) = true := by rw [decide_eq_true_eq]; omega
    have HD := Lib.hid hd
    clear hd h1 h2 hl hl2
    generalize tH t = a at *
    generalize tH s = b at *
    generalize tL t = c at *
    generalize tL s = d at *
    go_enter Try.func39, Try.ntmps39
    go_wp2
    go_ret
    exact ⟨ret_bool HD.out.symm, B.out⟩
  · have hd : decide (s < t) = decide (tL s < tL t) := by rw [decide_eq_decide]; omega
    have HD := Lib.hid hd
    clear hd h1 h2 hl hl2
    rw [← h] at B ⊢
    clear h
    generalize tH s = b at *
    generalize tL t = c at *
    generalize tL s = d at *
    by_cases hq : d < c
    · have hq2 := Lib.hid (show decide (d < c) = true by simpa using hq)
      go_enter Try.func39, Try.ntmps39
      go_wp2
      go_ret
      exact ⟨ret_bool (by rw [HD.out, hq2.out]), B.out⟩
    · have hq2 := Lib.hid (show decide (d < c) = false by simpa using hq)
      go_enter Try.func39, Try.ntmps39
      go_wp2
      go_ret
      exact ⟨ret_bool (by rw [HD.out, hq2.out]), B.out⟩
  · have hd : decide (s < t) = false := by rw [decide_eq_false_iff_not]; omega
    have HD := Lib.hid hd
    have hne : (tH t == tH s) = false := by rw [beq_eq_false_iff_ne]; omega
    have hnb : ¬ tH s < tH t := by omega
    clear hd h1 h2 hl hl2
    generalize tH t = a at *
    generalize tH s = b at *
    generalize tL t = c at *
    generalize tL s = d at *
    go_enter Try.func39, Try.ntmps39
    go_wp2
    go_ret
    exact ⟨ret_bool HD.out.symm, B.out⟩
end Go.Proofs.Ytncaichachipkaa
