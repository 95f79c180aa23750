import Derived.Test.YtcdjdpgjflhjiaaAwake
import Derived.IntWalk
/- quoinlaw1.UnitRatios answers true, whatever it is given. -/
namespace Go.Proofs.Ytcdjdpgjflhjiaa
open Go.RowKit
set_option linter.unusedVariables false
set_option linter.unusedSimpArgs false

theorem u64_bd (n : Int) : 0 ≤ IntKind.u64.wrap n ∧ IntKind.u64.wrap n ≤ 18446744073709551615 := by rw [IntKind.wrap_u64]; omega

theorem conv_mod (a c : Int) (h1 : 1 ≤ c) (h2 : c ≤ 1073741824) : 0 ≤ wrap64 ((IntKind.u64.wrap a).tmod (c + 1)) ∧ wrap64 ((IntKind.u64.wrap a).tmod (c + 1)) ≤ c := by
  obtain ⟨d1, e1⟩ := u64_bd a
  rw [Int.tmod_eq_emod_of_nonneg d1]
  have h3 := Int.emod_nonneg (IntKind.u64.wrap a) (show c + 1 ≠ 0 by omega)
  have h4 := Int.emod_lt_of_pos (IntKind.u64.wrap a) (show 0 < c + 1 by omega)
  rw [IntWalk.wrap64_in _ ⟨by omega, by omega⟩]
  omega
theorem ratio_in (n p q : Int) (w : World) (h1 : -1073741824 ≤ n) (h2 : n ≤ 1073741824) (h3 : 1 ≤ q) (h4 : q ≤ 2147483648) (h5 : 0 ≤ p) (h6 : p ≤ q) :
    Calls Try.prog 12 #[.int .i64 n, .int .i64 p, .int .i64 q] w fun e w' => e = .returned (.int .i64 (n * p / q)) ∧ ∃ k, w' = w.drewN k := by
  have h := ratio_any n p q w
  unfold ratZ at h
  rwa [if_pos ⟨⟨by omega, by omega⟩, by omega, by omega, by omega, by omega⟩] at h
theorem ratios_facts (n lo hi c : Int) (h1 : -1073741824 ≤ n) (h2 : n ≤ 1073741824) (h3 : 1 ≤ c) (h4 : c ≤ 1073741824) (h5 : 0 ≤ lo) (h6 : lo ≤ hi) (h7 : hi ≤ c) :
    n * lo / c * c ≤ n * lo ∧ n * lo < n * lo / c * c + c ∧ -1152921504606846976 ≤ n * lo ∧ n * lo ≤ 1152921504606846976 ∧
    (0 ≤ n → n * lo / c ≤ n * hi / c) ∧ (n ≤ 0 → n * hi / c ≤ n * lo / c) ∧ n * c / c = n ∧ n * 0 / c = 0 ∧ n * (2 * lo) / (2 * c) = n * lo / c := by
  obtain ⟨m1, m2⟩ := mul_bd n lo 1073741824 1073741824 h1 h2 (by omega) (by omega)
  have d1 := Int.ediv_mul_le (n * lo) (show c ≠ 0 by omega)
  have d2 := Int.lt_ediv_add_one_mul_self (n * lo) (show 0 < c by omega)
  rw [Int.add_mul] at d2
  refine ⟨d1, by omega, m1, m2, fun h => ?_, fun h => ?_, Int.mul_ediv_cancel _ (by omega), by simp, ?_⟩
  · exact Int.ediv_le_ediv (by omega) (Int.mul_le_mul_of_nonneg_left h6 h)
  · exact Int.ediv_le_ediv (by omega) (Int.mul_le_mul_of_nonpos_left h h6)
  · rw [Int.mul_left_comm, Int.mul_ediv_mul_of_pos _ _ (by omega)]
theorem ratios_walk (a0 a1 a2 a3 : Int) (l0 : -9223372036854775808 ≤ a0) (u0 : a0 ≤ 9223372036854775807) (l1 : -9223372036854775808 ≤ a1) (u1 : a1 ≤ 9223372036854775807) (l2 : -9223372036854775808 ≤ a2) (u2 : a2 ≤ 9223372036854775807)
    (l3 : -9223372036854775808 ≤ a3) (u3 : a3 ≤ 9223372036854775807) (w : World) :
    Calls Try.prog 7 #[.int .i64 a0, .int .i64 a1, .int .i64 a2, .int .i64 a3] w fun e w' => e = .returned (.bool true) ∧ Below w.heap.size w w' := by
  have T0 := Lib.hid (fun w => tame_any a0 1073741824 w l0 u0 (by decide) (by decide))
  obtain ⟨b0, c0⟩ := tameZ_bd a0 1073741824 (by decide)
  generalize tameZ a0 1073741824 = n at *
  clear l0 u0
  obtain ⟨d3, e3⟩ := u64_bd a3
  go_enter Try.func7, Try.ntmps7
  go_wp2_with fail
  refine (T0.out _).mono ?_; rintro e w' ⟨rfl, rfl⟩
  clear T0
  go_wp2_with fail
  generalize IntKind.u64.wrap a3 = A3 at *
  have f1 : 1 ≤ A3 % 1073741824 + 1 := by omega
  have f2 : A3 % 1073741824 + 1 ≤ 1073741824 := by omega
  generalize A3 % 1073741824 + 1 = c at *
  have g1 : IntKind.i64.wrap (c + 1) = c + 1 := IntWalk.i64_in _ (by omega)
  have g2 : (0 : Int) < c + 1 := by omega
  go_quiet (fail)
  clear g1 g2
  obtain ⟨i1, i2⟩ := conv_mod a1 c f1 f2
  obtain ⟨i3, i4⟩ := conv_mod a2 c f1 f2
  go_wp2_with fail
  generalize wrap64 ((IntKind.u64.wrap a1).tmod (c + 1)) = A at *
  generalize wrap64 ((IntKind.u64.wrap a2).tmod (c + 1)) = B at *
  have j1 : 0 ≤ min A B := by omega
  have j2 : min A B ≤ max A B := by omega
  have j3 : max A B ≤ c := by omega
  generalize min A B = lo at *
  generalize max A B = hi at *
  obtain ⟨k1, k2, k3, k4, k5, k6, k7, k8, k9⟩ := ratios_facts n lo hi c b0 c0 f1 f2 j1 j2 j3
  have R1 := Lib.hid (fun w => ratio_in n lo c w b0 c0 f1 (by omega) j1 (by omega))
  have R2 := Lib.hid (fun w => ratio_in n hi c w b0 c0 f1 (by omega) (by omega) j3)
  have R3 := Lib.hid (fun w => ratio_in n c c w b0 c0 f1 (by omega) (by omega) (by omega))
  have R4 := Lib.hid (fun w => ratio_in n 0 c w b0 c0 f1 (by omega) (by omega) (by omega))
  have R5 := Lib.hid (fun w => ratio_in n (2 * lo) (2 * c) w b0 c0 (by omega) (by omega) (by omega) (by omega))
  rw [k7] at R3
  rw [k8] at R4
  rw [k9] at R5
  clear k7 k8 k9 d3 e3
  refine (R1.out _).mono ?_; rintro e w' ⟨rfl, kk, rfl⟩
  go_wp2_with fail
  refine (R2.out _).mono ?_; rintro e w' ⟨rfl, kk', rfl⟩
  clear R1 R2
  generalize n * lo / c = x at *
  generalize n * hi / c = y at *
  have up : (0 ≤ n ∧ x ≤ y) ∨ (n < 0 ∧ y ≤ x) := by
    rcases Int.lt_or_le n 0 with h | h
    · exact .inr ⟨h, k6 (by omega)⟩
    · exact .inl ⟨h, k5 h⟩
  clear k5 k6
  rcases up with ⟨u1, u2⟩ | ⟨u1, u2⟩
  all_goals
    go_wp2_with fail
    refine (R3.out _).mono ?_; rintro e w' ⟨rfl, k3', rfl⟩
    go_wp2_with fail
    refine (R4.out _).mono ?_; rintro e w' ⟨rfl, k4', rfl⟩
    go_wp2_with fail
    refine (R5.out _).mono ?_; rintro e w' ⟨rfl, k5', rfl⟩
    go_wp2_with (go_at_call 9; refine (awake_any _).mono ?_; rintro e w' ⟨rfl, hbel⟩)
    go_ret
    exact ⟨rfl, below_undrew hbel⟩
end Go.Proofs.Ytcdjdpgjflhjiaa
