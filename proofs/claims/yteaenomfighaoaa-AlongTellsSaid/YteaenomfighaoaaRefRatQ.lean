import Derived.Test.YteaenomfighaoaaZQ
import Derived.Test.YteaenomfighaoaaRatioQ
/- quoinref1.Ratio by its contract. -/
namespace Go.Proofs.Yteaenomfighaoaa
open Go Go.RowKit
set_option linter.unusedVariables false
set_option linter.unusedSimpArgs false
set_option maxRecDepth 20000
set_option maxHeartbeats 4000000

theorem bit_step (a : Int) (m : Nat) : a / 2 ^ m = 2 * (a / 2 ^ (m + 1)) + a / 2 ^ m % 2 := by
  have h : a / 2 ^ (m + 1) = a / 2 ^ m / 2 := by
    rw [Int.pow_succ, Int.ediv_ediv_of_nonneg (Int.le_of_lt (Int.pow_pos (by omega)))]
  omega
theorem pow_bd (a : Int) (m : Nat) (h0 : 0 ≤ a) : 0 ≤ a / 2 ^ m ∧ a / 2 ^ m ≤ a := div_le_self a (2 ^ m) h0 (Int.le_of_lt (Int.pow_pos (by omega)))
theorem top_bit (a : Int) (h0 : 0 ≤ a) (h : a ≤ 1152921504606846976) : a / 2 ^ 61 = 0 := Int.ediv_eq_zero_of_lt h0 (by omega)
theorem and1_all : ∀ n : Int, bits .and .i64 n 1 = n % 2 := fun n => and_mask_i64 n 1 (by decide)
theorem quot_le (x y q T p : Int) (h : q * x + y = T * p) (h1 : 1 ≤ q) (hy : 0 ≤ y) (hT : 0 ≤ T) (hp : p ≤ q) : x ≤ T := by
  have h2 : T * p ≤ T * q := Int.mul_le_mul_of_nonneg_left hp hT
  have h3 : q * x ≤ q * T := by rw [Int.mul_comm q T]; omega
  exact Int.le_of_mul_le_mul_left h3 (by omega)
theorem quot_eq (x y q X : Int) (h : q * x + y = X) (h1 : 1 ≤ q) (hy : 0 ≤ y) (hq : y < q) : x = X / q ∧ y = X % q := by
  subst h
  rw [Int.add_comm, Int.add_mul_ediv_left _ _ (by omega), Int.add_mul_emod_self_left, Int.ediv_eq_zero_of_lt hy hq, Int.emod_eq_of_lt hy hq]
  omega

theorem rratio_pos (a p q : Int) (w : World) (h2 : 0 ≤ a) (h3 : a ≤ 1152921504606846976) (h4 : 1 ≤ q) (h5 : q ≤ 1152921504606846976) (h6 : 0 ≤ p) (h7 : p ≤ q) :
    Calls Try.prog 30 #[.int .i64 a, .int .i64 p, .int .i64 q] w fun e w' => e = .returned (.int .i64 (a * p / q)) ∧ w = w' := by
  have b1 : decide (q < 1) = false := by simp; omega
  have b2 : decide (1152921504606846976 < q) = false := by simp; omega
  have b3 : decide (p < 0) = false := by simp; omega
  have b4 : decide (q < p) = false := by simp; omega
  have b5 : decide (a < -1152921504606846976) = false := by simp; omega
  have b6 : decide (1152921504606846976 < a) = false := by simp; omega
  have b7 : decide (a < 0) = false := by simp; omega
  have a1 := and1_all
  go_enter Try.func30, Try.ntmps30
  go_wp2
  clear b1 b2 b3 b4 b5 b6 b7
  go_loop [8, 9, 10] (fun x y i => ∃ (m : Nat) (u v : Int), m ≤ 61 ∧ i = .int .i64 ((m : Int) - 1) ∧ x = .int .i64 u ∧ y = .int .i64 v ∧ Hid (q * u + v = a / 2 ^ m * p) ∧ 0 ≤ v ∧ v < q ∧ 0 ≤ u)
    (fun _ _ i => (intOf i + 1).toNat)
  case atStart => exact ⟨61, 0, 0, by omega, rfl, rfl, rfl, Lib.hid (by rw [top_bit a h2 h3]; simp), by omega, by omega, by omega⟩
  case round =>
    obtain ⟨m, u, v, hm, rfl, rfl, rfl, he, hv0, hv1, hu0⟩ := hrel
    obtain ⟨T0, T1⟩ := pow_bd a m h2
    have hu1 := quot_le u v q _ p he.out h4 hv0 T0 h7
    by_cases hm0 : m = 0
    · subst hm0
      have hf := he.out
      rw [show a / 2 ^ 0 = a by simp] at hf
      have hq := Lib.hid (quot_eq u v q _ hf h4 hv0 hv1).1
      clear he hf
      go_wp2
      go_ret
      exact ⟨ret_int hq.out, rfl⟩
    · obtain ⟨m', rfl⟩ : ∃ m', m = m' + 1 := ⟨m - 1, by omega⟩
      have hs := bit_step a m'
      obtain ⟨T2, T3⟩ := pow_bd a m' h2
      have hsh : ((m' + 1 : Nat) : Int) - 1 = (m' : Int) := by omega
      have he2 : q * (2 * u) = 2 * (q * u) := by rw [Int.mul_left_comm]
      have hT : a / 2 ^ m' * p = 2 * (a / 2 ^ (m' + 1) * p) + a / 2 ^ m' % 2 * p := by
        conv => lhs; rw [hs]
        rw [Int.add_mul, Int.mul_assoc]
      have hst : Hid ((a / 2 ^ m' % 2 == 1) = true ∧ q * (2 * u) + (2 * v + p) = a / 2 ^ m' * p ∨ (a / 2 ^ m' % 2 == 1) = false ∧ q * (2 * u) + 2 * v = a / 2 ^ m' * p) := by
        have hh := he.out
        by_cases h : a / 2 ^ m' % 2 = 1
        · rw [h, Int.one_mul] at hT
          exact Lib.hid (.inl ⟨by simpa using h, by omega⟩)
        · rw [show a / 2 ^ m' % 2 = 0 by omega, Int.zero_mul] at hT
          exact Lib.hid (.inr ⟨by simpa using h, by omega⟩)
      clear hs he2 hT he
      rcases hst.out with ⟨hb, hx⟩ | ⟨hb, hx⟩
      all_goals
        have HX := Lib.hid hx
        clear hst hx
        go_wp2_with fail
        go_loop [8, 9] (fun x y => ∃ (u' v' : Int), x = .int .i64 u' ∧ y = .int .i64 v' ∧ Hid (q * u' + v' = a / 2 ^ m' * p) ∧ 0 ≤ v' ∧ v' < 3 * q ∧ 0 ≤ u') (fun _ y => (intOf y).toNat)
        case atStart => exact ⟨_, _, rfl, rfl, HX, by omega, by omega, by omega⟩
        case round =>
          clear HX
          obtain ⟨u', v', rfl, rfl, he', hv0', hv1', hu0'⟩ := hrel
          have hu1' := quot_le u' v' q _ p he'.out h4 hv0' T2 h7
          by_cases hq : q ≤ v'
          · have he2 : Hid (q * (u' + 1) + (v' - q) = a / 2 ^ m' * p) := Lib.hid (by rw [Int.mul_add, Int.mul_one]; have := he'.out; omega)
            go_wp2
            go_round
            case rel => exact ⟨u' + 1, v' - q, rfl, rfl, he2, by omega, by omega, by omega⟩
            case measure => simp [intOf]; omega
          · go_wp2
            go_round
            case rel => exact ⟨m', u', v', by omega, rfl, rfl, rfl, he', hv0', by omega, hu0'⟩
            case measure => simp [intOf]
theorem rratio_neg (a p q : Int) (w : World) (h2' : 0 < a) (h3 : a ≤ 1152921504606846976) (h4 : 1 ≤ q) (h5 : q ≤ 1152921504606846976) (h6 : 0 ≤ p) (h7 : p ≤ q) :
    Calls Try.prog 30 #[.int .i64 (-a), .int .i64 p, .int .i64 q] w fun e w' => e = .returned (.int .i64 (-(a * p) / q)) ∧ w = w' := by
  have h2 : 0 ≤ a := by omega
  have b1 : decide (q < 1) = false := by simp; omega
  have b2 : decide (1152921504606846976 < q) = false := by simp; omega
  have b3 : decide (p < 0) = false := by simp; omega
  have b4 : decide (q < p) = false := by simp; omega
  have b5 : decide (-a < -1152921504606846976) = false := by simp; omega
  have b6 : decide (1152921504606846976 < -a) = false := by simp; omega
  have b7 : decide (-a < 0) = true := by simp; omega
  have a1 := and1_all
  go_enter Try.func30, Try.ntmps30
  go_wp2
  clear b1 b2 b3 b4 b5 b6 b7
  go_loop [8, 9, 10] (fun x y i => ∃ (m : Nat) (u v : Int), m ≤ 61 ∧ i = .int .i64 ((m : Int) - 1) ∧ x = .int .i64 u ∧ y = .int .i64 v ∧ Hid (q * u + v = a / 2 ^ m * p) ∧ 0 ≤ v ∧ v < q ∧ 0 ≤ u)
    (fun _ _ i => (intOf i + 1).toNat)
  case atStart => exact ⟨61, 0, 0, by omega, rfl, rfl, rfl, Lib.hid (by rw [top_bit a h2 h3]; simp), by omega, by omega, by omega⟩
  case round =>
    obtain ⟨m, u, v, hm, rfl, rfl, rfl, he, hv0, hv1, hu0⟩ := hrel
    obtain ⟨T0, T1⟩ := pow_bd a m h2
    have hu1 := quot_le u v q _ p he.out h4 hv0 T0 h7
    by_cases hm0 : m = 0
    · subst hm0
      have hf := he.out
      rw [show a / 2 ^ 0 = a by simp] at hf
      have hq := Lib.hid (neg_div (a * p) q u v (by omega) hf hv0 hv1)
      clear he hf
      by_cases hv : 0 < v
      · go_wp2
        go_ret
        exact ⟨ret_int (by rw [hq.out, if_pos hv]; omega), rfl⟩
      · go_wp2
        go_ret
        exact ⟨ret_int (by rw [hq.out, if_neg (by omega)]), rfl⟩
    · obtain ⟨m', rfl⟩ : ∃ m', m = m' + 1 := ⟨m - 1, by omega⟩
      have hs := bit_step a m'
      obtain ⟨T2, T3⟩ := pow_bd a m' h2
      have hsh : ((m' + 1 : Nat) : Int) - 1 = (m' : Int) := by omega
      have he2 : q * (2 * u) = 2 * (q * u) := by rw [Int.mul_left_comm]
      have hT : a / 2 ^ m' * p = 2 * (a / 2 ^ (m' + 1) * p) + a / 2 ^ m' % 2 * p := by
        conv => lhs; rw [hs]
        rw [Int.add_mul, Int.mul_assoc]
      have hst : Hid ((a / 2 ^ m' % 2 == 1) = true ∧ q * (2 * u) + (2 * v + p) = a / 2 ^ m' * p ∨ (a / 2 ^ m' % 2 == 1) = false ∧ q * (2 * u) + 2 * v = a / 2 ^ m' * p) := by
        have hh := he.out
        by_cases h : a / 2 ^ m' % 2 = 1
        · rw [h, Int.one_mul] at hT
          exact Lib.hid (.inl ⟨by simpa using h, by omega⟩)
        · rw [show a / 2 ^ m' % 2 = 0 by omega, Int.zero_mul] at hT
          exact Lib.hid (.inr ⟨by simpa using h, by omega⟩)
      clear hs he2 hT he
      rcases hst.out with ⟨hb, hx⟩ | ⟨hb, hx⟩
      all_goals
        have HX := Lib.hid hx
        clear hst hx
        go_wp2_with fail
        go_loop [8, 9] (fun x y => ∃ (u' v' : Int), x = .int .i64 u' ∧ y = .int .i64 v' ∧ Hid (q * u' + v' = a / 2 ^ m' * p) ∧ 0 ≤ v' ∧ v' < 3 * q ∧ 0 ≤ u') (fun _ y => (intOf y).toNat)
        case atStart => exact ⟨_, _, rfl, rfl, HX, by omega, by omega, by omega⟩
        case round =>
          clear HX
          obtain ⟨u', v', rfl, rfl, he', hv0', hv1', hu0'⟩ := hrel
          have hu1' := quot_le u' v' q _ p he'.out h4 hv0' T2 h7
          by_cases hq : q ≤ v'
          · have he2 : Hid (q * (u' + 1) + (v' - q) = a / 2 ^ m' * p) := Lib.hid (by rw [Int.mul_add, Int.mul_one]; have := he'.out; omega)
            go_wp2
            go_round
            case rel => exact ⟨u' + 1, v' - q, rfl, rfl, he2, by omega, by omega, by omega⟩
            case measure => simp [intOf]; omega
          · go_wp2
            go_round
            case rel => exact ⟨m', u', v', by omega, rfl, rfl, rfl, he', hv0', by omega, hu0'⟩
            case measure => simp [intOf]
theorem rratio_no (n p q : Int) (w : World) (h : ¬ ((-1152921504606846976 ≤ n ∧ n ≤ 1152921504606846976) ∧ 1 ≤ q ∧ q ≤ 1152921504606846976 ∧ 0 ≤ p ∧ p ≤ q)) :
    Calls Try.prog 30 #[.int .i64 n, .int .i64 p, .int .i64 q] w fun e w' => e = .returned (.int .i64 0) ∧ w = w' := by
  have key : q < 1 ∨ (1 ≤ q ∧ 1152921504606846976 < q) ∨ (1 ≤ q ∧ q ≤ 1152921504606846976 ∧ p < 0) ∨ (1 ≤ q ∧ q ≤ 1152921504606846976 ∧ 0 ≤ p ∧ q < p) ∨
     (1 ≤ q ∧ q ≤ 1152921504606846976 ∧ 0 ≤ p ∧ p ≤ q ∧ n < -1152921504606846976) ∨ (1 ≤ q ∧ q ≤ 1152921504606846976 ∧ 0 ≤ p ∧ p ≤ q ∧ -1152921504606846976 ≤ n ∧ 1152921504606846976 < n) := by omega
  clear h
  rcases key with h1 | ⟨h1, h2⟩ | ⟨h1, h2, h3⟩ | ⟨h1, h2, h3, h4⟩ | ⟨h1, h2, h3, h4, h5⟩ | ⟨h1, h2, h3, h4, h5, h6⟩
  all_goals
    go_enter Try.func30, Try.ntmps30
    go_wp2
    go_ret
    exact ⟨rfl, rfl⟩
theorem rratio_any (n p q : Int) (w : World) :
    Calls Try.prog 30 #[.int .i64 n, .int .i64 p, .int .i64 q] w fun e w' => e = .returned (.int .i64 (ratZ n p q)) ∧ w = w' := by
  unfold ratZ
  by_cases h : (-1152921504606846976 ≤ n ∧ n ≤ 1152921504606846976) ∧ 1 ≤ q ∧ q ≤ 1152921504606846976 ∧ 0 ≤ p ∧ p ≤ q
  · rw [if_pos h]
    obtain ⟨⟨h2, h3⟩, h4, h5, h6, h7⟩ := h
    by_cases hn : n < 0
    · have := rratio_neg (-n) p q w (by omega) (by omega) h4 h5 h6 h7
      rwa [Int.neg_neg, show -(-n * p) = n * p by rw [Int.neg_mul, Int.neg_neg]] at this
    · exact rratio_pos n p q w (by omega) h3 h4 h5 h6 h7
  · rw [if_neg h]; exact rratio_no n p q w h
end Go.Proofs.Yteaenomfighaoaa
