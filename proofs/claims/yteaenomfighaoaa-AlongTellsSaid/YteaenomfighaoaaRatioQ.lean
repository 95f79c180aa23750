import Derived.Test.YteaenomfighaoaaZQ
import Derived.Test.YteaenomfighaoaaDivQ
/- unit.Ratio returns the floor of n times part over whole within its bounds, and 0 beyond them. -/
namespace Go.Proofs.Yteaenomfighaoaa
open Go.RowKit
set_option linter.unusedVariables false
set_option linter.unusedSimpArgs false

theorem mul_any (x y : Int) (hx0 : 0 ≤ x) (hx : x < 18446744073709551616) (hy0 : 0 ≤ y) (hy : y < 18446744073709551616) (w : World) :
    Calls Try.prog 40 #[.int .u64 x, .int .u64 y] w fun e w' => e = .returned (.tuple #[.int .u64 (x * y / 18446744073709551616), .int .u64 (x * y % 18446744073709551616)]) ∧ w = w' := by
  obtain ⟨x, rfl⟩ := Int.eq_ofNat_of_zero_le hx0
  obtain ⟨y, rfl⟩ := Int.eq_ofNat_of_zero_le hy0
  refine (Try.bits_Mul64 x y (by omega) (by omega) w).mono ?_
  rintro e w' ⟨rfl, rfl⟩
  exact ⟨ret_u64s (by rw [Int.natCast_ediv, Int.natCast_mul]; rfl) (by rw [Int.natCast_emod, Int.natCast_mul]; rfl), rfl⟩
/-- Div64 at whatever upper half below y. -/
theorem div_full (h l y : Int) (hh : 0 ≤ h) (hl0 : 0 ≤ l) (hl : l < 18446744073709551616) (hy : y < 18446744073709551616) (h0 : h < y) (w : World) (A R : Int)
    (HA : Hid (A = (h * 18446744073709551616 + l) / y)) (HR : Hid (R = (h * 18446744073709551616 + l) % y)) :
    Calls Try.prog 41 #[.int .u64 h, .int .u64 l, .int .u64 y] w fun e w' => e = .returned (.tuple #[.int .u64 A, .int .u64 R]) ∧ ∃ n, w' = w.drewN n := by
  by_cases hz : h = 0
  · subst hz
    have e : 0 * 18446744073709551616 + l = l := by omega
    rw [e] at HA HR
    rw [HA.out, HR.out]
    exact div_zero_hi l y hl0 hl hy h0 w
  · refine (div_any h l y (by omega) hl0 hl hy h0 w A R HA HR).mono ?_
    rintro e w' ⟨rfl, rfl⟩
    exact ⟨rfl, 0, rfl⟩

theorem ratio_pos (n p q : Int) (w : World) (h1 : 0 ≤ n) (h2 : n ≤ 1152921504606846976) (h3 : 1 ≤ q) (h4 : q ≤ 1152921504606846976) (h5 : 0 ≤ p) (h6 : p ≤ q) :
    Calls Try.prog 38 #[.int .i64 n, .int .i64 p, .int .i64 q] w fun e w' => e = .returned (.int .i64 (n * p / q)) ∧ ∃ k, w' = w.drewN k := by
  have hb : decide (-1152921504606846976 ≤ n ∧ n ≤ 1152921504606846976) = true := by simp; omega
  obtain ⟨f1, f2, f3, f4, f5, f6, f7, f8, f9, f10⟩ := rat_facts n p q h1 h2 h3 h4 h5 h6
  have hm := Lib.hid (show max n (-n) = n by omega)
  have M := Lib.hid (mul_any n p h1 (by omega) h5 (by omega))
  have D := Lib.hid (fun w => div_full (n * p / 18446744073709551616) (n * p % 18446744073709551616) q f1 f3 f4 (by omega) f2 w (n * p / q) (n * p % q) (Lib.hid (by rw [f10])) (Lib.hid (by rw [f10])))
  clear f9 f10
  generalize n * p / 18446744073709551616 = hi at *
  generalize n * p % 18446744073709551616 = lo at *
  generalize n * p / q = A at *
  generalize n * p % q = R at *
  go_enter Try.func38, Try.ntmps38
  go_wp2_with (first
    | (go_at_call 37; refine (sharable_any _ _).mono ?_; rintro e w' ⟨rfl, rfl⟩; rw [hb])
    | (go_at_call 40; rw [show max n (-n) = n from hm.out]; refine (M.out _).mono ?_; rintro e w' ⟨rfl, rfl⟩)
    | (go_at_call 41; refine (D.out _).mono ?_; rintro e w' ⟨rfl, k, rfl⟩))
  go_ret
  exact ⟨rfl, _, rfl⟩
theorem ratio_neg (n p q : Int) (w : World) (h1 : -1152921504606846976 ≤ n) (h2 : n < 0) (h3 : 1 ≤ q) (h4 : q ≤ 1152921504606846976) (h5 : 0 ≤ p) (h6 : p ≤ q) :
    Calls Try.prog 38 #[.int .i64 n, .int .i64 p, .int .i64 q] w fun e w' => e = .returned (.int .i64 (n * p / q)) ∧ ∃ k, w' = w.drewN k := by
  have hb : decide (-1152921504606846976 ≤ n ∧ n ≤ 1152921504606846976) = true := by simp; omega
  obtain ⟨f1, f2, f3, f4, f5, f6, f7, f8, f9, f10⟩ := rat_facts (-n) p q (by omega) (by omega) h3 h4 h5 h6
  have hm := Lib.hid (show max n (-n) = -n by omega)
  have M := Lib.hid (mul_any (-n) p (by omega) (by omega) h5 (by omega))
  have D := Lib.hid (fun w => div_full (-n * p / 18446744073709551616) (-n * p % 18446744073709551616) q f1 f3 f4 (by omega) f2 w (-n * p / q) (-n * p % q) (Lib.hid (by rw [f10])) (Lib.hid (by rw [f10])))
  have e := neg_div (-n * p) q (-n * p / q) (-n * p % q) (by omega) f9 f7 f8
  rw [show -(-n * p) = n * p by rw [Int.neg_mul, Int.neg_neg]] at e
  have E := Lib.hid e
  clear f9 f10 e
  generalize -n * p / 18446744073709551616 = hi at *
  generalize -n * p % 18446744073709551616 = lo at *
  generalize -n * p / q = A at *
  generalize -n * p % q = R at *
  rw [E.out]
  clear E
  by_cases hR : 0 < R
  all_goals
    go_enter Try.func38, Try.ntmps38
    go_wp2_with (first
      | (go_at_call 37; refine (sharable_any _ _).mono ?_; rintro e w' ⟨rfl, rfl⟩; rw [hb])
      | (go_at_call 40; rw [show max n (-n) = -n from hm.out]; refine (M.out _).mono ?_; rintro e w' ⟨rfl, rfl⟩)
      | (go_at_call 41; refine (D.out _).mono ?_; rintro e w' ⟨rfl, k, rfl⟩))
    go_ret
    exact ⟨ret_int rfl, _, rfl⟩
theorem ratio_no (n p q : Int) (w : World) (h : ¬ ((-1152921504606846976 ≤ n ∧ n ≤ 1152921504606846976) ∧ 1 ≤ q ∧ q ≤ 1152921504606846976 ∧ 0 ≤ p ∧ p ≤ q)) :
    Calls Try.prog 38 #[.int .i64 n, .int .i64 p, .int .i64 q] w fun e w' => e = .returned (.int .i64 0) ∧ w' = w := by
  have key : decide (-1152921504606846976 ≤ n ∧ n ≤ 1152921504606846976) = false ∨ (decide (-1152921504606846976 ≤ n ∧ n ≤ 1152921504606846976) = true ∧ q < 1) ∨
     (decide (-1152921504606846976 ≤ n ∧ n ≤ 1152921504606846976) = true ∧ 1 ≤ q ∧ 1152921504606846976 < q) ∨
     (decide (-1152921504606846976 ≤ n ∧ n ≤ 1152921504606846976) = true ∧ 1 ≤ q ∧ q ≤ 1152921504606846976 ∧ p < 0) ∨
     (decide (-1152921504606846976 ≤ n ∧ n ≤ 1152921504606846976) = true ∧ 1 ≤ q ∧ q ≤ 1152921504606846976 ∧ 0 ≤ p ∧ q < p) := by
    by_cases hn : -1152921504606846976 ≤ n ∧ n ≤ 1152921504606846976
    · have e : decide (-1152921504606846976 ≤ n ∧ n ≤ 1152921504606846976) = true := by simpa using hn
      simp only [e, true_and]
      omega
    · left; simpa using hn
  clear h
  rcases key with hb | ⟨hb, h1⟩ | ⟨hb, h1, h2⟩ | ⟨hb, h1, h2, h3⟩ | ⟨hb, h1, h2, h3, h4⟩
  all_goals
    go_enter Try.func38, Try.ntmps38
    go_wp2_with (go_at_call 37; refine (sharable_any _ _).mono ?_; rintro e w' ⟨rfl, rfl⟩; rw [hb])
    go_ret
    exact ⟨rfl, rfl⟩
theorem ratio_any (n p q : Int) (w : World) :
    Calls Try.prog 38 #[.int .i64 n, .int .i64 p, .int .i64 q] w fun e w' => e = .returned (.int .i64 (ratZ n p q)) ∧ ∃ k, w' = w.drewN k := by
  unfold ratZ
  by_cases h : (-1152921504606846976 ≤ n ∧ n ≤ 1152921504606846976) ∧ 1 ≤ q ∧ q ≤ 1152921504606846976 ∧ 0 ≤ p ∧ p ≤ q
  · rw [if_pos h]
    obtain ⟨⟨h1, h2⟩, h3, h4, h5, h6⟩ := h
    by_cases hn : n < 0
    · exact ratio_neg n p q w h1 hn h3 h4 h5 h6
    · exact ratio_pos n p q w (by omega) h2 h3 h4 h5 h6
  · rw [if_neg h]
    refine (ratio_no n p q w h).mono ?_
    rintro e w' ⟨rfl, rfl⟩
    exact ⟨rfl, 0, rfl⟩
end Go.Proofs.Yteaenomfighaoaa
