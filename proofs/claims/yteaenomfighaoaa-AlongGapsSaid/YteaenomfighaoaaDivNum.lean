import Derived.Lib.BitFns
/- The arithmetic under math/bits.Div64: two digits of 32 bits, each found by a guess that is lowered. No program is named here. -/
namespace Go.Proofs.Yteaenomfighaoaa.DivNum

/-- One digit: V = y1 K + y0; the guess q (with r = u - q y1) is too great just if the test says so. -/
theorem test_iff (u d y1 y0 q r : Int) (h : q * y1 + r = u) (hV : 0 < y1 * 4294967296 + y0) :
    4294967296 * r + d < q * y0 ↔ (u * 4294967296 + d) / (y1 * 4294967296 + y0) < q := by
  rw [Int.ediv_lt_iff_lt_mul hV, Int.mul_add, ← Int.mul_assoc]
  subst h
  rw [Int.add_mul]
  omega
theorem digit_lt (u d y1 y0 : Int) (hu : u < y1 * 4294967296 + y0) (h0 : 0 ≤ u) (hd : d < 4294967296) : (u * 4294967296 + d) / (y1 * 4294967296 + y0) < 4294967296 := by
  rw [Int.ediv_lt_iff_lt_mul (by omega)]
  omega
theorem digit_nn (u d y1 y0 : Int) (h1 : 0 < y1 * 4294967296 + y0) (h0 : 0 ≤ u) (hd : 0 ≤ d) : 0 ≤ (u * 4294967296 + d) / (y1 * 4294967296 + y0) :=
  Int.ediv_nonneg (by omega) (by omega)
theorem guess_ge (u d y1 y0 : Int) (h1 : 0 < y1) (h0 : 0 ≤ y0) (hu : 0 ≤ u) (hd0 : 0 ≤ d) (hd : d < 4294967296) : (u * 4294967296 + d) / (y1 * 4294967296 + y0) ≤ u / y1 := by
  have hV : 0 < y1 * 4294967296 + y0 := by omega
  rw [Int.le_ediv_iff_mul_le h1]
  have hq : (u * 4294967296 + d) / (y1 * 4294967296 + y0) * (y1 * 4294967296 + y0) ≤ u * 4294967296 + d := Int.ediv_mul_le _ (by omega)
  have hn := digit_nn u d y1 y0 hV hu hd0
  generalize (u * 4294967296 + d) / (y1 * 4294967296 + y0) = q at hq hn ⊢
  rw [Int.mul_add, ← Int.mul_assoc] at hq
  have := Int.mul_nonneg hn h0
  omega
theorem guess_le (u y1 y0 : Int) (h1 : 2147483648 ≤ y1) (h0 : y0 < 4294967296) (hu : u < y1 * 4294967296 + y0) : u / y1 ≤ 4294967297 := by
  have : u / y1 < 4294967298 := by
    rw [Int.ediv_lt_iff_lt_mul (by omega)]
    omega
  omega
/-- Behind a break: the guess is not above K, and the rest is K or more: the guess is not too great. -/
theorem break_ok (u d y1 y0 q r : Int) (h : q * y1 + r = u) (hV : 0 < y1 * 4294967296 + y0) (hd : 0 ≤ d) (hq : q ≤ 4294967296) (hr : 4294967296 ≤ r) (h0 : 0 ≤ y0) (h0' : y0 < 4294967296) :
    q ≤ (u * 4294967296 + d) / (y1 * 4294967296 + y0) := by
  have := test_iff u d y1 y0 q r h hV
  have : q * y0 ≤ 4294967296 * y0 := Int.mul_le_mul_of_nonneg_right hq h0
  omega
/-- The two digits together. -/
theorem two_digits (u d1 d0 V : Int) (hV : 0 < V) :
    ((u * 4294967296 + d1) * 4294967296 + d0) / V = (u * 4294967296 + d1) / V * 4294967296 + ((u * 4294967296 + d1) % V * 4294967296 + d0) / V ∧
    ((u * 4294967296 + d1) * 4294967296 + d0) % V = ((u * 4294967296 + d1) % V * 4294967296 + d0) % V := by
  have e : (u * 4294967296 + d1) * 4294967296 + d0 = ((u * 4294967296 + d1) % V * 4294967296 + d0) + V * ((u * 4294967296 + d1) / V * 4294967296) := by
    have h := Int.mul_ediv_add_emod (u * 4294967296 + d1) V
    generalize (u * 4294967296 + d1) / V = q at *
    generalize (u * 4294967296 + d1) % V = r at *
    rw [← h, Int.add_mul, ← Int.mul_assoc]
    omega
  rw [e]
  constructor
  · rw [Int.add_mul_ediv_left _ _ (by omega)]; omega
  · rw [Int.add_mul_emod_self_left]
/-- What is left behind a digit, in arithmetic modulo 2^64. -/
theorem rest_wrap (u d V q R : Int) (h : V * q + R = u * 4294967296 + d) (h0 : 0 ≤ R) (h1 : R < 18446744073709551616) :
    ((u * 4294967296 % 18446744073709551616 + d) % 18446744073709551616 - (q * V) % 18446744073709551616) % 18446744073709551616 = R := by
  rw [Int.mul_comm] at h
  omega
theorem bitLen_bd (n : Nat) : ∀ x, x ≤ n → 0 < x → x < 2 ^ 64 → 2 ^ (Go.Lib.bitLen x) ≤ 2 * x ∧ x < 2 ^ (Go.Lib.bitLen x) := by
  induction n with
  | zero => intro x h h0; omega
  | succ n ih =>
    intro x h h0 hx
    have hh := Go.Lib.bitLen_half x (by omega) hx
    rw [hh, Nat.add_comm 1, Nat.pow_succ]
    by_cases h1 : x = 1
    · subst h1
      have : Go.Lib.bitLen (1 / 2) = 0 := by decide +kernel
      rw [this]; decide
    · have := ih (x / 2) (by omega) (by omega) (by omega)
      omega
/-- The shift that brings y's highest bit to the front. -/
theorem shift_of (y : Int) (h0 : 0 < y) (hy : y < 18446744073709551616) :
    ∃ z : Nat, z ≤ 63 ∧ Go.Lib.bitLen y.toNat = 64 - z ∧ 9223372036854775808 ≤ y * 2 ^ z ∧ y * 2 ^ z < 18446744073709551616 ∧ (2 : Int) ^ z * 2 ^ (64 - z) = 18446744073709551616 := by
  obtain ⟨y, rfl⟩ := Int.eq_ofNat_of_zero_le (Int.le_of_lt h0)
  rw [Int.toNat_natCast]
  have hbl := bitLen_bd y y (Nat.le_refl _) (by omega) (by omega)
  have hb64 := Go.Lib.bitLen_le y 64 (by omega) (by omega)
  have hb0 : 1 ≤ Go.Lib.bitLen y := by
    rcases Nat.eq_zero_or_pos (Go.Lib.bitLen y) with h | h
    · rw [h] at hbl; omega
    · exact h
  refine ⟨64 - Go.Lib.bitLen y, by omega, by omega, ?_⟩
  rw [show 64 - (64 - Go.Lib.bitLen y) = Go.Lib.bitLen y by omega]
  have hS : 2 ^ (64 - Go.Lib.bitLen y) * 2 ^ Go.Lib.bitLen y = 18446744073709551616 := by
    rw [← Nat.pow_add, show 64 - Go.Lib.bitLen y + Go.Lib.bitLen y = 64 by omega]
  have hSi : (2 : Int) ^ (64 - Go.Lib.bitLen y) * 2 ^ Go.Lib.bitLen y = 18446744073709551616 := by
    have := congrArg (fun n : Nat => (n : Int)) hS
    simpa using this
  have hp := Nat.two_pow_pos (64 - Go.Lib.bitLen y)
  have h1 := Nat.mul_lt_mul_of_pos_left hbl.2 hp
  have h2 := Nat.mul_le_mul_left (2 ^ (64 - Go.Lib.bitLen y)) hbl.1
  rw [hS, Nat.mul_comm] at h1
  rw [hS, Nat.mul_left_comm, Nat.mul_comm _ y] at h2
  have e : (y : Int) * 2 ^ (64 - Go.Lib.bitLen y) = ((y * 2 ^ (64 - Go.Lib.bitLen y) : Nat) : Int) := by simp
  rw [e]
  refine ⟨by omega, by omega, hSi⟩
theorem norm (h l y S B : Int) (hS : S * B = 18446744073709551616) (hSp : 0 < S) (hBp : 0 < B) (hh : h < y) (hl0 : 0 ≤ l) (hl : l < 18446744073709551616) :
    (h * 18446744073709551616 + l) * S = (h * S + l / B) * 18446744073709551616 + (l * S) % 18446744073709551616 ∧ h * S + l / B < y * S ∧ l / B < S ∧ 0 ≤ l / B := by
  have h1 := Int.mul_ediv_add_emod l B
  have h2 := Int.emod_lt_of_pos l hBp
  have h2' := Int.emod_nonneg l (Int.ne_of_gt hBp)
  have h3 : l * S = l / B * 18446744073709551616 + (l % B) * S := by
    rw [← hS]
    conv => lhs; rw [← h1]
    rw [Int.add_mul, Int.mul_comm B, Int.mul_assoc, Int.mul_comm B S]
  have h4 : (l % B) * S < 18446744073709551616 := by
    rw [← hS, Int.mul_comm]
    exact Int.mul_lt_mul_of_pos_left h2 hSp
  have h4' : 0 ≤ (l % B) * S := Int.mul_nonneg h2' (by omega)
  have h5 : l / B < S := by
    rw [Int.ediv_lt_iff_lt_mul hBp, hS]; exact hl
  have h6 : (h + 1) * S ≤ y * S := Int.mul_le_mul_of_nonneg_right hh (by omega)
  rw [Int.add_mul] at h6
  have h7 : 0 ≤ l / B := Int.ediv_nonneg hl0 (by omega)
  refine ⟨?_, by omega, h5, h7⟩
  rw [Int.add_mul, Int.add_mul, Int.mul_right_comm, h3]
  omega
/-- Shifted by S both sides: the quotient is as it was, the rest is shifted. -/
theorem shifted (N y S : Int) (hS : 0 < S) : (N * S) / (y * S) = N / y ∧ (N * S) % (y * S) / S = N % y := by
  refine ⟨Int.mul_ediv_mul_of_pos_left _ _ hS, ?_⟩
  rw [Int.mul_comm N, Int.mul_comm y, Int.mul_emod_mul_of_pos _ _ hS, Int.mul_ediv_cancel_left _ (by omega)]
end Go.Proofs.Yteaenomfighaoaa.DivNum
