import Derived.WalkKit
/- Ratios as numbers: out of Ratio. -/
namespace Go.Proofs.Yteaenomfighaoaa
open Go Go.RowKit
set_option linter.unusedVariables false
set_option linter.unusedSimpArgs false
set_option maxRecDepth 20000
set_option maxHeartbeats 4000000

def ratZ (n p q : Int) : Int := if (-1152921504606846976 ≤ n ∧ n ≤ 1152921504606846976) ∧ 1 ≤ q ∧ q ≤ 1152921504606846976 ∧ 0 ≤ p ∧ p ≤ q then n * p / q else 0

theorem neg_div (X q A R : Int) (hq : 0 < q) (h : q * A + R = X) (h0 : 0 ≤ R) (h1 : R < q) : (-X) / q = if 0 < R then -(A + 1) else -A := by
  subst h
  by_cases hr : 0 < R
  · rw [if_pos hr]
    have e : -(q * A + R) = (q - R) + q * (-(A + 1)) := by rw [Int.mul_neg, Int.mul_add]; omega
    rw [e, Int.add_mul_ediv_left _ _ (by omega), Int.ediv_eq_zero_of_lt (by omega) (by omega)]
    omega
  · rw [if_neg hr]
    have e : -(q * A + R) = 0 + q * (-A) := by rw [Int.mul_neg]; omega
    rw [e, Int.add_mul_ediv_left _ _ (by omega)]
    simp
theorem rat_facts (a p q : Int) (ha0 : 0 ≤ a) (ha : a ≤ 1152921504606846976) (h3 : 1 ≤ q) (h4 : q ≤ 1152921504606846976) (h5 : 0 ≤ p) (h6 : p ≤ q) :
    0 ≤ a * p / 18446744073709551616 ∧ a * p / 18446744073709551616 < q ∧ 0 ≤ a * p % 18446744073709551616 ∧ a * p % 18446744073709551616 < 18446744073709551616 ∧
    0 ≤ a * p / q ∧ a * p / q ≤ a ∧ 0 ≤ a * p % q ∧ a * p % q < q ∧ q * (a * p / q) + a * p % q = a * p ∧ a * p / 18446744073709551616 * 18446744073709551616 + a * p % 18446744073709551616 = a * p := by
  have hX0 : 0 ≤ a * p := Int.mul_nonneg ha0 h5
  have hX1 : a * p ≤ a * q := Int.mul_le_mul_of_nonneg_left h6 ha0
  have hX2 : a * q ≤ 1152921504606846976 * q := Int.mul_le_mul_of_nonneg_right ha (by omega)
  have hd := Int.mul_ediv_add_emod (a * p) q
  have hr0 := Int.emod_nonneg (a * p) (show q ≠ 0 by omega)
  have hr1 := Int.emod_lt_of_pos (a * p) (show 0 < q by omega)
  have hA0 : 0 ≤ a * p / q := Int.ediv_nonneg hX0 (by omega)
  have hA1 : a * p / q ≤ a := by
    have : a * p / q < a + 1 := by
      rw [Int.ediv_lt_iff_lt_mul (by omega), Int.add_mul]; omega
    omega
  refine ⟨by omega, by omega, by omega, by omega, hA0, hA1, hr0, hr1, hd, by omega⟩

end Go.Proofs.Yteaenomfighaoaa
