import Derived.Test.YthneapnijfmpmaaMem
/- Go's quotient and the floor. No program is named here. -/
namespace Go.Proofs.Ythneapnijfmpmaa
open Go Go.RowKit
set_option linter.unusedVariables false
set_option linter.unusedSimpArgs false
set_option maxRecDepth 20000
set_option maxHeartbeats 4000000

theorem tdiv_floor (a m : Int) (hm : 0 < m) : (a.tmod m < 0 → a.tdiv m - 1 = a / m) ∧ (0 ≤ a.tmod m → a.tdiv m = a / m) := by
  have h1 := @Int.tdiv_eq_ediv a m
  have h2 := @Int.tmod_eq_emod a m
  have h3 := Int.emod_nonneg a (Int.ne_of_gt hm)
  have h4 := Int.emod_lt_of_pos a hm
  have h5 : m.sign = 1 := Int.sign_eq_one_of_pos hm
  have h6 : (m.natAbs : Int) = m := by omega
  by_cases h : 0 ≤ a ∨ m ∣ a
  · rw [if_pos h] at h1 h2
    constructor <;> intro h' <;> omega
  · rw [if_neg h, h5] at h1
    rw [if_neg h] at h2
    constructor <;> intro h' <;> omega
theorem tdiv_bd (a m : Int) (hm : 0 < m) (h0 : -6917529027641081856 ≤ a) (h1 : a ≤ 6917529027641081856) : -6917529027641081856 ≤ a / m ∧ a / m ≤ 6917529027641081856 := by
  have h := Int.mul_ediv_add_emod a m
  have h3 := Int.emod_nonneg a (Int.ne_of_gt hm)
  have h4 := Int.emod_lt_of_pos a hm
  constructor
  · by_cases ha : 0 ≤ a
    · have := Int.ediv_nonneg ha (Int.le_of_lt hm); omega
    · have : a ≤ a / m := by
        rw [Int.le_ediv_iff_mul_le hm]
        have : a * m ≤ a * 1 := Int.mul_le_mul_of_nonpos_left (by omega) (by omega)
        omega
      omega
  · by_cases ha : 0 ≤ a
    · have := Int.ediv_le_self m ha; omega
    · have : a / m < 0 := Int.ediv_neg_of_neg_of_pos (by omega) hm
      omega
end Go.Proofs.Ythneapnijfmpmaa
