import Derived.Test.YtpbfdfpedpfemaaGreatDoorHold
import Derived.WalkKit
import Derived.WalkLawsBesides
import Derived.WalkSpells
import Derived.Below
import Derived.Lib.Hide
import Derived.Outline
/- unit: lengths in pixels. -/
namespace Go.Proofs.YtpbfdfpedpfemaaGreatDoor
open Go.RowKit


def nearZ (n m : Int) : Int := (n + m / 2) / m
def pxZ (t : Int) : Int := holdZ (nearZ (64 * max (-1000000000000) (min t 1000000000000)) 1000)
def pctZ (b h : Int) : Int := holdZ (nearZ (holdZ b * max (-1000000000) (min h 1000000000)) 10000)
def In64 (n : Int) : Prop := -9223372036854775808 ≤ n ∧ n ≤ 9223372036854775807

theorem tdiv_floor (a m : Int) (hm : 0 < m) : (a.tmod m < 0 → a.tdiv m - 1 = a / m) ∧ (0 ≤ a.tmod m → a.tdiv m = a / m) := by
  have h1 := @Int.tdiv_eq_ediv a m
  have h2 := @Int.tmod_eq_emod a m
  have h3 := Int.emod_nonneg a (Int.ne_of_gt hm)
  have h4 := Int.emod_lt_of_pos a hm
  have h5 : m.sign = 1 := Int.sign_eq_one_of_pos hm
  have h6 : (m.natAbs : Int) = m := by omega
  by_cases h : 0 ≤ a ∨ m ∣ a
  · rw [if_pos h] at h1 h2
    constructor <;> intro h' <;> omega
  · rw [if_neg h, h5] at h1
    rw [if_neg h] at h2
    constructor <;> intro h' <;> omega
theorem tdiv_bd (a m : Int) (hm : 0 < m) (h0 : -6917529027641081856 ≤ a) (h1 : a ≤ 6917529027641081856) : -6917529027641081856 ≤ a / m ∧ a / m ≤ 6917529027641081856 := by
  have h := Int.mul_ediv_add_emod a m
  have h3 := Int.emod_nonneg a (Int.ne_of_gt hm)
  have h4 := Int.emod_lt_of_pos a hm
  constructor
  · by_cases ha : 0 ≤ a
    · have := Int.ediv_nonneg ha (Int.le_of_lt hm); omega
    · have : a ≤ a / m := by
        rw [Int.le_ediv_iff_mul_le hm]
        have : a * m ≤ a * 1 := Int.mul_le_mul_of_nonpos_left (by omega) (by omega)
        omega
      omega
  · by_cases ha : 0 ≤ a
    · have := Int.ediv_le_self m ha; omega
    · have : a / m < 0 := Int.ediv_neg_of_neg_of_pos (by omega) hm
      omega
theorem nearest_any (n m : Int) (w : World) (h0 : 1 ≤ m) (h1 : m ≤ 4611686018427387904) (hn : -4611686018427387904 ≤ n) (hn' : n ≤ 4611686018427387904) :
    Calls Tryz.prog 149 #[.int .i64 n, .int .i64 m] w fun e w' => e = .returned (.int .i64 (nearZ n m)) ∧ w = w' := by
  have hd := tdiv_floor (n + m / 2) m (by omega)
  have hb := tdiv_bd (n + m / 2) m (by omega) (by omega) (by omega)
  have hq : -9223372036854775807 ≤ (n + m / 2).tdiv m ∧ (n + m / 2).tdiv m ≤ 9223372036854775807 := by
    by_cases hs : (n + m / 2).tmod m < 0
    · have := hd.1 hs; omega
    · have := hd.2 (by omega); omega
  obtain ⟨hq1, hq2⟩ := hq
  by_cases hs : (n + m / 2).tmod m < 0
  · have h := Lib.hid (hd.1 hs)
    clear hd hb
    go_enter Tryz.func149, Tryz.ntmps149
    go_wp2
    go_ret
    exact ⟨ret_int h.out, rfl⟩
  · have h := Lib.hid (hd.2 (by omega))
    clear hd hb
    go_enter Tryz.func149, Tryz.ntmps149
    go_wp2
    go_ret
    exact ⟨ret_int h.out, rfl⟩
theorem near_bd (n m : Int) (h0 : 1 ≤ m) (hn : -4611686018427387904 ≤ n) (hn' : n ≤ 4611686018427387904) (hm : m ≤ 4611686018427387904) : -9223372036854775808 ≤ nearZ n m ∧ nearZ n m ≤ 9223372036854775807 := by
  have hd := tdiv_floor (n + m / 2) m (by omega)
  have hb := tdiv_bd (n + m / 2) m (by omega) (by omega) (by omega)
  unfold nearZ
  by_cases hs : (n + m / 2).tmod m < 0
  · have := hd.1 hs; omega
  · have := hd.2 (by omega); omega
end Go.Proofs.YtpbfdfpedpfemaaGreatDoor
