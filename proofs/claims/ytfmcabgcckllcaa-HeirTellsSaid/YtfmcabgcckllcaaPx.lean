import Derived.Test.YtfmcabgcckllcaaProg
import Derived.WalkKit
import Derived.WalkLawsBesides
import Derived.WalkSpells
import Derived.Below
import Derived.Lib.Hide
import Derived.Outline
/- unit: lengths in pixels. -/
namespace Go.Proofs.Ytfmcabgcckllcaa
open Go.RowKit

theorem ret_int {k : IntKind} {a b : Int} (h : a = b) : Ending.returned (.int k a) = .returned (.int k b) := by rw [h]
theorem ret_bool {a b : Bool} (h : a = b) : Ending.returned (.bool a) = .returned (.bool b) := by rw [h]

def holdZ (n : Int) : Int := max (-1073741824) (min n 1073741824)
def nearZ (n m : Int) : Int := (n + m / 2) / m
def pxZ (t : Int) : Int := holdZ (nearZ (64 * max (-1000000000000) (min t 1000000000000)) 1000)
def pctZ (b h : Int) : Int := holdZ (nearZ (holdZ b * max (-1000000000) (min h 1000000000)) 10000)
def In64 (n : Int) : Prop := -9223372036854775808 ≤ n ∧ n ≤ 9223372036854775807

theorem within_any (n m : Int) (w : World) (h0 : 0 ≤ m) (h1 : m ≤ 4611686018427387904) (hn : -9223372036854775808 ≤ n) (hn' : n ≤ 9223372036854775807) :
    Calls Try.prog 71 #[.int .i64 n, .int .i64 m] w fun e w' => e = .returned (.int .i64 (max (-m) (min n m))) ∧ w = w' := by
  rcases (show n < -m ∨ (-m ≤ n ∧ n ≤ m) ∨ m < n by omega) with h | ⟨h, h'⟩ | h
  all_goals
    go_enter Try.func71, Try.ntmps71
    go_wp2
    all_goals (go_ret; exact ⟨ret_int (by omega), rfl⟩)
theorem hold_any (n : Int) (w : World) (hn : -9223372036854775808 ≤ n) (hn' : n ≤ 9223372036854775807) :
    Calls Try.prog 69 #[.int .i64 n] w fun e w' => e = .returned (.int .i64 (holdZ n)) ∧ w = w' := by
  go_enter Try.func69, Try.ntmps69
  go_wp2_with (go_at_call 71; refine (within_any _ _ _ (by omega) (by omega) (by omega) (by omega)).mono ?_; rintro e w' ⟨rfl, rfl⟩)
  go_ret
  exact ⟨rfl, rfl⟩
theorem tdiv_floor (a m : Int) (hm : 0 < m) : (a.tmod m < 0 → a.tdiv m - 1 = a / m) ∧ (0 ≤ a.tmod m → a.tdiv m = a / m) := by
  have h1 := @Int.tdiv_eq_ediv a m
  have h2 := @Int.tmod_eq_emod a m
  have h3 := Int.emod_nonneg a (Int.ne_of_gt hm)
  have h4 := Int.emod_lt_of_pos a hm
  have h5 : m.sign = 1 := Int.sign_eq_one_of_pos hm
  have h6 : (m.natAbs : Int) = m := by omega
  by_cases h : 0 ≤ a ∨ m ∣ a
  · rw [if_pos h] at h1 h2
    constructor <;> intro h' <;> omega
  · rw [if_neg h, h5] at h1
    rw [if_neg h] at h2
    constructor <;> intro h' <;> omega
theorem tdiv_bd (a m : Int) (hm : 0 < m) (h0 : -6917529027641081856 ≤ a) (h1 : a ≤ 6917529027641081856) : -6917529027641081856 ≤ a / m ∧ a / m ≤ 6917529027641081856 := by
  have h := Int.mul_ediv_add_emod a m
  have h3 := Int.emod_nonneg a (Int.ne_of_gt hm)
  have h4 := Int.emod_lt_of_pos a hm
  constructor
  · by_cases ha : 0 ≤ a
    · have := Int.ediv_nonneg ha (Int.le_of_lt hm); omega
    · have : a ≤ a / m := by
        rw [Int.le_ediv_iff_mul_le hm]
        have : a * m ≤ a * 1 := Int.mul_le_mul_of_nonpos_left (by omega) (by omega)
        omega
      omega
  · by_cases ha : 0 ≤ a
    · have := Int.ediv_le_self m ha; omega
    · have : a / m < 0 := Int.ediv_neg_of_neg_of_pos (by omega) hm
      omega
theorem nearest_any (n m : Int) (w : World) (h0 : 1 ≤ m) (h1 : m ≤ 4611686018427387904) (hn : -4611686018427387904 ≤ n) (hn' : n ≤ 4611686018427387904) :
    Calls Try.prog 70 #[.int .i64 n, .int .i64 m] w fun e w' => e = .returned (.int .i64 (nearZ n m)) ∧ w = w' := by
  have hd := tdiv_floor (n + m / 2) m (by omega)
  have hb := tdiv_bd (n + m / 2) m (by omega) (by omega) (by omega)
  have hq : -9223372036854775807 ≤ (n + m / 2).tdiv m ∧ (n + m / 2).tdiv m ≤ 9223372036854775807 := by
    by_cases hs : (n + m / 2).tmod m < 0
    · have := hd.1 hs; omega
    · have := hd.2 (by omega); omega
  obtain ⟨hq1, hq2⟩ := hq
  by_cases hs : (n + m / 2).tmod m < 0
  · have h := Lib.hid (hd.1 hs)
    clear hd hb
    go_enter Try.func70, Try.ntmps70
    go_wp2
    go_ret
    exact ⟨ret_int h.out, rfl⟩
  · have h := Lib.hid (hd.2 (by omega))
    clear hd hb
    go_enter Try.func70, Try.ntmps70
    go_wp2
    go_ret
    exact ⟨ret_int h.out, rfl⟩
theorem hold_bd (n : Int) : -1073741824 ≤ holdZ n ∧ holdZ n ≤ 1073741824 := by unfold holdZ; omega
theorem near_bd (n m : Int) (h0 : 1 ≤ m) (hn : -4611686018427387904 ≤ n) (hn' : n ≤ 4611686018427387904) (hm : m ≤ 4611686018427387904) : -9223372036854775808 ≤ nearZ n m ∧ nearZ n m ≤ 9223372036854775807 := by
  have hd := tdiv_floor (n + m / 2) m (by omega)
  have hb := tdiv_bd (n + m / 2) m (by omega) (by omega) (by omega)
  unfold nearZ
  by_cases hs : (n + m / 2).tmod m < 0
  · have := hd.1 hs; omega
  · have := hd.2 (by omega); omega
theorem px_any (t : Int) (w : World) (hn : -9223372036854775808 ≤ t) (hn' : t ≤ 9223372036854775807) :
    Calls Try.prog 68 #[.int .i64 t] w fun e w' => e = .returned (.int .i64 (pxZ t)) ∧ w = w' := by
  have hb := near_bd (64 * max (-1000000000000) (min t 1000000000000)) 1000 (by omega) (by omega) (by omega) (by omega)
  go_enter Try.func68, Try.ntmps68
  go_wp2_with (first
    | (go_at_call 71; refine (within_any _ _ _ (by omega) (by omega) (by omega) (by omega)).mono ?_; rintro e w' ⟨rfl, rfl⟩)
    | (go_at_call 70; refine (nearest_any _ _ _ (by omega) (by omega) (by omega) (by omega)).mono ?_; rintro e w' ⟨rfl, rfl⟩)
    | (go_at_call 69; refine (hold_any _ _ (by omega) (by omega)).mono ?_; rintro e w' ⟨rfl, rfl⟩))
  go_ret
  exact ⟨rfl, rfl⟩
end Go.Proofs.Ytfmcabgcckllcaa
