import Derived.Test.YtjhmdflagkenbaaNear
/- unit.Pct. -/
namespace Go.Proofs.Ytjhmdflagkenbaa
open Go.RowKit

theorem mul_bd (a b : Int) (A B : Int) (h1 : -A ≤ a) (h2 : a ≤ A) (h3 : -B ≤ b) (h4 : b ≤ B) : -(A * B) ≤ a * b ∧ a * b ≤ A * B := by
  have h : (a * b).natAbs ≤ A.natAbs * B.natAbs := by rw [Int.natAbs_mul]; exact Nat.mul_le_mul (by omega) (by omega)
  have e : ((A.natAbs * B.natAbs : Nat) : Int) = A * B := by rw [Int.natCast_mul]; congr 1 <;> omega
  omega
theorem pct_any (b h : Int) (w : World) (hb : -9223372036854775808 ≤ b) (hb' : b ≤ 9223372036854775807) (hn : -9223372036854775808 ≤ h) (hn' : h ≤ 9223372036854775807) :
    Calls Try.prog 29 #[.int .i64 b, .int .i64 h] w fun e w' => e = .returned (.int .i64 (pctZ b h)) ∧ w = w' := by
  have hd := hold_bd b
  obtain ⟨hm1, hm2⟩ := mul_bd (holdZ b) (max (-1000000000) (min h 1000000000)) 1073741824 1000000000 (by omega) (by omega) (by omega) (by omega)
  have hb := near_bd (holdZ b * max (-1000000000) (min h 1000000000)) 10000 (by omega) (by omega) (by omega) (by omega)
  go_enter Try.func29, Try.ntmps29
  go_wp2_with (first
    | (go_at_call 50; refine (within_any _ _ _ (by omega) (by omega) (by omega) (by omega)).mono ?_; rintro e w' ⟨rfl, rfl⟩)
    | (go_at_call 49; refine (nearest_any _ _ _ (by omega) (by omega) (by omega) (by omega)).mono ?_; rintro e w' ⟨rfl, rfl⟩)
    | (go_at_call 48; refine (hold_any _ _ (by omega) (by omega)).mono ?_; rintro e w' ⟨rfl, rfl⟩))
  go_ret
  exact ⟨rfl, rfl⟩
end Go.Proofs.Ytjhmdflagkenbaa
