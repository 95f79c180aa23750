import Derived.Test.YtinnogplnpmcmaaProg
import Derived.Test.YtinnogplnpmcmaaMem
import Derived.WalkLawsBesides
import Derived.WalkSpells
import Derived.Outline
import Derived.IntWalk
/- quoinlaw1.Tame by its contract (for seats of other layers). -/
namespace Go.Proofs.Ytinnogplnpmcmaa
open Go.RowKit
set_option linter.unusedVariables false
set_option linter.unusedSimpArgs false

theorem ret_num {k : IntKind} {a b : Int} (h : a = b) : Ending.returned (.int k a) = .returned (.int k b) := by rw [h]
/-- Tame's number. -/
def tameZ (n m : Int) : Int := if n % 4 = 0 then (n / 4) % 256 else n.tmod (m + 1)
theorem and3 (n : Int) : bits .and .i64 n 3 = n % 4 := and_mask_i64 n 2 (by decide)
theorem and255 (n : Int) : bits .and .i64 n 255 = n % 256 := and_mask_i64 n 8 (by decide)
theorem tame_any (n m : Int) (w : World) (h0 : -9223372036854775808 ≤ n) (h1 : n ≤ 9223372036854775807) (hm0 : 1 ≤ m) (hm : m ≤ 4611686018427387904) :
    Calls Try.prog 12 #[.int .i64 n, .int .i64 m] w fun e w' => e = .returned (.int .i64 (tameZ n m)) ∧ w = w' := by
  have a1 := and3 n
  have a2 := and255 (n / 4)
  by_cases h : n % 4 = 0
  · have t : tameZ n m = n / 4 % 256 := by simp [tameZ, h]
    go_enter Try.func12, Try.ntmps12
    go_wp2
    go_ret
    exact ⟨ret_num t.symm, rfl⟩
  · have t : tameZ n m = n.tmod (m + 1) := by simp [tameZ, h]
    go_enter Try.func12, Try.ntmps12
    go_wp2
    go_ret
    exact ⟨ret_num t.symm, rfl⟩
theorem tameZ_bd (n m : Int) (hm : 255 ≤ m) : -m ≤ tameZ n m ∧ tameZ n m ≤ m := by
  unfold tameZ
  split
  · omega
  · have h1 := Int.tmod_lt_of_pos n (show 0 < m + 1 by omega)
    have h2 := Int.lt_tmod_of_pos n (show 0 < m + 1 by omega)
    omega
end Go.Proofs.Ytinnogplnpmcmaa
