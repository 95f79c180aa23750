import Derived.Test.YtmlnpphblicghaaRHeld
import Derived.Test.YtmlnpphblicghaaMet
/- quoinref9.adv. -/
namespace Go.Proofs.Ytmlnpphblicghaa
open Go Go.RowKit
set_option linter.unusedVariables false
set_option linter.unusedSimpArgs false
set_option maxRecDepth 20000
set_option maxHeartbeats 4000000

theorem radv_any (zs : List Int) (hz : zs.length = 256) (b : UInt8) (W : World) :
    Calls Try.prog 36 #[.agg (i64s zs).toArray, .int .u8 b.toNat] W fun e w' => e = .returned (.int .i64 (advZ (zs.getD b.toNat 0))) ∧ Below W.heap.size W w' := by
  have hby : (b.toNat : Int) < 256 := by have := b.toNat_lt; omega
  have hc := (Whole.mk W 37 (i64s zs).toArray).num b.toNat (by rw [hz]; omega)
  generalize zs.getD b.toNat 0 = z at *
  clear hz
  go_enter Try.func36, Try.ntmps36
  go_wp2_with (go_at_call 54; refine (rheld_any _ _ _ _).mono ?_; rintro e w' ⟨rfl, rfl⟩)
  go_ret
  exact ⟨ret_int (by unfold advZ; omega), (Below.refl _ _).alloc (Nat.le_refl _) _⟩
end Go.Proofs.Ytmlnpphblicghaa
