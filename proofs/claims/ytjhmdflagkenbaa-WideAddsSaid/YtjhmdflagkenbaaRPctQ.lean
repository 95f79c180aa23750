import Derived.Test.YtjhmdflagkenbaaZQ
/- quoinref1.Pct. -/
namespace Go.Proofs.Ytjhmdflagkenbaa
open Go Go.RowKit
set_option linter.unusedVariables false
set_option linter.unusedSimpArgs false
set_option maxRecDepth 20000
set_option maxHeartbeats 4000000

theorem rpct_any (b h : Int) (w : World) :
    Calls Try.prog 28 #[.int .i64 b, .int .i64 h] w fun e w' => e = .returned (.int .i64 (pctZ b h)) ∧ w = w' := by
  have hd := hold_bd b
  have hm := mul_bd (holdZ b) (min (max h (-1000000000)) 1000000000) 1073741824 1000000000 (by omega) (by omega) (by omega) (by omega)
  obtain ⟨hm1, hm2⟩ := hm
  have e := Lib.hid (show min (max h (-1000000000)) 1000000000 = max (-1000000000) (min h 1000000000) by omega)
  go_enter Try.func28, Try.ntmps28
  go_wp2_with (first
    | (go_at_call 47; refine (rheld_any _ _ _ _).mono ?_; rintro e w' ⟨rfl, rfl⟩)
    | (go_at_call 46; refine (down_any _ _ _ (by omega) (by omega) (by omega) (by omega)).mono ?_; rintro e w' ⟨rfl, rfl⟩)
    | (go_at_call 45; refine (rhold_any _ _).mono ?_; rintro e w' ⟨rfl, rfl⟩))
  go_ret
  exact ⟨ret_int (by unfold pctZ nearZ; rw [← e.out]; rfl), rfl⟩
end Go.Proofs.Ytjhmdflagkenbaa
