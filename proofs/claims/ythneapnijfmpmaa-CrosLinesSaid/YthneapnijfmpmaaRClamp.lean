import Derived.Test.YthneapnijfmpmaaCellMem
import Derived.Test.YthneapnijfmpmaaLaneC
import Derived.Lib.MinMax
import Derived.Test.YthneapnijfmpmaaRet
/- quoinref9.Clamp: out of FlexMem. -/
namespace Go.Proofs.Ythneapnijfmpmaa
open Go Go.RowKit
set_option linter.unusedVariables false
set_option linter.unusedSimpArgs false
set_option maxRecDepth 20000
set_option maxHeartbeats 4000000

theorem rclamp_any (n lo hi : Int) (w : World) : Calls Try.prog 24 #[.int .i64 n, .int .i64 lo, .int .i64 hi] w fun e w' => e = .returned (.int .i64 (max (max 0 lo) (if 0 ≤ hi then min n hi else n))) ∧ w' = w := by
  by_cases h : 0 ≤ hi
  · have hz : hi ≥ 0 := h
    rw [if_pos h]
    go_enter Try.func24, Try.ntmps24
    go_wp2
    all_goals (go_ret; exact ⟨ret_int (by omega), rfl⟩)
  · have hz : ¬ hi ≥ 0 := h
    rw [if_neg h]
    go_enter Try.func24, Try.ntmps24
    go_wp2
    all_goals (go_ret; exact ⟨ret_int (by omega), rfl⟩)
end Go.Proofs.Ythneapnijfmpmaa
