import Derived.Test.YthneapnijfmpmaaRDown
import Derived.Test.YthneapnijfmpmaaCellMem
import Derived.Test.YthneapnijfmpmaaLaneC
import Derived.OwnWalk
import Derived.BigRegion
import Derived.Test.YthneapnijfmpmaaPush
/- quoinref1.Half. -/
namespace Go.Proofs.Ythneapnijfmpmaa
open Go Go.RowKit
set_option linter.unusedVariables false
set_option linter.unusedSimpArgs false
set_option maxRecDepth 20000
set_option maxHeartbeats 4000000

theorem rhalf_any (n : Int) (w : World) (hn : -6917529027641081856 ≤ n) (hn' : n ≤ 6917529027641081856) : Calls Try.prog 25 #[.int .i64 n] w fun e w' => e = .returned (.int .i64 (n / 2)) ∧ w = w' := by
  go_enter Try.func25, Try.ntmps25
  go_wp2_with (go_at_call 30; refine (down_any _ _ _ (by omega) (by omega) (by omega) (by omega)).mono ?_; rintro e w' ⟨rfl, rfl⟩)
  go_ret
  exact ⟨rfl, rfl⟩
theorem i64o_info : (Try.prog.info? 2).map (fun i => (i.zero, i.size, i.bytes)) = some (some (.int .i64 0), 1, 8) := by kernel_rfl
end Go.Proofs.Ythneapnijfmpmaa
