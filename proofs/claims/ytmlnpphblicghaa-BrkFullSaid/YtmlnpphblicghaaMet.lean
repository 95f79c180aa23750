import Derived.Test.YtmlnpphblicghaaRet
import Derived.Test.YtmlnpphblicghaaGaugNum
import Derived.LoopTactic
/- api.Metrics as a type. -/
namespace Go.Proofs.Ytmlnpphblicghaa
open Go Go.RowKit
set_option linter.unusedVariables false
set_option linter.unusedSimpArgs false
set_option maxRecDepth 20000
set_option maxHeartbeats 4000000

theorem met_flat : FlatT Try.prog 37 256 := ⟨⟨_, Try.underlying37, rfl⟩, by kernel_rfl⟩
theorem adv_flat : FlatT Try.prog 35 256 := ⟨⟨_, Try.underlying35, rfl⟩, by kernel_rfl⟩
def noMet : List Int := List.replicate 256 0
theorem noMet_length : noMet.length = 256 := by unfold noMet; simp
theorem noMet_zero (w : World) : (zeroValue 37).run Try.prog w = .ok (.agg (i64s noMet).toArray) w := by kernel_rfl
end Go.Proofs.Ytmlnpphblicghaa
