import Derived.Test.YtmkmealgoafgdaaProg
import Derived.Laws.StructEq
import Derived.DeepKeys
import Derived.WalkKit
/- Two pairs are compared. -/
namespace Go.Proofs.Ytmkmealgoafgdaa
open Go Go.RowKit
set_option linter.unusedVariables false
set_option linter.unusedSimpArgs false
set_option maxRecDepth 20000
set_option maxHeartbeats 4000000

theorem pair_eqIn (d : Nat) (a b c e : Int) (w : World) : (Op.equalIn (d + 2) 25 (.agg #[.int .i64 a, .int .i64 b]) (.agg #[.int .i64 c, .int .i64 e])).run Try.prog w = .ok (a == c && b == e) w := by
  obtain ⟨x, hi, hs⟩ := Option.map_eq_some_iff.1 (show (Try.prog.info? 3).map (·.size) = some 1 by kernel_rfl)
  rw [run_equalIn_array w (d + 1) _ _ Try.underlying25 hi, show Try.prog.cellsOf 3 = 1 by kernel_rfl]
  simp [go_sem, Op.eqItems, List.range, List.range.loop]
  by_cases h1 : a = c <;> by_cases h2 : b = e <;> simp_all
theorem pair_eq (a b c e : Int) (w : World) : (Op.equalIn 10000 25 (.agg #[.int .i64 a, .int .i64 b]) (.agg #[.int .i64 c, .int .i64 e])).run Try.prog w = .ok (a == c && b == e) w := pair_eqIn 9998 a b c e w
end Go.Proofs.Ytmkmealgoafgdaa
