import Derived.Test.YtodnplllkpgfaaaFlexMemQ
import Derived.Test.YtodnplllkpgfaaaZQ
/- What a Flexy's type tells; a remainder's bounds. -/
namespace Go.Proofs.Ytodnplllkpgfaaa
open Go Go.RowKit
abbrev fxV0 : Value := .agg #[.int .i64 0, .int .i64 0, .int .i64 0, .int .i64 0, .int .i64 0, .int .i64 0]
theorem fx_info : (Try.prog.info? 26).map (fun i => (i.zero, i.size, i.bytes)) = some (some fxV0, 6, 48) := by kernel_rfl
end Go.Proofs.Ytodnplllkpgfaaa
