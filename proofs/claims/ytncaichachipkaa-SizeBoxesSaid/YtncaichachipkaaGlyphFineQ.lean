import Derived.Test.YtncaichachipkaaBrkFineQ
import Derived.Test.YtncaichachipkaaZQ
/- Glyphs of texts lead not too far. -/
namespace Go.Proofs.Ytncaichachipkaa
open Go Go.RowKit
set_option linter.unusedVariables false
set_option linter.unusedSimpArgs false
set_option maxRecDepth 20000
set_option maxHeartbeats 4000000

theorem glyphs_fine (zs : List Int) (rs : List Rn) (h : sizeAll rs ≤ 100000) : FineG (glyphsL zs rs) := ⟨by have := glyphsL_length zs rs; omega, fun x hx => by
  obtain ⟨r, i, hr, hi, -, -, h1, h2, -⟩ := inRuns_what (glyphsL_in zs rs x hx); omega⟩
end Go.Proofs.Ytncaichachipkaa
