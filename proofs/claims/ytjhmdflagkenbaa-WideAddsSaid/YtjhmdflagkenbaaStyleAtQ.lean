import Derived.Test.YtjhmdflagkenbaaStyleEqQ
/- A style in memory: cells by number. -/
namespace Go.Proofs.Ytjhmdflagkenbaa
open Go Go.RowKit
set_option linter.unusedVariables false
set_option linter.unusedSimpArgs false
set_option maxRecDepth 20000
set_option maxHeartbeats 4000000

theorem Whole.at {w : World} {g : Nat} {zs : List Int} (h : Whole w g 27 (i64s zs)) (hz : zs.length = 43) (i : Nat) (hi : i < 43) : w.cell? ⟨g, i, none⟩ = some (.int .i64 (zs.getD i 0)) := by
  rw [h.cell i]
  simp [i64s, List.getD, List.getElem?_eq_getElem (show i < zs.length by omega)]
theorem Whole.puts {w : World} {g : Nat} {zs : List Int} (h : Whole w g 27 (i64s zs)) (i : Nat) (n : Int) : Whole (w.setCell ⟨g, i, none⟩ (.int .i64 n)) g 27 (i64s (zs.set i n)) := by
  rw [i64s_set]; exact h.put i _
end Go.Proofs.Ytjhmdflagkenbaa
