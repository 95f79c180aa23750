import Derived.Test.YtodnplllkpgfaaaZQ
/- A slice that was just made is a row. No program is named here. -/
namespace Go.Proofs.Ytodnplllkpgfaaa
open Go Go.RowKit
set_option linter.unusedVariables false
set_option linter.unusedSimpArgs false
set_option maxRecDepth 20000
set_option maxHeartbeats 4000000

theorem row_told {w : World} {g : Nat} {t : TypeId} {cs : List Value} (h : w.heap[g]? = some (.cells cs.toArray t (0, 0))) : Row w w.heap.size (some ⟨g, 0, none⟩) cs := fun _ =>
  ⟨_, rfl, (Array.getElem?_eq_some_iff.1 h).1, fun i hi => by rw [head_add, cell_of_row w g i cs.toArray t (0, 0) h]; simp [hi]⟩
end Go.Proofs.Ytodnplllkpgfaaa
