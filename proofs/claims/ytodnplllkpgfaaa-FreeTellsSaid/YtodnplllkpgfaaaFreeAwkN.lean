import Derived.Test.YtodnplllkpgfaaaFreeNum
/- What the document fixes of free space, as numbers. No program is named here. -/
namespace Go.Proofs.Ytodnplllkpgfaaa
theorem free_fixed1 : sizesF 100 [⟨0, 0, -1, 1, 0, 0⟩, ⟨0, 0, -1, 1, 0, 0⟩, ⟨0, 0, 20, 1, 0, 0⟩] = [40, 40, 20] := by decide +kernel
theorem free_fixed2 : sizesF 75 [⟨30, 0, -1, 0, 1, 0⟩, ⟨60, 0, -1, 0, 1, 5⟩, ⟨10, 0, -1, 0, 0, 0⟩] = [20, 40, 10] := by decide +kernel
end Go.Proofs.Ytodnplllkpgfaaa
