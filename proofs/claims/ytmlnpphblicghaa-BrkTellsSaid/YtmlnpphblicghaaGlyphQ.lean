import Derived.Test.YtmlnpphblicghaaGlyphMem
/- quoinref9.white, quoinref9.blank. -/
namespace Go.Proofs.Ytmlnpphblicghaa
open Go Go.RowKit
set_option linter.unusedVariables false
set_option linter.unusedSimpArgs false
set_option maxRecDepth 20000
set_option maxHeartbeats 4000000

theorem gwhite_any (b : UInt8) (w : World) : Calls Try.prog 37 #[.int .u8 b.toNat] w fun e w' => e = .returned (.bool (isW b)) ∧ w = w' := by
  have hc := isW_cases b
  generalize isW b = v at *
  rcases hc with ⟨h1, rfl⟩ | ⟨h1, h2, rfl⟩ | ⟨h1, h2, h3, rfl⟩ | ⟨h1, h2, h3, h4, rfl⟩ | ⟨h1, h2, h3, h4, rfl⟩
  all_goals
    go_enter Try.func37, Try.ntmps37
    go_wp2
    go_ret
    exact ⟨rfl, rfl⟩
theorem gblank_any (g : Gl) (w : World) : Calls Try.prog 38 #[glV g] w fun e w' => e = .returned (.bool (isB g)) ∧ Below w.heap.size w w' := by
  have hc := isB_cases _ g rfl
  unfold glV
  generalize isB g = v at *
  obtain ⟨k, r, a, n⟩ := g
  simp only at hc
  rcases hc with ⟨h1, rfl⟩ | ⟨h1, h2, rfl⟩ | ⟨h1, h2, rfl⟩
  all_goals
    go_enter Try.func38, Try.ntmps38
    go_wp2
    go_ret
    exact ⟨rfl, (Below.refl _ _).alloc (Nat.le_refl _) _⟩
end Go.Proofs.Ytmlnpphblicghaa
