import Derived.Test.YtmlnpphblicghaaBrkNum
/- The least is no more than the most. -/
namespace Go.Proofs.Ytmlnpphblicghaa
open Go Go.RowKit
set_option linter.unusedVariables false
set_option linter.unusedSimpArgs false
set_option maxRecDepth 20000
set_option maxHeartbeats 4000000

def Adv0 (g : List Gl) : Prop := ∀ x ∈ g, 0 ≤ x.adv
theorem longL_both : ∀ (l : List Gl) (m m' n n' : Int), Adv0 l → m ≤ m' → n ≤ n' → 0 ≤ n' → longL true l m n ≤ longL false l m' n'
  | [], m, m', n, n', hg, h1, h2, h3 => h1
  | x :: l, m, m', n, n', hg, h1, h2, h3 => by
    have hx := hg x (by simp)
    have hl : Adv0 l := fun y hy => hg y (by simp [hy])
    simp only [longL]
    by_cases h4 : x.kind = 4
    · rw [if_pos (.inl h4), if_pos (.inl h4)]
      exact longL_both l _ _ _ _ hl (by omega) (Int.le_refl _) (Int.le_refl _)
    · have hn : ¬ (x.kind = 4 ∨ (false = true ∧ x.kind = 2)) := fun h => by rcases h with h | ⟨h, _⟩ <;> simp_all
      rw [if_neg hn]
      split
      · exact longL_both l _ _ _ _ hl (by omega) (by omega) (by omega)
      · exact longL_both l _ _ _ _ hl (by omega) (by omega) (by omega)
theorem least_most {g : List Gl} (hg : Adv0 g) : leastL g ≤ mostL g := longL_both g 0 0 0 0 hg (Int.le_refl _) (Int.le_refl _) (Int.le_refl _)
end Go.Proofs.Ytmlnpphblicghaa
