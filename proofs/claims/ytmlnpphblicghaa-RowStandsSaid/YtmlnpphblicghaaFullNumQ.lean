import Derived.Test.YtmlnpphblicghaaEndsQ
/- Sums and blanks of a part of glyphs; what a line is, in these words. No program is named here. -/
namespace Go.Proofs.Ytmlnpphblicghaa
open Go Go.RowKit
set_option linter.unusedVariables false
set_option linter.unusedSimpArgs false

def sumT (g : List Gl) (i k : Nat) : Int := sumA ((g.drop i).take (k - i))
def spT (g : List Gl) (i k : Nat) : Bool := ((g.drop i).take (k - i)).any fun x => x.kind == 2
theorem part_succ (g : List Gl) (i k : Nat) (hi : i ≤ k) (hk : k < g.length) : (g.drop i).take (k + 1 - i) = (g.drop i).take (k - i) ++ [g[k]] := by
  rw [show k + 1 - i = k - i + 1 by omega, List.take_succ_eq_append_getElem (by rw [List.length_drop]; omega), List.getElem_drop]
  congr 3
  omega
theorem sumT_self (g : List Gl) (i : Nat) : sumT g i i = 0 := by simp [sumT, sumA]
theorem spT_self (g : List Gl) (i : Nat) : spT g i i = false := by simp [spT]
theorem sumT_succ (g : List Gl) (i k : Nat) (hi : i ≤ k) (hk : k < g.length) : sumT g i (k + 1) = sumT g i k + g[k].adv := by
  unfold sumT; rw [part_succ g i k hi hk, sumA_append]; simp [sumA]
theorem spT_succ (g : List Gl) (i k : Nat) (hi : i ≤ k) (hk : k < g.length) : spT g i (k + 1) = (spT g i k || g[k].kind == 2) := by
  unfold spT; rw [part_succ g i k hi hk, List.any_append]; simp
theorem spT_none (g : List Gl) (i : Nat) : ∀ (k : Nat), i ≤ k → k ≤ g.length → (∀ j, i ≤ j → j < k → kd g j ≠ 2) → spT g i k = false
  | k, hi, hk, h => by
    rcases Nat.eq_or_lt_of_le hi with rfl | hlt
    · exact spT_self g i
    · obtain ⟨q, rfl⟩ : ∃ q, k = q + 1 := ⟨k - 1, by omega⟩
      rw [spT_succ g i q (by omega) (by omega), spT_none g i q (by omega) (by omega) (fun j h1 h2 => h j h1 (by omega))]
      have := h q (by omega) (by omega)
      rw [kd_at g q (by omega)] at this
      simpa using this
theorem endsS_bd' {g : List Gl} (hg : FineG g) : ∀ (q i : Nat), i + q ≤ g.length → BdS (sumA ((g.drop i).take q)) (i + q)
  | 0, i, h => by simp [sumA, BdS]; omega
  | q + 1, i, h => by
    have hi : i < g.length := by omega
    have := endsS_bd' hg q (i + 1) (by omega)
    have h2 := hg.2 _ (List.getElem_mem hi)
    have h3 : ∀ q i, i + q ≤ g.length → BdS (sumA ((g.drop i).take q)) q := fun q => by
      induction q with
      | zero => intro i _; simp [sumA, BdS]
      | succ q ih =>
        intro i hq
        have hi : i < g.length := by omega
        have h1 := ih (i + 1) (by omega)
        have h2 := hg.2 _ (List.getElem_mem hi)
        rw [List.drop_eq_getElem_cons hi, List.take_succ_cons, sumA_cons]
        obtain ⟨h3, h4⟩ := h1
        unfold BdS
        omega
    obtain ⟨h5, h6⟩ := h3 (q + 1) i h
    unfold BdS
    omega
theorem sumT_bd {g : List Gl} (hg : FineG g) (i k : Nat) (hi : i ≤ k) (hk : k ≤ g.length) : BdS (sumT g i k) k := by
  have := endsS_bd' hg (k - i) i (by omega)
  rwa [show i + (k - i) = k by omega] at this
section
variable {a : Int} {g : List Gl} {i t : Nat} {v : Int}
theorem LineAt.sum (h : LineAt a g i t v) : v = sumT g i t := h.wide
theorem LineAt.more (h : LineAt a g i t v) {k : Nat} (hk : t < k) (h1 : ∀ j, i ≤ j → j < k → kd g j ≠ 4) (h2 : kd g k = 2 ∨ kd g k = 4) : a < sumT g i k :=
  h.full k hk (cand_of (by have := h.le; omega) h1 h2)
theorem LineAt.blank (h : LineAt a g i t v) (hi : i < g.length) : v ≤ a ∨ spT g i t = false := by
  rcases h.fits with h1 | h1
  · exact .inl h1
  · exact .inr (spT_none g i t h.le (h.len hi) h1)
end
end Go.Proofs.Ytmlnpphblicghaa
