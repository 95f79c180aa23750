import Derived.Test.YtpbfdfpedpfemaaGreatDoorTreeGrow
import Derived.Test.YtpbfdfpedpfemaaGreatDoorTreeRose
/- A chain of nodes, a row of nodes: what tree.Of answers of them. No program is named here. -/
namespace Go.Proofs.YtpbfdfpedpfemaaGreatDoor
open Go Go.RowKit
set_option linter.unusedVariables false
set_option linter.unusedSimpArgs false
set_option maxRecDepth 20000

def plR : Nd := ⟨0, -1, false, ⟨#[]⟩, []⟩
def plN (i p : Int) : Nd := ⟨i, p, false, ⟨#[]⟩, []⟩
def deepL (m : Nat) : List Nd := plR :: (List.range m).map fun (i : Nat) => plN (i + 1) i
def flatL (m : Nat) : List Nd := plR :: (List.range m).map fun (i : Nat) => plN (i + 1) 0
theorem deepL_succ (m : Nat) : deepL (m + 1) = deepL m ++ [plN (m + 1) m] := by unfold deepL; rw [List.range_succ, List.map_append]; rfl
theorem flatL_succ (m : Nat) : flatL (m + 1) = flatL m ++ [plN (m + 1) 0] := by unfold flatL; rw [List.range_succ, List.map_append]; rfl
theorem deepL_length (m : Nat) : (deepL m).length = m + 1 := by unfold deepL; simp
theorem flatL_length (m : Nat) : (flatL m).length = m + 1 := by unfold flatL; simp
theorem deep_of : ∀ m, 18 ≤ m → m ≤ 21 → ofB 500 (deepL m) = decide (m ≤ 20) := by
  intro m h1 h2
  have : m = 18 ∨ m = 19 ∨ m = 20 ∨ m = 21 := by omega
  rcases this with rfl | rfl | rfl | rfl <;> decide +kernel
theorem flat_mem {m : Nat} {n : Nd} (h : n ∈ flatL m) : n = plR ∨ ∃ i : Nat, i < m ∧ n = plN (i + 1) 0 := by
  unfold flatL at h
  rcases List.mem_cons.1 h with h | h
  · exact .inl h
  · obtain ⟨i, hi, rfl⟩ := List.mem_map.1 h
    exact .inr ⟨i, List.mem_range.1 hi, rfl⟩
theorem flat_has0 (m : Nat) : hasZ (flatL m) 0 = true := has_iff.2 ⟨plR, List.mem_cons_self, rfl⟩
theorem flat_at0 (m : Nat) : atZ (flatL m) 0 = some plR := rfl
theorem flat_no (m : Nat) (id : Int) (h : id < 0 ∨ (m : Int) < id) : hasZ (flatL m) id = false := by
  rw [Bool.eq_false_iff]; intro hc
  obtain ⟨n, hn, e⟩ := has_iff.1 hc
  rcases flat_mem hn with rfl | ⟨i, hi, rfl⟩
  · simp only [plR] at e; omega
  · simp only [plN] at e; omega
theorem flat_below (m : Nat) : belowZ (flatL m) m 0 = true := by
  unfold belowZ
  rw [flat_has0, Bool.true_and, belowF]
  by_cases h : (m : Int) = 0
  · rw [if_pos h]
  · rw [if_neg h]
    have hm : plN m 0 ∈ flatL m := by
      unfold flatL
      refine List.mem_cons_of_mem _ (List.mem_map.2 ⟨m - 1, List.mem_range.2 (by omega), ?_⟩)
      rw [show ((m - 1 : Nat) : Int) + 1 = m by omega]
    have hh : hasZ (flatL m) m = true := has_iff.2 ⟨_, hm, rfl⟩
    rw [if_pos hh]
    have hp : parZ (flatL m) m = 0 := by
      unfold parZ
      cases e : atZ (flatL m) m with
      | none => exact absurd rfl (at_none.1 e _ hm)
      | some n =>
        obtain ⟨h1, h2⟩ := at_some e
        rcases flat_mem h1 with rfl | ⟨i, hi, rfl⟩
        · simp only [plR] at h2; omega
        · rfl
    rw [hp, flatL_length, belowF, if_pos rfl]
theorem flat_deep (m : Nat) : deepZ (flatL m) 0 = 0 := by
  unfold deepZ
  have hp : parZ (flatL m) 0 = -1 := rfl
  rw [flatL_length, deepF, if_pos (flat_has0 m), hp, deepF, if_neg (by rw [flat_no m (-1) (by omega)]; decide)]
  rfl
theorem flat_takes (m : Nat) (h : m < 1000) : takesB (flatL m) m (plN (m + 1) 0) = true := by
  unfold takesB
  have h1 : decide (0 ≤ (plN ((m : Int) + 1) 0).id ∧ (plN ((m : Int) + 1) 0).id ≤ 1000) = true := by rw [decide_eq_true_eq]; simp only [plN]; omega
  have h2 : hasZ (flatL m) (plN ((m : Int) + 1) 0).id = false := flat_no m _ (.inr (by simp only [plN]; omega))
  have h3 : fitB (plN ((m : Int) + 1) 0) = true := rfl
  have h4 : txZ (flatL m) (plN ((m : Int) + 1) 0).par = false := rfl
  have h5 : decide (deepZ (flatL m) (plN ((m : Int) + 1) 0).par < 20) = true := by
    rw [decide_eq_true_eq]
    show deepZ (flatL m) 0 < 20
    rw [flat_deep]; decide
  have h6 : belowZ (flatL m) m (plN ((m : Int) + 1) 0).par = true := flat_below m
  rw [h1, h2, h3, h4, h5, h6]; rfl
theorem flat_grow (most : Nat) : ∀ (r m : Nat), m + r ≤ 1000 → growB most (flatL m) m ((List.range r).map fun (i : Nat) => plN (m + i + 1) 0) = decide (r = 0 ∨ m + r < most)
  | 0, m, _ => rfl
  | r + 1, m, h => by
    have e1 : ((List.range (r + 1)).map fun (i : Nat) => plN ((m : Int) + i + 1) 0) = plN (m + 1) 0 :: ((List.range r).map fun (i : Nat) => plN (((m + 1 : Nat) : Int) + i + 1) 0) := by
      rw [List.range_succ_eq_map, List.map_cons, List.map_map]
      refine congr (congrArg List.cons (by simp)) (List.map_congr_left fun i _ => ?_)
      show plN ((m : Int) + ((i + 1 : Nat) : Int) + 1) 0 = _
      congr 1
      omega
    have hi := flat_grow most r (m + 1) (by omega)
    rw [e1, growB, flat_takes m (by omega), flatL_length, ← flatL_succ, show (plN ((m : Int) + 1) 0).id = ((m + 1 : Nat) : Int) from by simp [plN], hi, Bool.and_true, ← Bool.decide_and, decide_eq_decide]
    omega
theorem flat_of (k : Nat) (h1 : 498 ≤ k) (h2 : k ≤ 501) : ofB 1000 (flatL (k - 1)) = decide (k ≤ 500) := by
  have h := flat_grow 500 (k - 1) 0 (by omega)
  have e : ((List.range (k - 1)).map fun (i : Nat) => plN (((0 : Nat) : Int) + i + 1) 0) = (List.range (k - 1)).map fun (i : Nat) => plN ((i : Int) + 1) 0 := List.map_congr_left fun i _ => by congr 1; omega
  rw [e] at h
  have e2 : ofB 1000 (flatL (k - 1)) = growB 500 [plR] 0 ((List.range (k - 1)).map fun (i : Nat) => plN ((i : Int) + 1) 0) := rfl
  have e3 : flatL 0 = [plR] := rfl
  rw [e3] at h
  rw [e2]
  refine Eq.trans h ?_
  rw [decide_eq_decide]; omega
end Go.Proofs.YtpbfdfpedpfemaaGreatDoor
