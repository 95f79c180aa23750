import Derived.Test.YtmkmealgoafgdaaOrdNum
/- The order of places by insertion. No program is named here. -/
namespace Go.Proofs.Ytmkmealgoafgdaa
open Go Go.Sort
set_option linter.unusedVariables false
set_option linter.unusedSimpArgs false

structure OrdTo (L : List Int) (i : Nat) (xs : List Int) : Prop where
  perm : xs.Perm (idL i)
  ord : xs.Pairwise (fun a b => ltK (keyL L) b a = false)
theorem OrdTo.nil (L : List Int) : OrdTo L 0 [] := ⟨List.Perm.refl _, List.Pairwise.nil⟩
theorem OrdTo.fin {L xs : List Int} (h : OrdTo L L.length xs) : Ord L xs := ⟨h.perm, h.ord⟩
theorem OrdTo.len {L : List Int} {i : Nat} {xs : List Int} (h : OrdTo L i xs) : xs.length = i := by rw [h.perm.length_eq, idL_len]
theorem OrdTo.mem {L : List Int} {i : Nat} {xs : List Int} (h : OrdTo L i xs) {z : Int} (hz : z ∈ xs) : 0 ≤ z ∧ z < (i : Int) := mem_idL.1 (h.perm.mem_iff.1 hz)
theorem idL_succ (i : Nat) : idL (i + 1) = idL i ++ [(i : Int)] := by simp [idL, List.range_succ]
/-- Those behind k have a greater key than place i. -/
def Behd (L : List Int) (i k : Nat) (xs : List Int) : Prop := ∀ t (h : t < xs.length), k ≤ t → keyL L i < keyL L xs[t]
theorem OrdTo.ins {L : List Int} {i k : Nat} {xs : List Int} (h : OrdTo L i xs) (hk : k ≤ xs.length) (hb : Behd L i k xs) (hs : ∀ (h0 : 0 < k), ¬ keyL L i < keyL L (xs[k - 1]'(by omega))) : OrdTo L (i + 1) (xs.take k ++ [(i : Int)] ++ xs.drop k) := by
  refine ⟨?_, ?_⟩
  · rw [idL_succ, List.append_assoc]
    have p1 : (xs.take k ++ ([(i : Int)] ++ xs.drop k)).Perm (xs.take k ++ (xs.drop k ++ [(i : Int)])) := (List.perm_append_comm).append_left _
    rw [← List.append_assoc (xs.take k) (xs.drop k), List.take_append_drop] at p1
    exact p1.trans (h.perm.append_right _)
  · have ho := h.ord
    rw [List.append_assoc, List.pairwise_append]
    refine ⟨ho.sublist (List.take_sublist k xs), ?_, ?_⟩
    · rw [List.singleton_append, List.pairwise_cons]
      refine ⟨fun y hy => ?_, ho.sublist (List.drop_sublist k xs)⟩
      obtain ⟨j, hj, rfl⟩ := List.mem_iff_getElem.1 hy
      rw [List.getElem_drop, ltK_f]
      have := hb (k + j) (by rw [List.length_drop] at hj; omega) (by omega)
      omega
    · intro a ha b hbm
      rw [List.singleton_append, List.mem_cons] at hbm
      obtain ⟨p, hp, rfl⟩ := List.mem_iff_getElem.1 ha
      rw [List.length_take] at hp
      rw [List.getElem_take]
      rcases hbm with rfl | hbm
      · have hm := (h.mem (List.getElem_mem (show p < xs.length by omega))).2
        have h1 := hs (by omega)
        by_cases c : p = k - 1
        · subst c; rw [ltK_f]; omega
        · have := (List.pairwise_iff_getElem.1 ho) p (k - 1) (by omega) (by omega) (by omega)
          rw [ltK_f] at *; omega
      · obtain ⟨q, hq, rfl⟩ := List.mem_iff_getElem.1 hbm
        rw [List.length_drop] at hq
        rw [List.getElem_drop]
        exact (List.pairwise_iff_getElem.1 ho) p (k + q) (by omega) (by omega) (by omega)
theorem Behd.start (L : List Int) (i : Nat) (xs : List Int) : Behd L i xs.length xs := fun t h h' => by omega
theorem Behd.step {L : List Int} {i k : Nat} {xs : List Int} (h : Behd L i (k + 1) xs) (hk : k < xs.length) (hl : keyL L i < keyL L xs[k]) : Behd L i k xs := fun t h1 h2 => by
  by_cases c : t = k
  · subst c; exact hl
  · exact h t h1 (by omega)
end Go.Proofs.Ytmkmealgoafgdaa
