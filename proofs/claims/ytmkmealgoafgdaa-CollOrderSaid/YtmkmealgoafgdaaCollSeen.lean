import Derived.Test.YtmkmealgoafgdaaOrdNum
import Derived.Test.YtmkmealgoafgdaaTwoOwn
/- What holds of places in their order: each once; told in that order they stay. No program is named here. -/
namespace Go.Proofs.Ytmkmealgoafgdaa
open Go Go.RowKit
set_option linter.unusedVariables false
set_option linter.unusedSimpArgs false

def snC (xs : List Int) (n i : Nat) : List Value := (List.range n).map fun (p : Nat) => Value.bool (decide ((p : Int) ∈ xs.take i))
theorem snC_zero (xs : List Int) (n : Nat) : snC xs n 0 = List.replicate n (.bool false) := by
  unfold snC
  apply List.ext_getElem
  · simp
  · intro j h1 h2; simp
theorem snC_len (xs : List Int) (n i : Nat) : (snC xs n i).length = n := by simp [snC]
theorem snC_at (xs : List Int) (n i : Nat) {q : Nat} (hq : q < n) : (snC xs n i)[q]? = some (.bool (decide ((q : Int) ∈ xs.take i))) := by simp [snC, hq]
theorem snC_set (xs : List Int) (n i q : Nat) (hi : i < xs.length) (hq : xs[i] = (q : Int)) (hn : q < n) : (snC xs n i).set q (.bool true) = snC xs n (i + 1) := by
  unfold snC
  apply List.ext_getElem
  · simp
  · intro j h1 h2
    rw [List.getElem_set]
    simp only [List.getElem_map, List.getElem_range]
    rw [List.take_succ_eq_append_getElem hi, hq]
    by_cases c : q = j
    · subst c; simp
    · rw [if_neg c]
      congr 1
      rw [decide_eq_decide, List.mem_append, List.mem_singleton]
      constructor
      · exact fun h => .inl h
      · rintro (h | h)
        · exact h
        · omega
theorem idL_nodup (n : Nat) : (idL n).Nodup := by
  unfold idL
  rw [List.nodup_iff_pairwise_ne, List.pairwise_map]
  exact (List.nodup_iff_pairwise_ne.1 (List.nodup_range)).imp fun h e => h (by omega)
theorem Ord.new {L xs : List Int} (h : Ord L xs) {i : Nat} (hi : i < xs.length) : ¬ xs[i] ∈ xs.take i := by
  have hn : xs.Nodup := (h.perm.nodup_iff).2 (idL_nodup _)
  intro hm
  obtain ⟨j, hj, e⟩ := List.mem_iff_getElem.1 hm
  rw [List.length_take] at hj
  rw [List.getElem_take] at e
  exact (List.pairwise_iff_getElem.1 (List.nodup_iff_pairwise_ne.1 hn)) j i (by omega) hi (by omega) e
theorem Ord.step {L xs : List Int} (h : Ord L xs) {i : Nat} (hi : i + 1 < xs.length) : ¬ (keyL L xs[i + 1] < keyL L xs[i] ∨ (keyL L xs[i + 1] = keyL L xs[i] ∧ xs[i + 1] < xs[i])) :=
  ltK_f.1 ((List.pairwise_iff_getElem.1 h.ord) i (i + 1) (by omega) hi (by omega))
theorem Ord.again {L xs : List Int} (h : Ord L xs) : Ord (xs.map (keyL L)) (idL xs.length) := by
  refine ⟨by rw [List.length_map], ?_⟩
  rw [List.pairwise_iff_getElem]
  intro p q hp hq hpq
  rw [idL_len] at hp hq
  have e1 : (idL xs.length)[p]'(by rw [idL_len]; exact hp) = (p : Int) := by simp [idL]
  have e2 : (idL xs.length)[q]'(by rw [idL_len]; exact hq) = (q : Int) := by simp [idL]
  rw [e1, e2, ltK_f]
  have k1 : keyL (xs.map (keyL L)) (p : Int) = keyL L xs[p] := by
    show (xs.map (keyL L)).getD _ 0 = _
    simp [hp]
  have k2 : keyL (xs.map (keyL L)) (q : Int) = keyL L xs[q] := by
    show (xs.map (keyL L)).getD _ 0 = _
    simp [hq]
  rw [k1, k2]
  have := ltK_f.1 ((List.pairwise_iff_getElem.1 h.ord) p q hp hq hpq)
  omega
theorem TwoOwn.put1 {W w : World} {e s : TypeId × Nat} {g n1 c1 : Nat} {x1 : List Value} {v2 : Value} {n2 : Nat} {x2 : List Value} (h : TwoOwn W w e s (.slice (some ⟨g, 0, none⟩) n1 c1) n1 x1 v2 n2 x2) (j : Nat) (u : Value) :
    TwoOwn W (w.setCell ⟨g, j, none⟩ u) e s (.slice (some ⟨g, 0, none⟩) n1 c1) n1 (x1.set j u) v2 n2 x2 := by
  have hg := (h.one.lt g rfl).1
  have ho : Only [g] w (w.setCell ⟨g, j, none⟩ u) := (Only.refl [g] w).setCell ⟨g, j, none⟩ (.inl (by simp)) u
  refine ⟨(h.one.stored j u).1, ho.owns h.two fun k hk hm => ?_, h.far, h.low.trans (ho.below (B := W.heap.size) (by intro x hx; simp at hx; omega) h.low.size)⟩
  simp at hm
  subst hm
  exact h.far k rfl hk
end Go.Proofs.Ytmkmealgoafgdaa
