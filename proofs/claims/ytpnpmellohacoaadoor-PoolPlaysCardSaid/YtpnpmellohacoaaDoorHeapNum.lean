/- Heaps as lists of numbers: what container/heap does to them, in plain words. No program is named here. -/
namespace Go.Proofs.YtpnpmellohacoaaDoor
set_option linter.unusedVariables false
set_option linter.unusedSimpArgs false

abbrev at0 (l : List Int) (i : Nat) : Int := l.getD i 0
def sw (l : List Int) (i j : Nat) : List Int := (l.set i (at0 l j)).set j (at0 l i)
theorem sw_length (l : List Int) (i j : Nat) : (sw l i j).length = l.length := by simp [sw]
theorem sw_at (l : List Int) (i j k : Nat) (hi : i < l.length) (hj : j < l.length) : at0 (sw l i j) k = if k = j then at0 l i else if k = i then at0 l j else at0 l k := by
  unfold at0 sw
  simp only [List.getD_eq_getElem?_getD, List.getElem?_set, List.length_set]
  split
  · subst_vars; simp [hj]
  · split
    · subst_vars; simp_all
    · simp_all [eq_comm]
theorem sw_perm (l : List Int) (i j : Nat) (hi : i < l.length) (hj : j < l.length) : (sw l i j).Perm l := by
  have h := Array.swap_perm (xs := l.toArray) (i := i) (j := j) (by simpa using hi) (by simpa using hj)
  have e : (l.toArray.swap i j (by simpa using hi) (by simpa using hj)).toList = sw l i j := by
    unfold sw at0
    simp [Array.swap, hi, hj]
  have h' := h.toList
  rw [e] at h'
  simpa using h'

/-- Each number is no less than its parent. -/
def Heap (l : List Int) : Prop := ∀ i, 0 < i → i < l.length → at0 l ((i - 1) / 2) ≤ at0 l i
def HUp (l : List Int) (j : Nat) : Prop :=
  (∀ i, 0 < i → i < l.length → i ≠ j → at0 l ((i - 1) / 2) ≤ at0 l i) ∧ (∀ i, 0 < i → i < l.length → (i - 1) / 2 = j → 0 < j → at0 l ((j - 1) / 2) ≤ at0 l i)
theorem at0_app (l : List Int) (x : Int) (i : Nat) : at0 (l ++ [x]) i = if i < l.length then at0 l i else if i = l.length then x else 0 := by
  unfold at0
  simp only [List.getD_eq_getElem?_getD, List.getElem?_append]
  split
  · rfl
  · split
    · subst_vars; simp
    · rw [List.getElem?_eq_none (by simp; omega)]; rfl
theorem hup_start {l : List Int} (h : Heap l) (x : Int) : HUp (l ++ [x]) l.length := by
  refine ⟨fun i h0 hi hne => ?_, fun i h0 hi hp hl => ?_⟩
  · simp at hi
    rw [at0_app, at0_app, if_pos (by omega), if_pos (by omega)]
    exact h i h0 (by omega)
  · simp at hi; omega
theorem hup_done {l : List Int} {j : Nat} (h : HUp l j) (hj : j = 0 ∨ at0 l ((j - 1) / 2) ≤ at0 l j) : Heap l := by
  intro i h0 hi
  by_cases e : i = j
  · subst e; rcases hj with hj | hj
    · omega
    · exact hj
  · exact h.1 i h0 hi e
theorem hup_step {l : List Int} {j : Nat} (h : HUp l j) (h0 : 0 < j) (hj : j < l.length) (hlt : at0 l j < at0 l ((j - 1) / 2)) : HUp (sw l ((j - 1) / 2) j) ((j - 1) / 2) := by
  have hp : (j - 1) / 2 < l.length := by omega
  obtain ⟨h1, h2⟩ := h
  refine ⟨fun i i0 hi hne => ?_, fun i i0 hi hpar hpos => ?_⟩
  · rw [sw_length] at hi
    rw [sw_at l _ _ _ hp hj, sw_at l _ _ _ hp hj]
    by_cases e : i = j
    · subst e
      rw [if_neg (by omega), if_pos rfl, if_pos rfl]
      omega
    · rw [if_neg e, if_neg hne]
      by_cases e2 : (i - 1) / 2 = j
      · rw [if_pos e2]
        exact h2 i i0 hi e2 h0
      · rw [if_neg e2]
        by_cases e3 : (i - 1) / 2 = (j - 1) / 2
        · rw [if_pos e3]
          have := h1 i i0 hi e
          rw [e3] at this
          omega
        · rw [if_neg e3]
          exact h1 i i0 hi e
  · rw [sw_length] at hi
    rw [sw_at l _ _ _ hp hj, sw_at l _ _ _ hp hj, if_neg (by omega), if_neg (by omega)]
    have hg := h1 ((j - 1) / 2) (by omega) hp (by omega)
    by_cases e : i = j
    · subst e; rw [if_pos rfl]; exact hg
    · rw [if_neg e, if_neg (by omega)]
      have := h1 i i0 hi e
      rw [hpar] at this
      omega

def HeapN (l : List Int) (n : Nat) : Prop := ∀ i, 0 < i → i < n → at0 l ((i - 1) / 2) ≤ at0 l i
def HDown (l : List Int) (n i : Nat) : Prop :=
  (∀ k, 0 < k → k < n → (k - 1) / 2 ≠ i → at0 l ((k - 1) / 2) ≤ at0 l k) ∧ (∀ k, 0 < k → k < n → (k - 1) / 2 = i → 0 < i → at0 l ((i - 1) / 2) ≤ at0 l k)
theorem hdown_start {l : List Int} (h : Heap l) (hn : 0 < l.length) : HDown (sw l 0 (l.length - 1)) (l.length - 1) 0 := by
  refine ⟨fun k k0 hk hne => ?_, fun k k0 hk hp h0 => absurd h0 (by omega)⟩
  rw [sw_at l _ _ _ (by omega) (by omega), sw_at l _ _ _ (by omega) (by omega), if_neg (by omega), if_neg (by omega), if_neg (by omega), if_neg (by omega)]
  exact h k k0 (by omega)
theorem hdown_done {l : List Int} {n i : Nat} (h : HDown l n i) (hc : ∀ k, 0 < k → k < n → (k - 1) / 2 = i → at0 l i ≤ at0 l k) : HeapN l n := by
  intro k k0 hk
  by_cases e : (k - 1) / 2 = i
  · rw [e]; exact hc k k0 hk e
  · exact h.1 k k0 hk e
theorem hdown_step {l : List Int} {n i c : Nat} (h : HDown l n i) (hl : n ≤ l.length) (hc : c < n) (c0 : 0 < c) (hp : (c - 1) / 2 = i) (hlt : at0 l c < at0 l i)
    (hmin : ∀ k, 0 < k → k < n → (k - 1) / 2 = i → at0 l c ≤ at0 l k) : HDown (sw l i c) n c := by
  obtain ⟨h1, h2⟩ := h
  refine ⟨fun k k0 hk hne => ?_, fun k k0 hk hpar _ => ?_⟩
  · rw [sw_at l _ _ _ (by omega) (by omega), sw_at l _ _ _ (by omega) (by omega), if_neg hne]
    by_cases e : (k - 1) / 2 = i
    · rw [if_pos e]
      by_cases e2 : k = c
      · rw [if_pos e2]; omega
      · rw [if_neg e2, if_neg (by omega)]; exact hmin k k0 hk e
    · rw [if_neg e, if_neg (by intro e2; subst e2; exact e hp)]
      by_cases e2 : k = i
      · rw [if_pos e2]
        subst e2
        exact h2 c c0 hc hp k0
      · rw [if_neg e2]; exact h1 k k0 hk e
  · rw [hp, sw_at l i c i (by omega) (by omega), sw_at l i c k (by omega) (by omega), if_neg (show ¬ i = c by omega), if_pos rfl, if_neg (show ¬ k = c by omega), if_neg (show ¬ k = i by omega)]
    have := h1 k k0 hk (by omega)
    rw [hpar] at this
    exact this
theorem at0_take (l : List Int) (n i : Nat) (hi : i < n) : at0 (l.take n) i = at0 l i := by
  unfold at0; simp [List.getD_eq_getElem?_getD, List.getElem?_take, hi]
theorem heap_take {l : List Int} {n : Nat} (h : HeapN l n) : Heap (l.take n) := by
  intro i i0 hi
  have hi' : i < n := by simp at hi; omega
  rw [at0_take _ _ _ (by omega), at0_take _ _ _ hi']
  exact h i i0 hi'
theorem heap_least {l : List Int} (h : Heap l) : ∀ x ∈ l, at0 l 0 ≤ x := by
  have key : ∀ n i, i ≤ n → i < l.length → at0 l 0 ≤ at0 l i := by
    intro n
    induction n with
    | zero => intro i hi _; obtain rfl : i = 0 := by omega
              exact Int.le_refl _
    | succ n ih =>
      intro i hi hl
      by_cases e : i = 0
      · subst e; exact Int.le_refl _
      · exact Int.le_trans (ih ((i - 1) / 2) (by omega) (by omega)) (h i (by omega) hl)
  intro x hx
  obtain ⟨i, hi, rfl⟩ := List.getElem_of_mem hx
  have := key i i (Nat.le_refl _) hi
  unfold at0 at this
  rw [List.getD_eq_getElem?_getD (l := l) (i := i), List.getElem?_eq_getElem hi] at this
  exact this
theorem at0_get {l : List Int} {i : Nat} (h : i < l.length) : at0 l i = l[i] := by
  unfold at0; rw [List.getD_eq_getElem?_getD, List.getElem?_eq_getElem h]; rfl
/-- What is left, and what went: all there was. -/
theorem pop_perm {l l' : List Int} {m : Int} (hp : l'.Perm l) (hn : 0 < l.length) (hm : at0 l' (l.length - 1) = m) : (m :: l'.take (l.length - 1)).Perm l := by
  have hlen := hp.length_eq
  refine List.Perm.trans ?_ hp
  have e : l' = l'.take (l.length - 1) ++ [m] := by
    rw [at0_get (by omega)] at hm
    have := List.take_succ_eq_append_getElem (l := l') (i := l.length - 1) (by omega)
    rw [hm] at this
    rw [← this, List.take_of_length_le (by omega)]
  conv => rhs; rw [e]
  exact (List.perm_append_singleton m _).symm
end Go.Proofs.YtpnpmellohacoaaDoor
