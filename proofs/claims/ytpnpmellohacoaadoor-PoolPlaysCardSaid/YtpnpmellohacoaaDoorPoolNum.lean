import Derived.Test.YtpnpmellohacoaaDoorHeapNum
/- Places that are taken and freed, in plain words. No program is named here. -/
namespace Go.Proofs.YtpnpmellohacoaaDoor
set_option linter.unusedVariables false
set_option linter.unusedSimpArgs false

abbrev Pl := List (Int × Bool)
def freeFrom (k : Nat) : Pl → List Int
  | [] => []
  | p :: r => if p.2 then freeFrom (k + 1) r else (k : Int) :: freeFrom (k + 1) r
def leastF : Pl → Nat
  | [] => 0
  | p :: r => if p.2 then leastF r + 1 else 0
def countP : Pl → Nat
  | [] => 0
  | p :: r => if p.2 then countP r + 1 else countP r
def turnOf (pl : Pl) (i : Nat) : Int := (pl.getD i (0, false)).1
def takenOf (pl : Pl) (i : Nat) : Bool := (pl.getD i (0, false)).2
def takeP (pl : Pl) : Pl := if leastF pl < pl.length then pl.set (leastF pl) (turnOf pl (leastF pl) + 1, true) else pl ++ [(1, true)]
def freeP (pl : Pl) (i : Nat) : Pl := pl.set i (turnOf pl i, false)
def hasP (pl : Pl) (p t : Int) : Bool := decide (0 ≤ p) && (decide (p < pl.length) && (takenOf pl p.toNat && decide (turnOf pl p.toNat = t)))

theorem turnOf_get {pl : Pl} {i : Nat} (h : i < pl.length) : turnOf pl i = pl[i].1 := by simp [turnOf, List.getD_eq_getElem?_getD, h]
theorem takenOf_get {pl : Pl} {i : Nat} (h : i < pl.length) : takenOf pl i = pl[i].2 := by simp [takenOf, List.getD_eq_getElem?_getD, h]
theorem turnOf_out {pl : Pl} {i : Nat} (h : pl.length ≤ i) : turnOf pl i = 0 := by simp [turnOf, List.getD_eq_getElem?_getD, h]
theorem takenOf_out {pl : Pl} {i : Nat} (h : pl.length ≤ i) : takenOf pl i = false := by simp [takenOf, List.getD_eq_getElem?_getD, h]
theorem turnOf_cons (p : Int × Bool) (r : Pl) (i : Nat) : turnOf (p :: r) (i + 1) = turnOf r i := by simp [turnOf]
theorem takenOf_cons (p : Int × Bool) (r : Pl) (i : Nat) : takenOf (p :: r) (i + 1) = takenOf r i := by simp [takenOf]
theorem turnOf_set {pl : Pl} {i : Nat} (p : Int × Bool) (h : i < pl.length) (j : Nat) : turnOf (pl.set i p) j = if j = i then p.1 else turnOf pl j := by
  unfold turnOf
  simp only [List.getD_eq_getElem?_getD, List.getElem?_set]
  by_cases e : i = j
  · subst e; simp [h]
  · rw [if_neg e, if_neg (Ne.symm e)]
theorem takenOf_set {pl : Pl} {i : Nat} (p : Int × Bool) (h : i < pl.length) (j : Nat) : takenOf (pl.set i p) j = if j = i then p.2 else takenOf pl j := by
  unfold takenOf
  simp only [List.getD_eq_getElem?_getD, List.getElem?_set]
  by_cases e : i = j
  · subst e; simp [h]
  · rw [if_neg e, if_neg (Ne.symm e)]
theorem leastF_le (pl : Pl) : leastF pl ≤ pl.length := by
  induction pl with
  | nil => exact Nat.le_refl _
  | cons p r ih => unfold leastF; split <;> simp <;> omega
theorem leastF_free (pl : Pl) : takenOf pl (leastF pl) = false := by
  induction pl with
  | nil => rfl
  | cons p r ih =>
    unfold leastF; split
    · rw [takenOf_cons]; exact ih
    · rename_i hp; simpa [takenOf] using hp
theorem leastF_below (pl : Pl) : ∀ j, j < leastF pl → takenOf pl j = true := by
  induction pl with
  | nil => intro j h; simp [leastF] at h
  | cons p r ih =>
    intro j h
    unfold leastF at h
    split at h
    · rename_i hp
      cases j with
      | zero => simpa [takenOf] using hp
      | succ j => rw [takenOf_cons]; exact ih j (by omega)
    · omega
/-- The least: none below it is free, and it is. -/
theorem leastF_eq {pl : Pl} {i : Nat} (h : takenOf pl i = false) (hb : ∀ j, j < i → takenOf pl j = true) : leastF pl = i := by
  rcases Nat.lt_trichotomy (leastF pl) i with h1 | h1 | h1
  · have := hb _ h1; rw [leastF_free] at this; cases this
  · exact h1
  · have := leastF_below pl i h1; rw [h] at this; cases this
theorem countP_le (pl : Pl) : countP pl ≤ pl.length := by
  induction pl with
  | nil => exact Nat.le_refl _
  | cons p r ih => unfold countP; split <;> simp <;> omega
theorem count_free (pl : Pl) : ∀ k, countP pl + (freeFrom k pl).length = pl.length := by
  induction pl with
  | nil => intro k; rfl
  | cons p r ih =>
    intro k
    have := ih (k + 1)
    unfold countP freeFrom
    split <;> simp <;> omega
theorem mem_free (pl : Pl) : ∀ (k : Nat) (x : Int), x ∈ freeFrom k pl ↔ ∃ i, i < pl.length ∧ x = ((k + i : Nat) : Int) ∧ takenOf pl i = false := by
  induction pl with
  | nil => intro k x; simp [freeFrom]
  | cons p r ih =>
    intro k x
    unfold freeFrom
    split
    · rename_i hp
      rw [ih]
      constructor
      · rintro ⟨i, hi, rfl, ht⟩
        exact ⟨i + 1, by simpa using hi, by omega, by rw [takenOf_cons]; exact ht⟩
      · rintro ⟨i, hi, rfl, ht⟩
        cases i with
        | zero => simp [takenOf, hp] at ht
        | succ i => exact ⟨i, by simpa using hi, by omega, by rw [takenOf_cons] at ht; exact ht⟩
    · rename_i hp
      rw [List.mem_cons, ih]
      constructor
      · rintro (rfl | ⟨i, hi, rfl, ht⟩)
        · exact ⟨0, by simp, rfl, by simpa [takenOf] using hp⟩
        · exact ⟨i + 1, by simpa using hi, by omega, by rw [takenOf_cons]; exact ht⟩
      · rintro ⟨i, hi, rfl, ht⟩
        cases i with
        | zero => exact .inl (by simp)
        | succ i => exact .inr ⟨i, by simpa using hi, by omega, by rw [takenOf_cons] at ht; exact ht⟩
theorem free_set_true (pl : Pl) (t : Int) : ∀ (k i : Nat), i < pl.length → takenOf pl i = false → (freeFrom k pl).Perm (((k + i : Nat) : Int) :: freeFrom k (pl.set i (t, true))) := by
  induction pl with
  | nil => intro k i h; simp at h
  | cons p r ih =>
    intro k i h ht
    cases i with
    | zero =>
      have hp : p.2 = false := by simpa [takenOf] using ht
      simp [freeFrom, hp]
    | succ i =>
      rw [takenOf_cons] at ht
      have h' := ih (k + 1) i (by simpa using h) ht
      rw [show k + 1 + i = k + (i + 1) by omega] at h'
      simp only [List.set_cons_succ, freeFrom]
      split
      · exact h'
      · exact (h'.cons _).trans (List.Perm.swap _ _ _)
theorem free_set_false (pl : Pl) (t : Int) : ∀ (k i : Nat), i < pl.length → takenOf pl i = true → (freeFrom k (pl.set i (t, false))).Perm (((k + i : Nat) : Int) :: freeFrom k pl) := by
  induction pl with
  | nil => intro k i h; simp at h
  | cons p r ih =>
    intro k i h ht
    cases i with
    | zero =>
      have hp : p.2 = true := by simpa [takenOf] using ht
      simp [freeFrom, hp]
    | succ i =>
      rw [takenOf_cons] at ht
      have h' := ih (k + 1) i (by simpa using h) ht
      rw [show k + 1 + i = k + (i + 1) by omega] at h'
      simp only [List.set_cons_succ, freeFrom]
      split
      · exact h'
      · exact (h'.cons _).trans (List.Perm.swap _ _ _)
theorem freeFrom_taken (pl : Pl) (t : Int) : ∀ k, freeFrom k (pl ++ [(t, true)]) = freeFrom k pl := by
  induction pl with
  | nil => intro k; simp [freeFrom]
  | cons p r ih => intro k; simp [freeFrom, ih]
theorem countP_set_true (pl : Pl) (t : Int) : ∀ i, i < pl.length → takenOf pl i = false → countP (pl.set i (t, true)) = countP pl + 1 := by
  induction pl with
  | nil => intro i h; simp at h
  | cons p r ih =>
    intro i h ht
    cases i with
    | zero =>
      have hp : p.2 = false := by simpa [takenOf] using ht
      simp [countP, hp]
    | succ i =>
      rw [takenOf_cons] at ht
      have := ih i (by simpa using h) ht
      simp only [List.set_cons_succ, countP]
      split <;> omega
theorem countP_set_false (pl : Pl) (t : Int) : ∀ i, i < pl.length → takenOf pl i = true → countP (pl.set i (t, false)) + 1 = countP pl := by
  induction pl with
  | nil => intro i h; simp at h
  | cons p r ih =>
    intro i h ht
    cases i with
    | zero =>
      have hp : p.2 = true := by simpa [takenOf] using ht
      simp [countP, hp]
    | succ i =>
      rw [takenOf_cons] at ht
      have := ih i (by simpa using h) ht
      simp only [List.set_cons_succ, countP]
      split <;> omega
theorem countP_taken (pl : Pl) (t : Int) : countP (pl ++ [(t, true)]) = countP pl + 1 := by
  induction pl with
  | nil => rfl
  | cons p r ih => simp only [List.cons_append, countP, ih]; split <;> omega
theorem count_full {pl : Pl} (h : leastF pl = pl.length) : countP pl = pl.length := by
  induction pl with
  | nil => rfl
  | cons p r ih =>
    unfold leastF at h; unfold countP
    split at h
    · rename_i hp; rw [if_pos hp]; simp at h; simp [ih h]
    · simp at h
theorem full_count {pl : Pl} (h : countP pl = pl.length) : leastF pl = pl.length := by
  induction pl with
  | nil => rfl
  | cons p r ih =>
    unfold countP at h; unfold leastF
    have := countP_le r
    split at h
    · rename_i hp; rw [if_pos hp]; simp at h; simp [ih h]
    · simp at h; omega

/-! What a take and a free turn. -/
theorem turnOf_take (pl : Pl) (j : Nat) : turnOf (takeP pl) j = if j = leastF pl then turnOf pl j + 1 else turnOf pl j := by
  unfold takeP
  split
  · rename_i h
    rw [turnOf_set _ h]
    by_cases e : j = leastF pl
    · subst e; simp
    · rw [if_neg e, if_neg e]
  · rename_i h
    have hl : leastF pl = pl.length := by have := leastF_le pl; omega
    rw [hl]
    unfold turnOf
    simp only [List.getD_eq_getElem?_getD, List.getElem?_append]
    by_cases e : j = pl.length
    · subst e; simp
    · rw [if_neg e]
      by_cases e2 : j < pl.length
      · simp [e2]
      · rw [if_neg e2, List.getElem?_eq_none (by simp; omega), List.getElem?_eq_none (by omega)]
theorem takenOf_take (pl : Pl) (j : Nat) : takenOf (takeP pl) j = if j = leastF pl then true else takenOf pl j := by
  unfold takeP
  split
  · rename_i h
    rw [takenOf_set _ h]
  · rename_i h
    have hl : leastF pl = pl.length := by have := leastF_le pl; omega
    rw [hl]
    unfold takenOf
    simp only [List.getD_eq_getElem?_getD, List.getElem?_append]
    by_cases e : j = pl.length
    · subst e; simp
    · rw [if_neg e]
      by_cases e2 : j < pl.length
      · simp [e2]
      · rw [if_neg e2, List.getElem?_eq_none (by simp; omega), List.getElem?_eq_none (by omega)]
theorem turnOf_free {pl : Pl} {i : Nat} (h : i < pl.length) (j : Nat) : turnOf (freeP pl i) j = turnOf pl j := by
  unfold freeP
  rw [turnOf_set _ h]
  split
  · subst_vars; rfl
  · rfl
theorem takenOf_free {pl : Pl} {i : Nat} (h : i < pl.length) (j : Nat) : takenOf (freeP pl i) j = if j = i then false else takenOf pl j := by
  unfold freeP
  rw [takenOf_set _ h]
theorem count_take (pl : Pl) : countP (takeP pl) = countP pl + 1 := by
  unfold takeP
  split
  · exact countP_set_true pl _ _ ‹_› (leastF_free pl)
  · exact countP_taken pl _
theorem count_freeP {pl : Pl} {i : Nat} (h : takenOf pl i = true) : countP (freeP pl i) + 1 = countP pl := by
  have hi : i < pl.length := by
    rcases Nat.lt_or_ge i pl.length with h1 | h1
    · exact h1
    · rw [takenOf_out h1] at h; cases h
  exact countP_set_false pl _ i hi h
theorem taken_lt {pl : Pl} {i : Nat} (h : takenOf pl i = true) : i < pl.length := by
  rcases Nat.lt_or_ge i pl.length with h1 | h1
  · exact h1
  · rw [takenOf_out h1] at h; cases h
theorem length_free (pl : Pl) (i : Nat) : (freeP pl i).length = pl.length := by simp [freeP]
theorem length_take (pl : Pl) : (takeP pl).length = if leastF pl < pl.length then pl.length else pl.length + 1 := by
  unfold takeP; split <;> simp

/-- What a pool holds: the freed places as a heap. -/
structure PoolInv (fr : List Int) (pl : Pl) : Prop where
  heap : Heap fr
  perm : fr.Perm (freeFrom 0 pl)
theorem PoolInv.count {fr : List Int} {pl : Pl} (h : PoolInv fr pl) : countP pl + fr.length = pl.length := by
  rw [h.perm.length_eq]; exact count_free pl 0
theorem PoolInv.least {fr : List Int} {pl : Pl} (h : PoolInv fr pl) (hn : 0 < fr.length) : leastF pl < pl.length ∧ at0 fr 0 = leastF pl := by
  have hm : at0 fr 0 ∈ freeFrom 0 pl := by
    rw [← h.perm.mem_iff, at0_get hn]; exact List.getElem_mem hn
  obtain ⟨i, hi, hx, ht⟩ := (mem_free pl 0 _).1 hm
  rw [Nat.zero_add] at hx
  have hl : leastF pl = i := by
    refine leastF_eq ht fun j hj => ?_
    cases hb : takenOf pl j with
    | true => rfl
    | false =>
      have hj' : ((0 + j : Nat) : Int) ∈ fr := h.perm.mem_iff.2 ((mem_free pl 0 _).2 ⟨j, by omega, rfl, hb⟩)
      have := heap_least h.heap _ hj'
      rw [hx] at this
      omega
  rw [hl]
  exact ⟨hi, hx⟩
theorem PoolInv.none {fr : List Int} {pl : Pl} (h : PoolInv fr pl) (hn : fr.length = 0) : leastF pl = pl.length := full_count (by have := h.count; omega)
theorem PoolInv.took {fr fr' : List Int} {pl : Pl} (h : PoolInv fr pl) (hn : 0 < fr.length) (hh : Heap fr') (hp : (at0 fr 0 :: fr').Perm fr) : PoolInv fr' (takeP pl) := by
  obtain ⟨h1, h2⟩ := h.least hn
  refine ⟨hh, ?_⟩
  have h3 := free_set_true pl (turnOf pl (leastF pl) + 1) 0 (leastF pl) h1 (leastF_free pl)
  rw [Nat.zero_add, ← h2] at h3
  unfold takeP
  rw [if_pos h1]
  exact ((hp.trans h.perm).trans h3).cons_inv
theorem PoolInv.grew {fr : List Int} {pl : Pl} (h : PoolInv fr pl) (hn : fr.length = 0) : PoolInv fr (takeP pl) := by
  have hl := h.none hn
  refine ⟨h.heap, ?_⟩
  unfold takeP
  rw [if_neg (by omega), freeFrom_taken]
  exact h.perm
theorem PoolInv.freed {fr fr' : List Int} {pl : Pl} (h : PoolInv fr pl) {i : Nat} (ht : takenOf pl i = true) (hh : Heap fr') (hp : fr'.Perm ((i : Int) :: fr)) : PoolInv fr' (freeP pl i) := by
  refine ⟨hh, ?_⟩
  have h3 := free_set_false pl (turnOf pl i) 0 i (taken_lt ht) ht
  rw [Nat.zero_add] at h3
  exact hp.trans ((h.perm.cons _).trans h3.symm)
theorem poolInv_new : PoolInv [] [] := ⟨fun i _ h => by simp at h, List.Perm.nil⟩
end Go.Proofs.YtpnpmellohacoaaDoor
