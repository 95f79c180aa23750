import Derived.Test.YtfmcabgcckllcaaDeclNum
/- What is handed down, as plain numbers: a style's 43 cells. No program is named here. -/
set_option linter.unusedSimpArgs false
namespace Go.Proofs.Ytfmcabgcckllcaa
open Go.RowKit
set_option linter.unusedVariables false

/-- What a kid has that tells nothing. -/
def handZ (ps : List Int) : List Int := ((initZ.set 6 (ps.getD 6 0)).set 7 (ps.getD 7 0)).set 42 (ps.getD 42 0)
def ownZ (ps : List Int) (ds : List Dc) : List Int := styleZ (handZ ps) ds
def fixZ (s : List Int) : List Int := if s.getD 0 0 = 1 ∨ s.getD 0 0 = 3 then s.set 0 0 else s
def rootZ (ds : List Dc) : List Int := fixZ (styleZ initZ ds)
def anonZ (ps : List Int) : List Int := (handZ ps).set 0 0
theorem initZ_length : initZ.length = 43 := rfl
theorem handZ_length (ps : List Int) : (handZ ps).length = 43 := by simp [handZ, initZ_length]
theorem ownZ_length (ps : List Int) (ds : List Dc) : (ownZ ps ds).length = 43 := (styleZ_length _ _).trans (handZ_length ps)
theorem fixZ_length (s : List Int) : (fixZ s).length = s.length := by unfold fixZ; split <;> simp
theorem rootZ_length (ds : List Dc) : (rootZ ds).length = 43 := (fixZ_length _).trans (styleZ_length _ _)
theorem anonZ_length (ps : List Int) : (anonZ ps).length = 43 := by simp [anonZ, handZ_length]
theorem ownZ_nil (ps : List Int) : ownZ ps [] = handZ ps := rfl
theorem fix_no (s : List Int) (h1 : ¬ s.getD 0 0 = 1) (h3 : ¬ s.getD 0 0 = 3) : fixZ s = s := by unfold fixZ; rw [if_neg (by simp_all)]
theorem fix_yes (s : List Int) (h : s.getD 0 0 = 1 ∨ s.getD 0 0 = 3) : fixZ s = s.set 0 0 := by unfold fixZ; rw [if_pos h]
theorem handZ_twice (ps : List Int) : handZ (handZ ps) = handZ ps := by
  have h6 : (handZ ps).getD 6 0 = ps.getD 6 0 := by simp [handZ, initZ]
  have h7 : (handZ ps).getD 7 0 = ps.getD 7 0 := by simp [handZ, initZ]
  have h42 : (handZ ps).getD 42 0 = ps.getD 42 0 := by simp [handZ, initZ]
  show ((initZ.set 6 ((handZ ps).getD 6 0)).set 7 ((handZ ps).getD 7 0)).set 42 ((handZ ps).getD 42 0) = handZ ps
  rw [h6, h7, h42]; rfl
theorem own_anon (ps : List Int) : ownZ ps [⟨1, 0, 0, 0⟩] = anonZ ps := rfl
/-- What a declaration puts into a cell, if it does. -/
def cellOf (p w k n : Int) (i : Nat) : Option Int :=
  if p < 1 ∨ 32 < p then none
  else if 0 < wordsN p ∨ (23 ≤ p ∧ p ≤ 25) then (if i = offZ p then some w else none)
  else if (12 ≤ p ∧ p ≤ 19) ∨ p = 31 then (if i = offZ p then some n else none)
  else if i = offZ p + 1 then some n else if i = offZ p then some k else none
def foldZ : List Dc → Nat → Option Int
  | [], _ => none
  | d :: r, i => (foldZ r i).or (if mayZ d.p d.w d.k d.n = true then cellOf d.p d.w d.k d.n i else none)
theorem getD_set (zs : List Int) (j i : Nat) (v : Int) (hi : i < zs.length) : (zs.set j v).getD i 0 = if i = j then v else zs.getD i 0 := by
  simp only [List.getD_eq_getElem?_getD, List.getElem?_set]
  by_cases h : j = i
  · subst h; simp [hi]
  · have : ¬ i = j := fun e => h e.symm
    simp [h, this]
theorem laidZ_cell (zs : List Int) (p w k n : Int) (i : Nat) (hi : i < zs.length) : (laidZ zs p w k n).getD i 0 = (cellOf p w k n i).getD (zs.getD i 0) := by
  unfold laidZ cellOf
  split
  · rfl
  split
  · rw [getD_set _ _ _ _ hi]; split <;> rfl
  split
  · rw [getD_set _ _ _ _ hi]; split <;> rfl
  · rw [getD_set _ _ _ _ (by simpa using hi), getD_set _ _ _ _ hi]
    split
    · rfl
    split <;> rfl
theorem styleZ_cell (ds : List Dc) (i : Nat) : ∀ zs : List Int, i < zs.length → (styleZ zs ds).getD i 0 = (foldZ ds i).getD (zs.getD i 0) := by
  induction ds with
  | nil => intro zs _; rfl
  | cons d r ih =>
    intro zs hi
    rw [styleZ, ih _ (by split <;> simp [laidZ_length, hi])]
    simp only [foldZ]
    cases h : foldZ r i with
    | some v => simp
    | none =>
      simp only [Option.getD_none, Option.none_or]
      split
      · exact laidZ_cell zs _ _ _ _ i hi
      · rfl
theorem cell_told (p w k n : Int) (i : Nat) (hm : mayZ p w k n = true) (j : Int) (hj : (i = 6 ∧ j = 29) ∨ (i = 7 ∧ j = 30) ∨ (i = 42 ∧ j = 31)) : (cellOf p w k n i).isSome = decide (p = j) := by
  have hp : 1 ≤ p ∧ p ≤ 32 := by
    refine Classical.byContradiction fun hc => ?_
    rw [may_out (by omega)] at hm
    cases hm
  obtain ⟨h1, h2⟩ := hp
  have : p = 1 ∨ p = 2 ∨ p = 3 ∨ p = 4 ∨ p = 5 ∨ p = 6 ∨ p = 7 ∨ p = 8 ∨ p = 9 ∨ p = 10 ∨ p = 11 ∨ p = 12 ∨ p = 13 ∨ p = 14 ∨ p = 15 ∨ p = 16 ∨ p = 17 ∨ p = 18 ∨ p = 19 ∨ p = 20 ∨ p = 21 ∨ p = 22 ∨ p = 23 ∨ p = 24 ∨ p = 25 ∨ p = 26 ∨ p = 27 ∨ p = 28 ∨ p = 29 ∨ p = 30 ∨ p = 31 ∨ p = 32 := by omega
  rcases hj with ⟨rfl, rfl⟩ | ⟨rfl, rfl⟩ | ⟨rfl, rfl⟩ <;> (rcases this with rfl | rfl | rfl | rfl | rfl | rfl | rfl | rfl | rfl | rfl | rfl | rfl | rfl | rfl | rfl | rfl | rfl | rfl | rfl | rfl | rfl | rfl | rfl | rfl | rfl | rfl | rfl | rfl | rfl | rfl | rfl | rfl <;> rfl)
/-- Is a Prop told, of what may be? -/
def toldB (j : Int) (ds : List Dc) : Bool := ds.any fun d => mayZ d.p d.w d.k d.n && decide (d.p = j)
theorem fold_told (i : Nat) (j : Int) (hj : (i = 6 ∧ j = 29) ∨ (i = 7 ∧ j = 30) ∨ (i = 42 ∧ j = 31)) : ∀ ds : List Dc, (foldZ ds i).isSome = toldB j ds := by
  intro ds
  induction ds with
  | nil => rfl
  | cons d r ih =>
    simp only [foldZ, toldB, List.any_cons]
    rw [Option.isSome_or, ih]
    cases hm : mayZ d.p d.w d.k d.n with
    | false => simp [toldB]
    | true =>
      simp only [if_true, cell_told _ _ _ _ i hm j hj, Bool.true_and]
      rw [Bool.or_comm]; rfl
theorem told_take (j : Int) (ds : List Dc) (k : Nat) (h : k < ds.length) : toldB j (ds.take (k + 1)) = (toldB j (ds.take k) || (mayZ ds[k].p ds[k].w ds[k].k ds[k].n && decide (ds[k].p = j))) := by
  unfold toldB
  rw [List.take_succ_eq_append_getElem h, List.any_append]
  simp only [List.any_cons, List.any_nil, Bool.or_false]
/-- b with what of a parent is handed down where nothing is told. -/
def mendZ (ps b : List Int) (t0 t1 t2 : Bool) : List Int :=
  let c0 := if t0 = true then b else b.set 6 (ps.getD 6 0)
  let c1 := if t1 = true then c0 else c0.set 7 (ps.getD 7 0)
  if t2 = true then c1 else c1.set 42 (ps.getD 42 0)
theorem getD_ext {a b : List Int} (hl : a.length = b.length) (h : ∀ i, i < a.length → a.getD i 0 = b.getD i 0) : a = b := by
  refine List.ext_getElem hl fun i h1 h2 => ?_
  have := h i h1
  simpa [List.getD_eq_getElem?_getD, h1, h2] using this
theorem handZ_cell (ps : List Int) (i : Nat) (hi : i < 43) : (handZ ps).getD i 0 = if i = 42 then ps.getD 42 0 else if i = 7 then ps.getD 7 0 else if i = 6 then ps.getD 6 0 else initZ.getD i 0 := by
  unfold handZ
  rw [getD_set _ _ _ _ (by simp [initZ_length, hi]), getD_set _ _ _ _ (by simp [initZ_length, hi]), getD_set _ _ _ _ (by simp [initZ_length, hi])]
theorem mendZ_length (ps b : List Int) (t0 t1 t2 : Bool) : (mendZ ps b t0 t1 t2).length = b.length := by
  unfold mendZ; cases t0 <;> cases t1 <;> cases t2 <;> simp
theorem mendZ_cell (ps b : List Int) (hb : b.length = 43) (t0 t1 t2 : Bool) (i : Nat) (hi : i < 43) : (mendZ ps b t0 t1 t2).getD i 0 =
    if i = 42 ∧ t2 = false then ps.getD 42 0 else if i = 7 ∧ t1 = false then ps.getD 7 0 else if i = 6 ∧ t0 = false then ps.getD 6 0 else b.getD i 0 := by
  unfold mendZ
  cases t0 <;> cases t1 <;> cases t2 <;> simp only [if_true, Bool.false_eq_true, if_false, and_true, and_false, reduceCtorEq]
  all_goals (try rw [getD_set _ _ _ _ (by simp [hb, hi])])
  all_goals (try rw [getD_set _ _ _ _ (by simp [hb, hi])])
  all_goals (try rw [getD_set _ _ _ _ (by simp [hb, hi])])
theorem own_mend (ps qs : List Int) (ds : List Dc) : ownZ ps ds = mendZ ps (ownZ qs ds) (toldB 29 ds) (toldB 30 ds) (toldB 31 ds) := by
  refine getD_ext (by rw [mendZ_length, ownZ_length, ownZ_length]) fun i hi => ?_
  rw [ownZ_length] at hi
  rw [mendZ_cell _ _ (ownZ_length _ _) _ _ _ i hi, ownZ, ownZ, styleZ_cell _ i _ (by rw [handZ_length]; exact hi), styleZ_cell _ i _ (by rw [handZ_length]; exact hi), handZ_cell _ i hi, handZ_cell _ i hi]
  by_cases h42 : i = 42
  · subst h42
    rw [← fold_told 42 31 (by simp) ds]
    cases foldZ ds 42 <;> simp
  by_cases h7 : i = 7
  · subst h7
    rw [← fold_told 7 30 (by simp) ds]
    cases foldZ ds 7 <;> simp
  by_cases h6 : i = 6
  · subst h6
    rw [← fold_told 6 29 (by simp) ds]
    cases foldZ ds 6 <;> simp
  simp [h42, h7, h6]
theorem cell_display (p w k n : Int) (hm : mayZ p w k n = true) (v : Int) (h : cellOf p w k n 0 = some v) : 0 ≤ v ∧ v < 4 := by
  have hp : 1 ≤ p ∧ p ≤ 32 := by
    refine Classical.byContradiction fun hc => ?_
    rw [may_out (by omega)] at hm
    cases hm
  obtain ⟨h1, h2⟩ := hp
  by_cases hp1 : p = 1
  · subst hp1
    rw [may_words (by omega)] at hm
    have hw : cellOf 1 w k n 0 = some w := rfl
    rw [hw] at h
    injection h with h
    have : wordsN 1 = 4 := rfl
    simp only [decide_eq_true_eq] at hm
    omega
  · exfalso
    have : p = 2 ∨ p = 3 ∨ p = 4 ∨ p = 5 ∨ p = 6 ∨ p = 7 ∨ p = 8 ∨ p = 9 ∨ p = 10 ∨ p = 11 ∨ p = 12 ∨ p = 13 ∨ p = 14 ∨ p = 15 ∨ p = 16 ∨ p = 17 ∨ p = 18 ∨ p = 19 ∨ p = 20 ∨ p = 21 ∨ p = 22 ∨ p = 23 ∨ p = 24 ∨ p = 25 ∨ p = 26 ∨ p = 27 ∨ p = 28 ∨ p = 29 ∨ p = 30 ∨ p = 31 ∨ p = 32 := by omega
    rcases this with rfl | rfl | rfl | rfl | rfl | rfl | rfl | rfl | rfl | rfl | rfl | rfl | rfl | rfl | rfl | rfl | rfl | rfl | rfl | rfl | rfl | rfl | rfl | rfl | rfl | rfl | rfl | rfl | rfl | rfl | rfl <;> cases h
theorem fold_display : ∀ (ds : List Dc) (v : Int), foldZ ds 0 = some v → 0 ≤ v ∧ v < 4 := by
  intro ds
  induction ds with
  | nil => intro v h; cases h
  | cons d r ih =>
    intro v h
    simp only [foldZ] at h
    cases hr : foldZ r 0 with
    | some u => rw [hr] at h; simp at h; subst h; exact ih _ hr
    | none =>
      rw [hr] at h
      simp only [Option.none_or] at h
      split at h
      · exact cell_display _ _ _ _ (by assumption) v h
      · cases h
theorem root_display (ds : List Dc) : (rootZ ds).getD 0 0 = 0 ∨ (rootZ ds).getD 0 0 = 2 := by
  have hl : (styleZ initZ ds).length = 43 := (styleZ_length _ _).trans rfl
  have hc := styleZ_cell ds 0 initZ (by rw [initZ_length]; omega)
  have hr : 0 ≤ (styleZ initZ ds).getD 0 0 ∧ (styleZ initZ ds).getD 0 0 < 4 := by
    rw [hc]
    cases hf : foldZ ds 0 with
    | none => decide
    | some v => exact fold_display ds v hf
  unfold rootZ fixZ
  split
  · rw [getD_set _ _ _ _ (by omega)]; simp
  · omega
theorem root_block (ds : List Dc) : ¬ (rootZ ds).getD 0 0 = 1 ∧ ¬ (rootZ ds).getD 0 0 = 3 := by
  rcases root_display ds with h | h <;> omega
end Go.Proofs.Ytfmcabgcckllcaa
