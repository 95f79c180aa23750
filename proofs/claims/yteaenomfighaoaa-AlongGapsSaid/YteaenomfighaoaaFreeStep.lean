import Derived.Test.YteaenomfighaoaaFreeKeep
/- Free space among items: a round item by item, as the loops go. No program is named here. -/
namespace Go.Proofs.Yteaenomfighaoaa
open Go.RowKit
set_option linter.unusedVariables false
set_option linter.unusedSimpArgs false

/-- A row whose first k are new. -/
def mixL {α : Type} (A B : List α) (k : Nat) : List α := A.take k ++ B.drop k
theorem mixL_len {α : Type} {A B : List α} {k : Nat} (h : A.length = B.length) (hk : k ≤ B.length) : (mixL A B k).length = B.length := by unfold mixL; simp; omega
theorem mixL_zero {α : Type} (A B : List α) : mixL A B 0 = B := by simp [mixL]
theorem mixL_all {α : Type} {A B : List α} (h : A.length = B.length) : mixL A B B.length = A := by unfold mixL; rw [List.drop_length, List.append_nil, List.take_of_length_le (by omega)]
theorem mixL_set {α : Type} {A B : List α} {k : Nat} (h : A.length = B.length) (hk : k < B.length) : (mixL A B k).set k (A[k]'(by omega)) = mixL A B (k + 1) := by
  unfold mixL
  have e : (A.take k).length = k := by rw [List.length_take]; omega
  rw [List.set_append_right _ _ (by omega), e, Nat.sub_self, List.drop_eq_getElem_cons hk, List.set_cons_zero, List.take_succ_eq_append_getElem (show k < A.length by omega), List.append_assoc]
  rfl
theorem mixL_get {α : Type} {A B : List α} {k : Nat} (h : A.length = B.length) (hk : k < B.length) : (mixL A B k)[k]? = some B[k] := by
  unfold mixL
  have e : (A.take k).length = k := by rw [List.length_take]; omega
  rw [List.getElem?_append_right (by omega), e, Nat.sub_self, List.getElem?_drop, Nat.add_zero, List.getElem?_eq_getElem hk]
theorem mixL_same {α : Type} {A B : List α} {k : Nat} (h : A.length = B.length) (hk : k < B.length) (hs : A[k]'(by omega) = B[k]) : mixL A B (k + 1) = mixL A B k := by
  rw [← mixL_set h hk, hs]
  have h1 := mixL_get h hk
  have h2 : k < (mixL A B k).length := by rw [mixL_len h (by omega)]; exact hk
  rw [List.getElem?_eq_getElem h2] at h1
  rw [← Option.some.inj h1, List.set_getElem_self]
/-- The part that item k gets: the one behind those of the others ahead of it. -/
theorem putI_get : ∀ (l : List It) (ps : List Int) (k : Nat) (h : k < l.length) (h' : k < (putI l ps).length),
    (putI l ps)[k] = if l[k].fz = true then (l[k], l[k].s) else (⟨l[k].x, clF l[k].x (l[k].x.base + ps.getD (openI (l.take k)) 0), false⟩, l[k].x.base + ps.getD (openI (l.take k)) 0)
  | i :: r, ps, 0, h, h' => by
    by_cases hf : i.fz = true
    · have e : putI (i :: r) ps = (i, i.s) :: putI r ps := by rw [putI, if_pos hf]
      simp only [e, List.getElem_cons_zero]
      rw [if_pos hf]
    · have e : putI (i :: r) ps = (⟨i.x, clF i.x (i.x.base + ps.headD 0), false⟩, i.x.base + ps.headD 0) :: putI r ps.tail := by rw [putI, if_neg hf]
      simp only [e, List.getElem_cons_zero]
      rw [if_neg hf]
      have : openI (List.take 0 (i :: r)) = 0 := rfl
      rw [this]
      cases ps <;> rfl
  | i :: r, ps, k + 1, h, h' => by
    have hk : k < r.length := by simpa using h
    by_cases hf : i.fz = true
    · have e : putI (i :: r) ps = (i, i.s) :: putI r ps := by rw [putI, if_pos hf]
      simp only [e, List.getElem_cons_succ]
      rw [putI_get r ps k hk (by rw [putI_len]; exact hk), List.take_succ_cons, openI_cons, if_pos hf]
    · have e : putI (i :: r) ps = (⟨i.x, clF i.x (i.x.base + ps.headD 0), false⟩, i.x.base + ps.headD 0) :: putI r ps.tail := by rw [putI, if_neg hf]
      simp only [e, List.getElem_cons_succ]
      rw [putI_get r ps.tail k hk (by rw [putI_len]; exact hk), List.take_succ_cons, openI_cons, if_neg hf]
      have : ps.tail.getD (openI (r.take k)) 0 = ps.getD (openI (r.take k) + 1) 0 := by cases ps <;> simp
      rw [this]
theorem wtsI_take (g : Bool) (l : List It) (k : Nat) (h : k < l.length) : wtsI g (l.take (k + 1)) = wtsI g (l.take k) ++ (if l[k].fz = true then [] else [wtF g l[k].x]) := by
  rw [List.take_succ_eq_append_getElem h]
  unfold wtsI
  rw [List.filter_append, List.map_append]
  congr 1
  by_cases hf : l[k].fz = true
  · rw [if_pos hf]; simp [hf]
  · rw [if_neg hf]; simp [hf]
theorem openI_both (A B : List It) : openI (A ++ B) = openI A + openI B := by simp [openI]
theorem openI_take (l : List It) (k : Nat) (h : k < l.length) : openI (l.take (k + 1)) = openI (l.take k) + (if l[k].fz = true then 0 else 1) := by
  rw [List.take_succ_eq_append_getElem h, openI_both, openI_cons]
  rfl
theorem freeI_take (inner : Int) (l : List It) (k : Nat) (h : k < l.length) : freeI inner (l.take (k + 1)) = freeI inner (l.take k) - tkI l[k] := by
  unfold freeI
  rw [List.take_succ_eq_append_getElem h, List.map_append, List.sum_append]
  simp; omega
theorem overI_take (q : List (It × Int)) (k : Nat) (h : k < q.length) : overI (q.take (k + 1)) = overI (q.take k) + (q[k].1.s - q[k].2) := by
  unfold overI
  rw [List.take_succ_eq_append_getElem h, List.map_append, List.sum_append]
  simp
/-- How many are not frozen yet while the flags are laid. -/
theorem openI_mix (q : List (It × Int)) (o : Int) (k : Nat) (h : k < q.length) :
    openI (mixL (q.map (stopI o)) (q.map (·.1)) (k + 1)) + (if q[k].1.fz = false ∧ (stopI o q[k]).fz = true then 1 else 0) = openI (mixL (q.map (stopI o)) (q.map (·.1)) k) := by
  have hl : (q.map (stopI o)).length = (q.map (·.1)).length := by simp
  unfold mixL
  rw [List.take_succ_eq_append_getElem (by simpa using h), List.drop_eq_getElem_cons (i := k) (l := q.map (·.1)) (by simpa using h)]
  have ap : ∀ A B : List It, openI (A ++ B) = openI A + openI B := fun A B => by simp [openI]
  rw [ap, ap, ap, openI_cons, openI_cons]
  simp only [List.getElem_map]
  have mono : q[k].1.fz = true → (stopI o q[k]).fz = true := fun hf => by show (q[k].1.fz || _ || _ || _) = true; rw [hf]; simp
  have e0 : openI ([] : List It) = 0 := rfl
  rw [e0]
  cases h1 : q[k].1.fz with
  | true => rw [mono h1]; simp
  | false =>
    cases h2 : (stopI o q[k]).fz with
    | true => simp; omega
    | false => simp; omega
end Go.Proofs.Yteaenomfighaoaa
