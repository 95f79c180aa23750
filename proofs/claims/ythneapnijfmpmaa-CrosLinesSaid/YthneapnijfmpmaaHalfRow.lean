import Derived.KernelRfl
/- A row turned element by element. No program is named here. -/
namespace Go.Proofs.Ythneapnijfmpmaa
set_option linter.unusedVariables false
set_option linter.unusedSimpArgs false
variable {α : Type}

def hfL (f : α → α) (l : List α) (k : Nat) : List α := (l.take k).map f ++ l.drop k
theorem hfL_len (f : α → α) (l : List α) (k : Nat) (h : k ≤ l.length) : (hfL f l k).length = l.length := by unfold hfL; simp; omega
theorem hfL_set (f : α → α) (l : List α) (k : Nat) (h : k < l.length) : (hfL f l k).set k (f l[k]) = hfL f l (k + 1) := by
  unfold hfL
  have e : ((l.take k).map f).length = k := by rw [List.length_map, List.length_take]; omega
  rw [List.set_append_right _ _ (by omega), e, Nat.sub_self, List.drop_eq_getElem_cons h, List.set_cons_zero, List.take_succ_eq_append_getElem h, List.map_append]
  simp
theorem hfL_get (f : α → α) (l : List α) (k : Nat) (h : k < l.length) (h' : k < (hfL f l k).length) : (hfL f l k)[k] = l[k] := by
  have e : ((l.take k).map f).length = k := by rw [List.length_map, List.length_take]; omega
  have g : (hfL f l k)[k]? = l[k]? := by
    unfold hfL
    rw [List.getElem?_append_right (by omega), e, Nat.sub_self, List.getElem?_drop, Nat.add_zero]
  rw [List.getElem?_eq_getElem h', List.getElem?_eq_getElem h] at g
  exact Option.some.inj g
theorem hfL_zero (f : α → α) (l : List α) : hfL f l 0 = l := by simp [hfL]
theorem hfL_all (f : α → α) (l : List α) : hfL f l l.length = l.map f := by simp [hfL]
theorem hfL_same (f : α → α) (l : List α) (k : Nat) (h : k < l.length) (hs : f l[k] = l[k]) : hfL f l (k + 1) = hfL f l k := by
  rw [← hfL_set f l k h, hs]
  have h' : k < (hfL f l k).length := by rw [hfL_len f l k (by omega)]; exact h
  rw [← hfL_get f l k h h', List.set_getElem_self]
end Go.Proofs.Ythneapnijfmpmaa
