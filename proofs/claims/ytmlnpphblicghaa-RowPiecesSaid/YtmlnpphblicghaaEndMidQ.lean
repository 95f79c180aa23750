import Derived.Test.YtmlnpphblicghaaBrkLeafQ
/- Ends on the way: the least told from some on. Rows of them, some cells of one written. -/
namespace Go.Proofs.Ytmlnpphblicghaa
open Go Go.RowKit
set_option linter.unusedVariables false
set_option linter.unusedSimpArgs false

def rawEn (e : Nat × Int) : En := ⟨e.1, e.2, e.2⟩
def midE (F : List (Nat × Int)) (j : Nat) : List En := (F.take j).map rawEn ++ leasts (F.drop j)
theorem midE_length (F : List (Nat × Int)) (j : Nat) : (midE F j).length = F.length := by
  unfold midE; rw [List.length_append, List.length_map, List.length_take, leasts_length, List.length_drop]; omega
theorem midE_zero (F : List (Nat × Int)) : midE F 0 = leasts F := by simp [midE]
theorem midE_last (F : List (Nat × Int)) (j : Nat) (h : j + 1 = F.length) : midE F j = F.map rawEn := by
  unfold midE
  have e : F.drop j = [F[j]'(by omega)] := by
    rw [List.drop_eq_getElem_cons (by omega), List.drop_eq_nil_of_le (by omega)]
  have e2 : leasts (F.drop j) = (F.drop j).map rawEn := by rw [e]; rfl
  rw [e2, ← List.map_append, List.take_append_drop]
theorem midE_at (F : List (Nat × Int)) (q : Nat) (h : q + 1 < F.length) : (midE F (q + 1))[q]'(by rw [midE_length]; omega) = rawEn F[q] := by
  unfold midE
  rw [List.getElem_append_left (by simp; omega)]
  simp
theorem midE_next (F : List (Nat × Int)) (q : Nat) (h : q + 1 < F.length) : (midE F (q + 1))[q + 1]'(by rw [midE_length]; omega) = ⟨F[q + 1].1, F[q + 1].2, lowS F[q + 1] (F.drop (q + 2))⟩ := by
  unfold midE
  rw [List.getElem_append_right (by simp; omega)]
  have e : F.drop (q + 1) = F[q + 1] :: F.drop (q + 2) := List.drop_eq_getElem_cons h
  simp only [List.length_map, List.length_take, e, leasts]
  simp [show q + 1 - min (q + 1) F.length = 0 by omega]
theorem midE_step (F : List (Nat × Int)) (q : Nat) (h : q + 1 < F.length) : midE F q = (midE F (q + 1)).set q ⟨F[q].1, F[q].2, min F[q].2 (lowS F[q + 1] (F.drop (q + 2)))⟩ := by
  have e : F.drop (q + 1) = F[q + 1] :: F.drop (q + 2) := List.drop_eq_getElem_cons h
  have e0 : F.drop q = F[q] :: F.drop (q + 1) := List.drop_eq_getElem_cons (by omega)
  have et : F.take (q + 1) = F.take q ++ [F[q]] := by rw [List.take_succ_eq_append_getElem (by omega)]
  have hq : (F.take q).length = q := by simp; omega
  unfold midE
  rw [e0, et, leasts, List.map_append, List.append_assoc, List.set_append_right _ _ (by simp; omega)]
  simp only [List.length_map, hq, Nat.sub_self, List.map_cons, List.map_nil, List.cons_append, List.nil_append, List.set_cons_zero]
  rw [e, lowS]
/-- A row of records, two cells of one written. -/
theorem rec_split {α : Type} {f : α → List Value} {k : Nat} (hf : ∀ x, (f x).length = k) (l : List α) (i : Nat) (h : i < l.length) : l.flatMap f = (l.take i).flatMap f ++ (f l[i] ++ (l.drop (i + 1)).flatMap f) := by
  rw [← List.flatMap_cons, ← List.flatMap_append, ← List.drop_eq_getElem_cons h, List.take_append_drop]
theorem rec_put {α : Type} {f : α → List Value} {k : Nat} (hf : ∀ x, (f x).length = k) (l : List α) (i : Nat) (h : i < l.length) (y : α) : (l.set i y).flatMap f = (l.take i).flatMap f ++ (f y ++ (l.drop (i + 1)).flatMap f) := by
  rw [rec_split hf (l.set i y) i (by simpa using h)]
  simp [List.take_set_of_le, List.drop_set_of_lt]
theorem rec_set2 {α : Type} {f : α → List Value} {k : Nat} (hf : ∀ x, (f x).length = k) (l : List α) (i : Nat) (h : i < l.length) (j1 j2 : Nat) (h1 : j1 < k) (h2 : j2 < k) (v1 v2 : Value) (y : α) (hy : f y = ((f l[i]).set j1 v1).set j2 v2) :
    ((l.flatMap f).set (i * k + j1) v1).set (i * k + j2) v2 = (l.set i y).flatMap f := by
  have ht : ((l.take i).flatMap f).length = i * k := by rw [rec_len hf, List.length_take, Nat.min_eq_left (by omega)]
  rw [rec_put hf l i h y, rec_split hf l i h, hy, List.set_append_right _ _ (by omega), List.set_append_right _ _ (by omega), ht,
    show i * k + j1 - i * k = j1 by omega, show i * k + j2 - i * k = j2 by omega, List.set_append_left _ _ (by rw [hf]; exact h1), List.set_append_left _ _ (by rw [List.length_set, hf]; exact h2)]
end Go.Proofs.Ytmlnpphblicghaa
