import Derived.Test.YtmlnpphblicghaaGlyphNum
/- Glyphs, byte by byte: what is left to do. No program is named here. -/
namespace Go.Proofs.Ytmlnpphblicghaa
open Go Go.RowKit
set_option linter.unusedVariables false
set_option linter.unusedSimpArgs false

def lastB (l : List Gl) : Bool := (l.getLast?.map isB).getD false
theorem lastB_nil : lastB [] = false := rfl
theorem lastB_push (l : List Gl) (g : Gl) : lastB (l ++ [g]) = isB g := by simp [lastB]
theorem lastB_at (l : List Gl) (m : Nat) (h : l.length = m + 1) : lastB l = isB (l[m]'(by omega)) := by
  have e : l.getLast? = some (l[m]'(by omega)) := by
    rw [List.getLast?_eq_getElem?, List.getElem?_eq_getElem (by omega)]
    simp [h]
  simp [lastB, e]
/-- .. behind cur, of a run from byte k on, and of the rest. -/
def leftI (zs : List Int) (r w : Int) (l : List UInt8) (rest : List Gl) (k : Nat) (cur : List Gl) : List Gl := cur ++ colG (lastB cur) (rawRun zs r w k (l.drop k) ++ rest)
def leftO (zs : List Int) (rs : List Rn) (r : Nat) (cur : List Gl) : List Gl := cur ++ colG (lastB cur) (rawAll zs r (rs.drop r))
theorem leftI_step (zs : List Int) (r w : Int) (l : List UInt8) (rest : List Gl) (k : Nat) (cur : List Gl) (h : k < l.length) (g : Gl) (hg : g = rawG zs r w k l[k]) :
    ((lastB cur && isB g) = true → leftI zs r w l rest k cur = leftI zs r w l rest (k + 1) cur) ∧ ((lastB cur && isB g) = false → leftI zs r w l rest k cur = leftI zs r w l rest (k + 1) (cur ++ [g])) := by
  subst hg
  unfold leftI
  rw [List.drop_eq_getElem_cons h, rawRun, List.cons_append, colG, show ((k : Int) + 1) = ((k + 1 : Nat) : Int) by omega]
  constructor
  · intro hb
    rw [if_pos hb]
    rw [Bool.and_eq_true] at hb
    rw [hb.1]
  · intro hb
    rw [if_neg (by rw [hb]; decide), lastB_push]
    simp
theorem leftI_end (zs : List Int) (rs : List Rn) (r : Nat) (h : r < rs.length) (cur : List Gl) : leftI zs r rs[r].white (bytesOf rs[r].text) (rawAll zs ((r + 1 : Nat) : Int) (rs.drop (r + 1))) rs[r].text.size cur = leftO zs rs (r + 1) cur := by
  unfold leftI leftO
  rw [List.drop_of_length_le (by rw [bytesOf_length]; exact Nat.le_refl _)]
  rfl
theorem leftO_start (zs : List Int) (rs : List Rn) (r : Nat) (h : r < rs.length) (cur : List Gl) : leftO zs rs r cur = leftI zs r rs[r].white (bytesOf rs[r].text) (rawAll zs ((r + 1 : Nat) : Int) (rs.drop (r + 1))) 0 cur := by
  unfold leftI leftO
  rw [List.drop_eq_getElem_cons h, rawAll]
  rfl
theorem leftO_zero (zs : List Int) (rs : List Rn) : leftO zs rs 0 [] = colG false (rawAll zs 0 rs) := rfl
theorem leftO_end (zs : List Int) (rs : List Rn) (cur : List Gl) : leftO zs rs rs.length cur = cur := by
  unfold leftO; rw [List.drop_of_length_le (Nat.le_refl _)]; simp [rawAll, colG]
theorem leftI_len (zs : List Int) (r w : Int) (l : List UInt8) (rest : List Gl) (k : Nat) (cur T : List Gl) (h : leftI zs r w l rest k cur = T) : cur.length ≤ T.length := by
  rw [← h]; unfold leftI; simp
theorem colAll_length (zs : List Int) (rs : List Rn) : (colG false (rawAll zs 0 rs)).length ≤ sizeAll rs := by
  rw [← rawAll_length zs rs 0]; exact (colG_sub _ _).length_le
/- The second round. -/
def edgeB (T : List Gl) (i : Nat) : Bool := decide (i = 0) || decide ((T.getD (i - 1) ⟨0, 0, 0, 0⟩).kind = 4)
def leftT (T : List Gl) (i : Nat) (out : List Gl) : List Gl := out ++ trimG (edgeB T i) (T.drop i)
theorem leftT_zero (T : List Gl) : leftT T 0 [] = trimG true T := by simp [leftT, edgeB]
theorem leftT_end (T out : List Gl) : leftT T T.length out = out := by
  unfold leftT; rw [List.drop_of_length_le (Nat.le_refl _)]; simp [trimG]
theorem endsG_drop (T : List Gl) (i : Nat) (h : i < T.length) : endsG (T.drop (i + 1)) = (decide (i + 1 = T.length) || decide ((T.getD (i + 1) ⟨0, 0, 0, 0⟩).kind = 4)) := by
  by_cases he : i + 1 < T.length
  · rw [List.drop_eq_getElem_cons he]
    simp only [endsG, List.getD, List.getElem?_eq_getElem he, Option.getD_some]
    rw [decide_eq_false (show ¬ i + 1 = T.length by omega)]
    simp
  · rw [List.drop_of_length_le (by omega)]
    simp only [endsG]
    rw [decide_eq_true (show i + 1 = T.length by omega)]
    simp
/-- .. the test at place i, in the program's order. -/
def testB (T : List Gl) (i : Nat) : Bool := decide (i = 0) || decide (i + 1 = T.length) || decide ((T.getD (i - 1) ⟨0, 0, 0, 0⟩).kind = 4) || decide ((T.getD (i + 1) ⟨0, 0, 0, 0⟩).kind = 4)
theorem leftT_step (T out : List Gl) (i : Nat) (h : i < T.length) :
    ((isB T[i] && testB T i) = true → leftT T i out = leftT T (i + 1) out) ∧ ((isB T[i] && testB T i) = false → leftT T i out = leftT T (i + 1) (out ++ [T[i]])) := by
  have e1 : edgeB T (i + 1) = decide (T[i].kind = 4) := by
    simp [edgeB, List.getD, List.getElem?_eq_getElem h]
  have e2 : (edgeB T i || endsG (T.drop (i + 1))) = testB T i := by
    rw [endsG_drop T i h]
    unfold edgeB testB
    cases decide (i = 0) <;> cases decide (i + 1 = T.length) <;> cases decide ((T.getD (i - 1) ⟨0, 0, 0, 0⟩).kind = 4) <;> simp
  unfold leftT
  rw [List.drop_eq_getElem_cons h, trimG, e2, e1]
  constructor
  · intro hb; rw [if_pos hb]
  · intro hb; rw [if_neg (by rw [hb]; decide)]; simp
theorem testB_first (T : List Gl) : testB T 0 = true := by simp [testB]
theorem testB_last (T : List Gl) (i : Nat) (h : i + 1 = T.length) : testB T i = true := by simp [testB, h]
theorem testB_mid (T : List Gl) (q : Nat) (h : q + 2 < T.length) : testB T (q + 1) = (decide (T[q].kind = 4) || decide (T[q + 2].kind = 4)) := by
  unfold testB
  rw [decide_eq_false (show ¬ q + 1 = 0 by omega), decide_eq_false (show ¬ q + 1 + 1 = T.length by omega)]
  simp [List.getD, List.getElem?_eq_getElem (show q < T.length by omega), List.getElem?_eq_getElem h]
theorem leftT_len (T out F : List Gl) (i : Nat) (h : leftT T i out = F) : out.length ≤ F.length := by
  rw [← h]; unfold leftT; simp
end Go.Proofs.Ytmlnpphblicghaa
