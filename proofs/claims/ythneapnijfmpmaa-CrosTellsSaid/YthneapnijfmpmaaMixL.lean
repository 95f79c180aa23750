import Derived.Test.YthneapnijfmpmaaMem
/- A row whose first k are new. No program is named here. -/
namespace Go.Proofs.Ythneapnijfmpmaa
open Go Go.RowKit
set_option linter.unusedVariables false
set_option linter.unusedSimpArgs false
set_option maxRecDepth 20000
set_option maxHeartbeats 4000000

def mixL {α : Type} (A B : List α) (k : Nat) : List α := A.take k ++ B.drop k
theorem mixL_len {α : Type} {A B : List α} {k : Nat} (h : A.length = B.length) (hk : k ≤ B.length) : (mixL A B k).length = B.length := by unfold mixL; simp; omega
theorem mixL_zero {α : Type} (A B : List α) : mixL A B 0 = B := by simp [mixL]
theorem mixL_all {α : Type} {A B : List α} (h : A.length = B.length) : mixL A B B.length = A := by unfold mixL; rw [List.drop_length, List.append_nil, List.take_of_length_le (by omega)]
theorem mixL_set {α : Type} {A B : List α} {k : Nat} (h : A.length = B.length) (hk : k < B.length) : (mixL A B k).set k (A[k]'(by omega)) = mixL A B (k + 1) := by
  unfold mixL
  have e : (A.take k).length = k := by rw [List.length_take]; omega
  rw [List.set_append_right _ _ (by omega), e, Nat.sub_self, List.drop_eq_getElem_cons hk, List.set_cons_zero, List.take_succ_eq_append_getElem (show k < A.length by omega), List.append_assoc]
  rfl
theorem mixL_get {α : Type} {A B : List α} {k : Nat} (h : A.length = B.length) (hk : k < B.length) : (mixL A B k)[k]? = some B[k] := by
  unfold mixL
  have e : (A.take k).length = k := by rw [List.length_take]; omega
  rw [List.getElem?_append_right (by omega), e, Nat.sub_self, List.getElem?_drop, Nat.add_zero, List.getElem?_eq_getElem hk]
theorem mixL_same {α : Type} {A B : List α} {k : Nat} (h : A.length = B.length) (hk : k < B.length) (hs : A[k]'(by omega) = B[k]) : mixL A B (k + 1) = mixL A B k := by
  rw [← mixL_set h hk, hs]
  have h1 := mixL_get h hk
  have h2 : k < (mixL A B k).length := by rw [mixL_len h (by omega)]; exact hk
  rw [List.getElem?_eq_getElem h2] at h1
  rw [← Option.some.inj h1, List.set_getElem_self]
def noneV (N : Nat) : List Value := List.replicate N (.int .i64 0)
theorem noneV_len (N : Nat) : (noneV N).length = N := List.length_replicate
theorem noneV_get {N t : Nat} (h : t < N) : (noneV N)[t]? = some (.int .i64 0) := by simp [noneV, h]
end Go.Proofs.Ythneapnijfmpmaa
