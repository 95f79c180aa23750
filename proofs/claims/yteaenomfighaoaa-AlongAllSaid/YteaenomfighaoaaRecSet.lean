import Derived.Test.YteaenomfighaoaaRecRow
/- A cell of a row of records written. -/
namespace Go.Proofs.Yteaenomfighaoaa
open Go Go.RowKit
set_option linter.unusedVariables false
set_option linter.unusedSimpArgs false
set_option maxRecDepth 20000
set_option maxHeartbeats 4000000

theorem rec_set {α : Type} {f : α → List Value} {k : Nat} (hf : ∀ x, (f x).length = k) (j : Nat) (hj : j < k) (v : Value) : ∀ (l : List α) (i : Nat) (h : i < l.length) (x : α), f x = (f l[i]).set j v → (l.flatMap f).set (i * k + j) v = (l.set i x).flatMap f
  | y :: l, 0, h, x, hx => by
    simp only [List.flatMap_cons, List.set_cons_zero, Nat.zero_mul, Nat.zero_add]
    rw [List.set_append_left _ _ (by rw [hf]; exact hj), hx]
    rfl
  | y :: l, i + 1, h, x, hx => by
    simp only [List.flatMap_cons, List.set_cons_succ]
    rw [← rec_set hf j hj v l i (by simpa using h) x hx, List.set_append_right _ _ (by rw [hf, Nat.succ_mul]; omega), hf, show (i + 1) * k + j - k = i * k + j by rw [Nat.succ_mul]; omega]
end Go.Proofs.Yteaenomfighaoaa
