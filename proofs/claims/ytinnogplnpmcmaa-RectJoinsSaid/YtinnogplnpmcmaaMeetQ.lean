import Derived.Test.YtinnogplnpmcmaaAwake2
import Derived.Test.YtinnogplnpmcmaaLaneW
/- Meet, Has, Move of rectangles as the laws ask them; plain lemmas. -/
namespace Go.Proofs.Ytinnogplnpmcmaa
open Go.RowKit
set_option linter.unusedVariables false
set_option linter.unusedSimpArgs false

theorem and15 (n : Int) : bits .and .i64 n 15 = n % 16 := and_mask_i64 n 4 (by decide)
def hasQ (q : Q) (x y : Int) : Bool := hasB q.x q.y q.a q.b x y
theorem hasQ_any (q : Q) (x y : Int) (t : Bool) (s : q.small) (h : hasQ q x y = t) (w : World) : Calls Try.prog 8 #[qv q, .int .i64 x, .int .i64 y] w fun e w' => e = .returned (.bool t) ∧ Below w.heap.size w w' := has_is _ _ _ _ _ _ t s h w
/-- What two have, and whether. -/
def meetB (p q : Q) : Bool := decide (0 ≤ min (p.x + p.a) (q.x + q.a) - max p.x q.x ∧ 0 ≤ min (p.y + p.b) (q.y + q.b) - max p.y q.y)
def meetQ (p q : Q) : Q := if meetB p q then ⟨max p.x q.x, max p.y q.y, min (p.x + p.a) (q.x + q.a) - max p.x q.x, min (p.y + p.b) (q.y + q.b) - max p.y q.y⟩ else ⟨0, 0, 0, 0⟩
theorem meet_q (p q : Q) (t : Bool) (m : Q) (hp : p.small) (hq : q.small) (ht : meetB p q = t) (hm : meetQ p q = m) (w : World) :
    Calls Try.prog 11 #[qv p, qv q] w fun e w' => e = .returned (.tuple #[qv m, .bool t]) ∧ Below w.heap.size w w' := by
  subst ht hm
  refine meet_any _ _ _ _ _ _ _ _ w hp hq (meetB p q) (meetQ p q).x (meetQ p q).y (meetQ p q).a (meetQ p q).b ?_
  by_cases h : 0 ≤ min (p.x + p.a) (q.x + q.a) - max p.x q.x ∧ 0 ≤ min (p.y + p.b) (q.y + q.b) - max p.y q.y
  · have e : meetB p q = true := by simp only [meetB, decide_eq_true_eq]; exact h
    rw [show meetQ p q = ⟨max p.x q.x, max p.y q.y, min (p.x + p.a) (q.x + q.a) - max p.x q.x, min (p.y + p.b) (q.y + q.b) - max p.y q.y⟩ by simp only [meetQ, e, if_true], e]
    exact .inr ⟨h, rfl, rfl, rfl, rfl, rfl⟩
  · have e : meetB p q = false := by simp only [meetB, decide_eq_false_iff_not]; exact h
    rw [show meetQ p q = ⟨0, 0, 0, 0⟩ by simp only [meetQ, e, Bool.false_eq_true, if_false], e]
    exact .inl ⟨by omega, rfl, rfl, rfl, rfl, rfl⟩
theorem move_q (q : Q) (x y : Int) (hq : Fine q) (hx : -1099511627776 ≤ x ∧ x ≤ 1099511627776) (hy : -1099511627776 ≤ y ∧ y ≤ 1099511627776) (w : World) :
    Calls Try.prog 17 #[qv q, .int .i64 x, .int .i64 y] w fun e w' => e = .returned (qv ⟨q.x + x, q.y + y, q.a, q.b⟩) ∧ Below w.heap.size w w' := by
  unfold Fine at hq
  exact move_any _ _ _ _ x y w ⟨by omega, by omega⟩ ⟨by omega, by omega⟩
theorem ar_comm (p q : Q) : ar p q = ar q p := by
  simp only [ar, Q.mk.injEq]; omega
theorem ar_absorb (p q : Q) : ar (ar p q) p = ar p q := by
  simp only [ar, Q.mk.injEq]; omega
theorem hasQ_move (q : Q) (x y p r : Int) : hasQ ⟨q.x + p, q.y + r, q.a, q.b⟩ (x + p) (y + r) = hasQ q x y := by
  rw [Bool.eq_iff_iff]; simp only [hasQ, hasB, decide_eq_true_eq]; omega
theorem hasQ_meet (p q : Q) (x y : Int) : (meetB p q && hasQ (meetQ p q) x y) = (hasQ p x y && hasQ q x y) := by
  by_cases h : 0 ≤ min (p.x + p.a) (q.x + q.a) - max p.x q.x ∧ 0 ≤ min (p.y + p.b) (q.y + q.b) - max p.y q.y
  · have e : meetB p q = true := by simp only [meetB, decide_eq_true_eq]; exact h
    rw [show meetQ p q = ⟨max p.x q.x, max p.y q.y, min (p.x + p.a) (q.x + q.a) - max p.x q.x, min (p.y + p.b) (q.y + q.b) - max p.y q.y⟩ by simp only [meetQ, e, if_true], e, Bool.true_and, Bool.eq_iff_iff]
    simp only [hasQ, hasB, decide_eq_true_eq, Bool.and_eq_true]
    omega
  · have e : meetB p q = false := by simp only [meetB, decide_eq_false_iff_not]; exact h
    rw [e, Bool.false_and, eq_comm, Bool.and_eq_false_iff]
    simp only [hasQ, hasB, decide_eq_false_iff_not]
    omega
theorem hasQ_join (p q : Q) (x y : Int) (h : hasQ p x y = true) : hasQ (ar p q) x y = true := by
  have h' := of_decide_eq_true h
  refine decide_eq_true ?_
  simp only [ar]
  omega
end Go.Proofs.Ytinnogplnpmcmaa
