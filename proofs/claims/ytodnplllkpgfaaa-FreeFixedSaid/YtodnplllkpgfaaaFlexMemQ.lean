import Derived.Test.YtodnplllkpgfaaaProg
import Derived.Test.YtodnplllkpgfaaaZQ
import Derived.Lib.MinMax
/- Flexies in memory; the document's Clamp, Hyp, Ok. -/
namespace Go.Proofs.Ytodnplllkpgfaaa
open Go Go.RowKit
set_option linter.unusedVariables false
set_option linter.unusedSimpArgs false
set_option maxRecDepth 20000
set_option maxHeartbeats 4000000

def fxC (x : Fx) : List Value := [.int .i64 x.base, .int .i64 x.mn, .int .i64 x.mx, .int .i64 x.grow, .int .i64 x.shrink, .int .i64 x.around]
abbrev fxV (x : Fx) : Value := .agg #[.int .i64 x.base, .int .i64 x.mn, .int .i64 x.mx, .int .i64 x.grow, .int .i64 x.shrink, .int .i64 x.around]
theorem fxC_six : ∀ x, (fxC x).length = 6 := fun _ => rfl
def okF (x : Fx) : Bool := decide (0 ≤ x.base) && decide (x.base ≤ 8796093022208) && decide (0 ≤ x.mn) && decide (x.mn ≤ 8796093022208) && decide (-1 ≤ x.mx) && decide (x.mx ≤ 8796093022208) && decide (0 ≤ x.grow) && decide (x.grow ≤ 100) && decide (0 ≤ x.shrink) && decide (x.shrink ≤ 100) && decide (-8796093022208 ≤ x.around) && decide (x.around ≤ 8796093022208)
theorem okF_iff {x : Fx} : okF x = true ↔ FxOk x := by
  unfold okF
  simp only [Bool.and_eq_true, decide_eq_true_eq]
  exact ⟨fun ⟨⟨⟨⟨⟨⟨⟨⟨⟨⟨⟨a, b⟩, c⟩, d⟩, e⟩, f⟩, g⟩, h⟩, i⟩, j⟩, k⟩, l⟩ => ⟨a, b, c, d, e, f, g, h, i, j, k, l⟩, fun ⟨a, b, c, d, e, f, g, h, i, j, k, l⟩ => ⟨⟨⟨⟨⟨⟨⟨⟨⟨⟨⟨a, b⟩, c⟩, d⟩, e⟩, f⟩, g⟩, h⟩, i⟩, j⟩, k⟩, l⟩⟩
theorem rclamp_any (n lo hi : Int) (w : World) : Calls Try.prog 23 #[.int .i64 n, .int .i64 lo, .int .i64 hi] w fun e w' => e = .returned (.int .i64 (max (max 0 lo) (if 0 ≤ hi then min n hi else n))) ∧ w' = w := by
  by_cases h : 0 ≤ hi
  · have hz : hi ≥ 0 := h
    rw [if_pos h]
    go_enter Try.func23, Try.ntmps23
    go_wp2
    all_goals (go_ret; exact ⟨ret_int (by omega), rfl⟩)
  · have hz : ¬ hi ≥ 0 := h
    rw [if_neg h]
    go_enter Try.func23, Try.ntmps23
    go_wp2
    all_goals (go_ret; exact ⟨ret_int (by omega), rfl⟩)
theorem rclamp_x (x : Fx) (n : Int) (w : World) : Calls Try.prog 23 #[.int .i64 n, .int .i64 x.mn, .int .i64 x.mx] w fun e w' => e = .returned (.int .i64 (clF x n)) ∧ w' = w := rclamp_any n x.mn x.mx w
theorem rhyp_any (x : Fx) (W : World) : Calls Try.prog 17 #[fxV x] W fun e w' => e = .returned (.int .i64 (hypF x)) ∧ Below W.heap.size W w' := by
  have R := Lib.hid (fun w => rclamp_x x x.base w)
  have B := Lib.hid ((Below.refl W.heap.size W).alloc (Nat.le_refl _) (.cells #[.int .i64 x.base, .int .i64 x.mn, .int .i64 x.mx, .int .i64 x.grow, .int .i64 x.shrink, .int .i64 x.around] 26))
  go_enter Try.func17, Try.ntmps17
  go_wp2_with fail
  refine (R.out _).mono ?_
  rintro e w' ⟨rfl, rfl⟩
  go_wp2_with fail
  go_ret
  exact ⟨rfl, B.out⟩
theorem Row.flex {w : World} {B : Nat} {A : Option Addr} {L : List Fx} (h : Row w B A (L.flatMap fxC)) {k : Nat} (hk : k < L.length) : ∃ ad, A = some ad ∧ ad.block < B ∧ w.cell? (ad.add (k * 6)) = some (.int .i64 L[k].base) ∧
    w.cell? ⟨(ad.add (k * 6)).block, (ad.add (k * 6)).off + 1, none⟩ = some (.int .i64 L[k].mn) ∧ w.cell? ⟨(ad.add (k * 6)).block, (ad.add (k * 6)).off + 2, none⟩ = some (.int .i64 L[k].mx) ∧
    w.cell? ⟨(ad.add (k * 6)).block, (ad.add (k * 6)).off + 3, none⟩ = some (.int .i64 L[k].grow) ∧ w.cell? ⟨(ad.add (k * 6)).block, (ad.add (k * 6)).off + 4, none⟩ = some (.int .i64 L[k].shrink) ∧
    w.cell? ⟨(ad.add (k * 6)).block, (ad.add (k * 6)).off + 5, none⟩ = some (.int .i64 L[k].around) := by
  obtain ⟨ad, e, hb, h0, hj⟩ := h.rc fxC_six (by decide) hk
  exact ⟨ad, e, hb, h0 _ rfl, hj 1 _ (by decide) rfl, hj 2 _ (by decide) rfl, hj 3 _ (by decide) rfl, hj 4 _ (by decide) rfl, hj 5 _ (by decide) rfl⟩
def okL (l : List Fx) : Bool := l.all okF && decide (l.length ≤ 500)
theorem rflexOk_any (l : List Fx) (A : Option Addr) (c : Nat) (W : World) (hR : Row W W.heap.size A (l.flatMap fxC)) (hm : l.length ≤ 9223372036854775807) :
    Calls Try.prog 14 #[.slice A l.length c] W fun e w' => e = .returned (.bool (okL l)) ∧ Below W.heap.size W w' := by
  have HR := Lib.hid hR
  clear hR
  go_enter Try.func14, Try.ntmps14
  go_wp2_with fail
  go_loopw [3] (fun v3 wr => ∃ k : Nat, v3 = .int .i64 k ∧ k ≤ l.length ∧ Hid ((l.take k).all okF = true) ∧ Hid (Below W.heap.size W wr)) (fun v3 _ => l.length - (intOf v3).toNat)
  case atStart => exact ⟨0, rfl, Nat.zero_le _, Lib.hid rfl, Lib.hid (Below.refl _ _)⟩
  case round =>
    obtain ⟨k, rfl, hk, T, B⟩ := hrel
    by_cases hlt : k < l.length
    · have hltz : (k : Int) < l.length := by omega
      obtain ⟨ad, rfl, hb, c0, c1, c2, c3, c4, c5⟩ := Row.flex (HR.out.below B.out) hlt
      have TS : (l.take (k + 1)).all okF = ((l.take k).all okF && okF l[k]) := by rw [List.take_succ_eq_append_getElem hlt, List.all_append]; simp
      have TS := Lib.hid TS
      have NO : Hid (okF l[k] = false → okL l = false) := Lib.hid fun h => by
        unfold okL
        rw [Bool.and_eq_false_iff]
        left
        rw [List.all_eq_false]
        exact ⟨l[k], List.getElem_mem hlt, by simp [h]⟩
      obtain ⟨x, hx⟩ : ∃ x, l[k] = x := ⟨_, rfl⟩
      rw [hx] at c0 c1 c2 c3 c4 c5 TS NO
      clear hx
      have hsz := B.out.size
      have B1 := Lib.hid (B.out.alloc hsz (.cells #[.int .i64 x.base, .int .i64 x.mn, .int .i64 x.mx, .int .i64 x.grow, .int .i64 x.shrink, .int .i64 x.around] 26))
      clear B
      cases ho : okF x with
      | true =>
        have X := okF_iff.1 ho
        obtain ⟨b0, b1, m0, m1, x0, x1, g0, g1, s0, s1, a0, a1⟩ := X
        have T1 : Hid ((l.take (k + 1)).all okF = true) := Lib.hid (by rw [TS.out, T.out, ho]; rfl)
        clear TS NO T
        go_wp2_with fail
        go_roundw
        case rel => exact ⟨k + 1, by go_num, by omega, T1, B1⟩
        case measure => simp [intOf] <;> omega
      | false =>
        have hn := Lib.hid (NO.out ho)
        clear TS NO T
        go_wp2_with fail
        all_goals first
          | (go_ret; exact ⟨ret_bool hn.out.symm, B1.out⟩)
          | (rename_i h; exact absurd (show okF x = true by unfold okF; simp only [Bool.and_eq_true, decide_eq_true_eq]; exact h) (by rw [ho]; simp))
    · obtain rfl : k = l.length := by omega
      have e : okL l = decide (l.length ≤ 500) := by have := T.out; rw [List.take_length] at this; unfold okL; rw [this]; rfl
      have E : Hid (okL l = decide ((l.length : Int) ≤ 500)) := Lib.hid (by rw [e, decide_eq_decide]; omega)
      go_wp2_with fail
      go_ret
      exact ⟨ret_bool E.out.symm, B.out⟩
end Go.Proofs.Ytodnplllkpgfaaa
