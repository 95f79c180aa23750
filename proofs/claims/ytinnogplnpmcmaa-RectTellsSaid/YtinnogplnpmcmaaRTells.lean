import Derived.Test.YtinnogplnpmcmaaMeetQ
import Derived.Test.YtinnogplnpmcmaaRectRefJoin
/- quoinlaw2.RectTells answers true. -/
namespace Go.Proofs.Ytinnogplnpmcmaa
open Go.RowKit
set_option linter.unusedVariables false
set_option linter.unusedSimpArgs false

theorem rmeet_q (p q : Q) (t : Bool) (m : Q) (hp : p.small) (hq : q.small) (ht : meetB p q = t) (hm : meetQ p q = m) (w : World) :
    Calls Try.prog 13 #[qv p, qv q] w fun e w' => e = .returned (.tuple #[qv m, .bool t]) ∧ Below w.heap.size w w' := by
  subst ht hm
  refine rmeet_any _ _ _ _ _ _ _ _ w hp hq (meetB p q) (meetQ p q).x (meetQ p q).y (meetQ p q).a (meetQ p q).b ?_
  by_cases h : 0 ≤ min (p.x + p.a) (q.x + q.a) - max p.x q.x ∧ 0 ≤ min (p.y + p.b) (q.y + q.b) - max p.y q.y
  · have e : meetB p q = true := by simp only [meetB, decide_eq_true_eq]; exact h
    rw [show meetQ p q = ⟨max p.x q.x, max p.y q.y, min (p.x + p.a) (q.x + q.a) - max p.x q.x, min (p.y + p.b) (q.y + q.b) - max p.y q.y⟩ by simp only [meetQ, e, if_true], e]
    exact .inr ⟨h, rfl, rfl, rfl, rfl, rfl⟩
  · have e : meetB p q = false := by simp only [meetB, decide_eq_false_iff_not]; exact h
    rw [show meetQ p q = ⟨0, 0, 0, 0⟩ by simp only [meetQ, e, Bool.false_eq_true, if_false], e]
    exact .inl ⟨by omega, rfl, rfl, rfl, rfl, rfl⟩
theorem rjoin_told {x : Value} {w : World} {n : Nat} {t : TypeId} {cs : List Value} (qs : List Q) (r : Q) (hcs : cs = flat4 qs) (hx : madeT n t cs x w) (hl : qs.length = n) (hn : 0 < n) (hm : n ≤ 1000) (hs : ∀ q ∈ qs, q.small) (hj : joinQ qs = r) :
    Calls Try.prog 19 #[x] w fun e w' => e = .returned (qv r) ∧ Below w.heap.size w w' := by
  obtain ⟨g, rfl, hg⟩ := hx
  subst hcs hl hj
  exact rjoin_any w g 0 _ qs (row_told hg) hn hm hs

set_option maxHeartbeats 8000000 in
theorem tells_walk (q q0 q1 q2 : Q) (x0 y0 : Int) (small : Bool) (g : I64q q) (g0 : I64q q0) (g1 : I64q q1) (g2 : I64q q2) (h0 : -9223372036854775808 ≤ x0 ∧ x0 ≤ 9223372036854775807) (h1 : -9223372036854775808 ≤ y0 ∧ y0 ≤ 9223372036854775807) (w : World) :
    Calls Try.prog 5 #[qv q, qv q0, qv q1, qv q2, .int .i64 x0, .int .i64 y0, .bool small] w fun e w' => e = .returned (.bool true) ∧ Below w.heap.size w w' := by
  have T0 := Lib.hid (fun w => tame_q small q0 w g0)
  have T1 := Lib.hid (fun w => tame_q small q1 w g1)
  have T2 := Lib.hid (fun w => tame_q small q2 w g2)
  have F0 := Lib.hid (tame_fine small q0)
  have F1 := Lib.hid (tame_fine small q1)
  have F2 := Lib.hid (tame_fine small q2)
  have N0 := Lib.hid (fun w => tame_any x0 8796093022208 w h0.1 h0.2 (by decide) (by decide))
  have N1 := Lib.hid (fun w => tame_any y0 8796093022208 w h1.1 h1.2 (by decide) (by decide))
  have b0 := tameZ_bd x0 8796093022208 (by decide)
  have b1 := tameZ_bd y0 8796093022208 (by decide)
  generalize tameQ small q0 = a at *
  generalize tameQ small q1 = b at *
  generalize tameQ small q2 = c at *
  generalize tameZ x0 8796093022208 = x at *
  generalize tameZ y0 8796093022208 = y at *
  clear g g0 g1 g2 h0 h1
  obtain ⟨b0, b0'⟩ := b0
  obtain ⟨b1, b1'⟩ := b1
  go_enter Try.func5, Try.ntmps5
  go_wp2_with fail
  obtain ⟨W, hW⟩ : ∃ W, (((w.alloc (.cells #[.int .i64 q.x, .int .i64 q.y, .int .i64 q.a, .int .i64 q.b] 23)).alloc (.cells #[.int .i64 q0.x, .int .i64 q0.y, .int .i64 q0.a, .int .i64 q0.b] 23)).alloc (.cells #[.int .i64 q1.x, .int .i64 q1.y, .int .i64 q1.a, .int .i64 q1.b] 23)).alloc (.cells #[.int .i64 q2.x, .int .i64 q2.y, .int .i64 q2.a, .int .i64 q2.b] 23) = W := ⟨_, rfl⟩
  rw [hW]
  have Z0 : Whole W w.heap.size 23 [.int .i64 q.x, .int .i64 q.y, .int .i64 q.a, .int .i64 q.b] := by rw [← hW]; exact (((Whole.mk w _ _).made _).made _).made _
  have A0 : Whole W (w.heap.size + 1) 23 [.int .i64 q0.x, .int .i64 q0.y, .int .i64 q0.a, .int .i64 q0.b] := by
    have h := ((Whole.mk (w.alloc (.cells #[.int .i64 q.x, .int .i64 q.y, .int .i64 q.a, .int .i64 q.b] 23)) 23 #[.int .i64 q0.x, .int .i64 q0.y, .int .i64 q0.a, .int .i64 q0.b]).made (.cells #[.int .i64 q1.x, .int .i64 q1.y, .int .i64 q1.a, .int .i64 q1.b] 23)).made (.cells #[.int .i64 q2.x, .int .i64 q2.y, .int .i64 q2.a, .int .i64 q2.b] 23)
    simp only [World.size_alloc] at h
    rw [hW] at h
    exact h
  have B0 : Whole W (w.heap.size + 1 + 1) 23 [.int .i64 q1.x, .int .i64 q1.y, .int .i64 q1.a, .int .i64 q1.b] := by
    have h := (Whole.mk ((w.alloc (.cells #[.int .i64 q.x, .int .i64 q.y, .int .i64 q.a, .int .i64 q.b] 23)).alloc (.cells #[.int .i64 q0.x, .int .i64 q0.y, .int .i64 q0.a, .int .i64 q0.b] 23)) 23 #[.int .i64 q1.x, .int .i64 q1.y, .int .i64 q1.a, .int .i64 q1.b]).made (.cells #[.int .i64 q2.x, .int .i64 q2.y, .int .i64 q2.a, .int .i64 q2.b] 23)
    simp only [World.size_alloc] at h
    rw [hW] at h
    exact h
  have C0 : Whole W (w.heap.size + 1 + 1 + 1) 23 [.int .i64 q2.x, .int .i64 q2.y, .int .i64 q2.a, .int .i64 q2.b] := by
    have h := Whole.mk (((w.alloc (.cells #[.int .i64 q.x, .int .i64 q.y, .int .i64 q.a, .int .i64 q.b] 23)).alloc (.cells #[.int .i64 q0.x, .int .i64 q0.y, .int .i64 q0.a, .int .i64 q0.b] 23)).alloc (.cells #[.int .i64 q1.x, .int .i64 q1.y, .int .i64 q1.a, .int .i64 q1.b] 23)) 23 #[.int .i64 q2.x, .int .i64 q2.y, .int .i64 q2.a, .int .i64 q2.b]
    simp only [World.size_alloc] at h
    rw [hW] at h
    exact h
  have HB0 : Below w.heap.size w W := by rw [← hW]; exact (((((Below.refl _ _).alloc (Nat.le_refl _) _).alloc (by simp) _).alloc (by simp <;> omega) _).alloc (by simp <;> omega) _)
  have HW := Lib.hid hW
  clear hW
  have KA0 : ∀ s : Later W.heap.size W, s.w.cell? ⟨w.heap.size + 1, 0, none⟩ = some (.int .i64 q0.x) := fun s => (A0.under s.h A0.size).four.1
  have KA1 : ∀ s : Later W.heap.size W, s.w.cell? ⟨w.heap.size + 1, 1, none⟩ = some (.int .i64 q0.y) := fun s => (A0.under s.h A0.size).four.2.1
  have KA2 : ∀ s : Later W.heap.size W, s.w.cell? ⟨w.heap.size + 1, 2, none⟩ = some (.int .i64 q0.a) := fun s => (A0.under s.h A0.size).four.2.2.1
  have KA3 : ∀ s : Later W.heap.size W, s.w.cell? ⟨w.heap.size + 1, 3, none⟩ = some (.int .i64 q0.b) := fun s => (A0.under s.h A0.size).four.2.2.2
  have KB0 : ∀ s : Later W.heap.size W, s.w.cell? ⟨w.heap.size + 1 + 1, 0, none⟩ = some (.int .i64 q1.x) := fun s => (B0.under s.h B0.size).four.1
  have KB1 : ∀ s : Later W.heap.size W, s.w.cell? ⟨w.heap.size + 1 + 1, 1, none⟩ = some (.int .i64 q1.y) := fun s => (B0.under s.h B0.size).four.2.1
  have KB2 : ∀ s : Later W.heap.size W, s.w.cell? ⟨w.heap.size + 1 + 1, 2, none⟩ = some (.int .i64 q1.a) := fun s => (B0.under s.h B0.size).four.2.2.1
  have KB3 : ∀ s : Later W.heap.size W, s.w.cell? ⟨w.heap.size + 1 + 1, 3, none⟩ = some (.int .i64 q1.b) := fun s => (B0.under s.h B0.size).four.2.2.2
  have KC0 : ∀ s : Later W.heap.size W, s.w.cell? ⟨w.heap.size + 1 + 1 + 1, 0, none⟩ = some (.int .i64 q2.x) := fun s => (C0.under s.h C0.size).four.1
  have KC1 : ∀ s : Later W.heap.size W, s.w.cell? ⟨w.heap.size + 1 + 1 + 1, 1, none⟩ = some (.int .i64 q2.y) := fun s => (C0.under s.h C0.size).four.2.1
  have KC2 : ∀ s : Later W.heap.size W, s.w.cell? ⟨w.heap.size + 1 + 1 + 1, 2, none⟩ = some (.int .i64 q2.a) := fun s => (C0.under s.h C0.size).four.2.2.1
  have KC3 : ∀ s : Later W.heap.size W, s.w.cell? ⟨w.heap.size + 1 + 1 + 1, 3, none⟩ = some (.int .i64 q2.b) := fun s => (C0.under s.h C0.size).four.2.2.2
  refine region_lane [1, 4, 7, 9, 11] [0, 2, 3, 5, 6, 8, 10, 12] [13, 14, 15, 16, 17] (by kernel_rfl) (by kernel_rfl) (fun _ _ _ _ _ h => h) ?_
  simp only [pick, List.map_cons, List.map_nil, List.getD_cons_zero, List.getD_cons_succ, List.drop_succ_cons, List.drop_zero]
  repeat (go_big_quiet_step (fail))
  refine wpQuiet_nil ?_
  refine ⟨rfl, ?_⟩
  refine laneO_run 1 (by kernel_rfl) ?_
  simp only [List.take_succ_cons, List.take_zero, List.drop_succ_cons, List.drop_zero]
  repeat (go_big_quiet_step (fail))
  refine wpQuiet_nil ?_
  refine laneO_call (v := qv a) (by kernel_rfl) (by rfl) (fun C hC h0 => ?_) ?_
  focus (go_big_quiet_op; exact ⟨_, fun w hw => (T0.out w).mono fun e w' ⟨he, hb⟩ => ⟨he, hC _ _ hw hb⟩, rfl⟩)
  simp only [Act.put, List.setIfInBounds_toArray, List.set_cons_zero, List.set_cons_succ]
  refine laneO_run 1 (by kernel_rfl) ?_
  simp only [List.take_succ_cons, List.take_zero, List.drop_succ_cons, List.drop_zero]
  repeat (go_big_quiet_step (fail))
  refine wpQuiet_nil ?_
  refine laneO_call (v := qv b) (by kernel_rfl) (by rfl) (fun C hC h0 => ?_) ?_
  focus (go_big_quiet_op; exact ⟨_, fun w hw => (T1.out w).mono fun e w' ⟨he, hb⟩ => ⟨he, hC _ _ hw hb⟩, rfl⟩)
  simp only [Act.put, List.setIfInBounds_toArray, List.set_cons_zero, List.set_cons_succ]
  refine laneO_run 1 (by kernel_rfl) ?_
  simp only [List.take_succ_cons, List.take_zero, List.drop_succ_cons, List.drop_zero]
  repeat (go_big_quiet_step (fail))
  refine wpQuiet_nil ?_
  refine laneO_call (v := qv c) (by kernel_rfl) (by rfl) (fun C hC h0 => ?_) ?_
  focus (go_big_quiet_op; exact ⟨_, fun w hw => (T2.out w).mono fun e w' ⟨he, hb⟩ => ⟨he, hC _ _ hw hb⟩, rfl⟩)
  simp only [Act.put, List.setIfInBounds_toArray, List.set_cons_zero, List.set_cons_succ]
  refine laneO_call (v := .int .i64 x) (by kernel_rfl) (by rfl) (fun C hC h0 => ?_) ?_
  focus (go_big_quiet_op; exact ⟨_, fun w hw => (N0.out w).mono fun e w' ⟨he, hb⟩ => ⟨he, hb ▸ hw⟩, rfl⟩)
  simp only [Act.put, List.setIfInBounds_toArray, List.set_cons_zero, List.set_cons_succ]
  refine laneO_call (v := .int .i64 y) (by kernel_rfl) (by rfl) (fun C hC h0 => ?_) ?_
  focus (go_big_quiet_op; exact ⟨_, fun w hw => (N1.out w).mono fun e w' ⟨he, hb⟩ => ⟨he, hb ▸ hw⟩, rfl⟩)
  simp only [Act.put, List.setIfInBounds_toArray, List.set_cons_zero, List.set_cons_succ]
  refine laneO_end0 rfl rfl fun w1 hb0 => ?_
  clear KA0 KA1 KA2 KA3 KB0 KB1 KB2 KB3 KC0 KC1 KC2 KC3
  have hb : Below W.heap.size W w1 := hb0
  have Z1 := Z0.under hb Z0.size
  have A1 := A0.under hb A0.size
  have B1 := B0.under hb B0.size
  have C1 := C0.under hb C0.size
  have HB1 := Lib.hid (HB0.trans (hb.mono HB0.size))
  clear hb hb0 Z0 A0 B0 C0 HB0 HW W
  obtain ⟨cA0, cA1, cA2, cA3⟩ := A1.four
  obtain ⟨fA0, fA1, fA2, fA3⟩ := A1.fourFree
  obtain ⟨cB0, cB1, cB2, cB3⟩ := B1.four
  obtain ⟨fB0, fB1, fB2, fB3⟩ := B1.fourFree
  obtain ⟨cC0, cC1, cC2, cC3⟩ := C1.four
  obtain ⟨fC0, fC1, fC2, fC3⟩ := C1.fourFree
  have aX := and15 x
  have aY := and15 y
  obtain ⟨w2, hw2⟩ : ∃ w2, (((((((((((w1.setCell ⟨w.heap.size + 1, 0, none⟩ (.int .i64 a.x)).setCell ⟨w.heap.size + 1, 1, none⟩ (.int .i64 a.y)).setCell ⟨w.heap.size + 1, 2, none⟩ (.int .i64 a.a)).setCell ⟨w.heap.size + 1, 3, none⟩ (.int .i64 a.b)).setCell ⟨w.heap.size + 1 + 1, 0, none⟩ (.int .i64 b.x)).setCell ⟨w.heap.size + 1 + 1, 1, none⟩ (.int .i64 b.y)).setCell ⟨w.heap.size + 1 + 1, 2, none⟩ (.int .i64 b.a)).setCell ⟨w.heap.size + 1 + 1, 3, none⟩ (.int .i64 b.b)).setCell ⟨w.heap.size + 1 + 1 + 1, 0, none⟩ (.int .i64 c.x)).setCell ⟨w.heap.size + 1 + 1 + 1, 1, none⟩ (.int .i64 c.y)).setCell ⟨w.heap.size + 1 + 1 + 1, 2, none⟩ (.int .i64 c.a)).setCell ⟨w.heap.size + 1 + 1 + 1, 3, none⟩ (.int .i64 c.b) = w2 := ⟨_, rfl⟩
  have Z2 := ((((((((((((Z1.other (p := ⟨w.heap.size + 1, 0, none⟩) (by simp <;> omega) (.int .i64 a.x)).other (p := ⟨w.heap.size + 1, 1, none⟩) (by simp <;> omega) (.int .i64 a.y)).other (p := ⟨w.heap.size + 1, 2, none⟩) (by simp <;> omega) (.int .i64 a.a)).other (p := ⟨w.heap.size + 1, 3, none⟩) (by simp <;> omega) (.int .i64 a.b)).other (p := ⟨w.heap.size + 1 + 1, 0, none⟩) (by simp <;> omega) (.int .i64 b.x)).other (p := ⟨w.heap.size + 1 + 1, 1, none⟩) (by simp <;> omega) (.int .i64 b.y)).other (p := ⟨w.heap.size + 1 + 1, 2, none⟩) (by simp <;> omega) (.int .i64 b.a)).other (p := ⟨w.heap.size + 1 + 1, 3, none⟩) (by simp <;> omega) (.int .i64 b.b)).other (p := ⟨w.heap.size + 1 + 1 + 1, 0, none⟩) (by simp <;> omega) (.int .i64 c.x)).other (p := ⟨w.heap.size + 1 + 1 + 1, 1, none⟩) (by simp <;> omega) (.int .i64 c.y)).other (p := ⟨w.heap.size + 1 + 1 + 1, 2, none⟩) (by simp <;> omega) (.int .i64 c.a)).other (p := ⟨w.heap.size + 1 + 1 + 1, 3, none⟩) (by simp <;> omega) (.int .i64 c.b))
  have A2 := (((((((((A1.putFour (.int .i64 a.x) (.int .i64 a.y) (.int .i64 a.a) (.int .i64 a.b)).other (p := ⟨w.heap.size + 1 + 1, 0, none⟩) (by simp <;> omega) (.int .i64 b.x)).other (p := ⟨w.heap.size + 1 + 1, 1, none⟩) (by simp <;> omega) (.int .i64 b.y)).other (p := ⟨w.heap.size + 1 + 1, 2, none⟩) (by simp <;> omega) (.int .i64 b.a)).other (p := ⟨w.heap.size + 1 + 1, 3, none⟩) (by simp <;> omega) (.int .i64 b.b)).other (p := ⟨w.heap.size + 1 + 1 + 1, 0, none⟩) (by simp <;> omega) (.int .i64 c.x)).other (p := ⟨w.heap.size + 1 + 1 + 1, 1, none⟩) (by simp <;> omega) (.int .i64 c.y)).other (p := ⟨w.heap.size + 1 + 1 + 1, 2, none⟩) (by simp <;> omega) (.int .i64 c.a)).other (p := ⟨w.heap.size + 1 + 1 + 1, 3, none⟩) (by simp <;> omega) (.int .i64 c.b))
  have B2 := (((((((((B1.other (p := ⟨w.heap.size + 1, 0, none⟩) (by simp <;> omega) (.int .i64 a.x)).other (p := ⟨w.heap.size + 1, 1, none⟩) (by simp <;> omega) (.int .i64 a.y)).other (p := ⟨w.heap.size + 1, 2, none⟩) (by simp <;> omega) (.int .i64 a.a)).other (p := ⟨w.heap.size + 1, 3, none⟩) (by simp <;> omega) (.int .i64 a.b)).putFour (.int .i64 b.x) (.int .i64 b.y) (.int .i64 b.a) (.int .i64 b.b)).other (p := ⟨w.heap.size + 1 + 1 + 1, 0, none⟩) (by simp <;> omega) (.int .i64 c.x)).other (p := ⟨w.heap.size + 1 + 1 + 1, 1, none⟩) (by simp <;> omega) (.int .i64 c.y)).other (p := ⟨w.heap.size + 1 + 1 + 1, 2, none⟩) (by simp <;> omega) (.int .i64 c.a)).other (p := ⟨w.heap.size + 1 + 1 + 1, 3, none⟩) (by simp <;> omega) (.int .i64 c.b))
  have C2 := (((((((((C1.other (p := ⟨w.heap.size + 1, 0, none⟩) (by simp <;> omega) (.int .i64 a.x)).other (p := ⟨w.heap.size + 1, 1, none⟩) (by simp <;> omega) (.int .i64 a.y)).other (p := ⟨w.heap.size + 1, 2, none⟩) (by simp <;> omega) (.int .i64 a.a)).other (p := ⟨w.heap.size + 1, 3, none⟩) (by simp <;> omega) (.int .i64 a.b)).other (p := ⟨w.heap.size + 1 + 1, 0, none⟩) (by simp <;> omega) (.int .i64 b.x)).other (p := ⟨w.heap.size + 1 + 1, 1, none⟩) (by simp <;> omega) (.int .i64 b.y)).other (p := ⟨w.heap.size + 1 + 1, 2, none⟩) (by simp <;> omega) (.int .i64 b.a)).other (p := ⟨w.heap.size + 1 + 1, 3, none⟩) (by simp <;> omega) (.int .i64 b.b)).putFour (.int .i64 c.x) (.int .i64 c.y) (.int .i64 c.a) (.int .i64 c.b))
  have HB2 := Lib.hid (below_put4 (below_put4 (below_put4 HB1.out (g := w.heap.size + 1) (by omega) (.int .i64 a.x) (.int .i64 a.y) (.int .i64 a.a) (.int .i64 a.b)) (g := w.heap.size + 1 + 1) (by omega) (.int .i64 b.x) (.int .i64 b.y) (.int .i64 b.a) (.int .i64 b.b)) (g := w.heap.size + 1 + 1 + 1) (by omega) (.int .i64 c.x) (.int .i64 c.y) (.int .i64 c.a) (.int .i64 c.b))
  rw [hw2] at Z2 A2 B2 C2 HB2
  have HW2 := Lib.hid hw2
  clear hw2 T0 T1 T2 N0 N1 Z1 A1 B1 C1 HB1
  have hxy : ∃ X Y : Int, (-8796093022208 ≤ X ∧ X ≤ 8796093022208) ∧ (-8796093022208 ≤ Y ∧ Y ≤ 8796093022208) ∧ Hid (small = true → x % 16 - 4 = X ∧ y % 16 - 4 = Y) ∧ Hid (small = false → x = X ∧ y = Y) := by
    cases small
    · exact ⟨x, y, by omega, by omega, Lib.hid (fun h => by cases h), Lib.hid fun _ => ⟨rfl, rfl⟩⟩
    · exact ⟨x % 16 - 4, y % 16 - 4, by omega, by omega, Lib.hid fun _ => ⟨rfl, rfl⟩, Lib.hid (fun h => by cases h)⟩
  obtain ⟨X, Y, ⟨X1, X2⟩, ⟨Y1, Y2⟩, E1, E0⟩ := hxy
  obtain ⟨ok, hok⟩ : ∃ ok, meetB a b = ok := ⟨_, rfl⟩
  obtain ⟨m, hmm⟩ : ∃ m, meetQ a b = m := ⟨_, rfl⟩
  obtain ⟨J, hJ⟩ : ∃ J, joinQ [a, b, c] = J := ⟨_, rfl⟩
  obtain ⟨tr, htr⟩ : ∃ t, okB q.x q.y q.a q.b = t := ⟨_, rfl⟩
  obtain ⟨th, hth⟩ : ∃ t, hasB a.x a.y a.a a.b X Y = t := ⟨_, rfl⟩
  have fa := F0.out
  have sa := F0.out.small
  have sb := F1.out.small
  have sc := F2.out.small
  have HM := Lib.hid (meet_q a b ok m sa sb hok hmm)
  have HR := Lib.hid (rmeet_q a b ok m sa sb hok hmm)
  have HO := Lib.hid (ok_is q.x q.y q.a q.b tr htr)
  have HRO := Lib.hid (fun w => htr ▸ rok_any q.x q.y q.a q.b w)
  have HO2 := Lib.hid (ok_is a.x a.y a.a a.b true (by unfold Fine at fa; unfold okB; rw [decide_eq_true_eq]; omega))
  have HH := Lib.hid (has_is a.x a.y a.a a.b X Y th sa hth)
  have HRH := Lib.hid (fun w => hth ▸ rhas_any a.x a.y a.a a.b X Y w sa)
  have HV := Lib.hid (fun w => move_any a.x a.y a.a a.b X Y w (by unfold Fine at fa; omega) (by unfold Fine at fa; omega))
  have HRV := Lib.hid (fun w => rmove_any a.x a.y a.a a.b X Y w (by unfold Fine at fa; omega) (by unfold Fine at fa; omega))
  have HSA := Lib.hid sa
  have HSB := Lib.hid sb
  have HSC := Lib.hid sc
  have HJ := Lib.hid hJ
  have HAW := Lib.hid awake_any
  clear hok hmm hJ htr hth fa sa sb sc F0 F1 F2
  cases small
  all_goals
    go_wp2_with fail
    rw [HW2.out]
    first | (have e := E1.out (by trivial); rw [e.1, e.2]) | (have e := E0.out (by trivial); rw [e.1, e.2])
    try clear e
    clear cA0 cA1 cA2 cA3 cB0 cB1 cB2 cB3 cC0 cC1 cC2 cC3 fA0 fA1 fA2 fA3 fB0 fB1 fB2 fB3 fC0 fC1 fC2 fC3 HW2 E1 E0
    have sZ2 := Z2.size
    have sA2 := A2.size
    have sB2 := B2.size
    have sC2 := C2.size
    obtain ⟨cA0, cA1, cA2, cA3⟩ := A2.four
    obtain ⟨cB0, cB1, cB2, cB3⟩ := B2.four
    refine (HM.out _).mono ?_; rintro e w3 ⟨rfl, hb⟩
    clear cA0 cA1 cA2 cA3 cB0 cB1 cB2 cB3
    have Z3 := Z2.under hb (by first | omega | (simp <;> omega))
    have sZ3 := Z3.size
    have A3 := A2.under hb (by first | omega | (simp <;> omega))
    have sA3 := A3.size
    have B3 := B2.under hb (by first | omega | (simp <;> omega))
    have sB3 := B3.size
    have C3 := C2.under hb (by first | omega | (simp <;> omega))
    have sC3 := C3.size
    have HB3 := Lib.hid (HB2.out.trans (hb.mono (by first | omega | (simp <;> omega))))
    clear hb Z2 A2 B2 C2 HB2
    obtain ⟨cZ0, cZ1, cZ2, cZ3⟩ := Z3.four
    obtain ⟨cA0, cA1, cA2, cA3⟩ := A3.four
    obtain ⟨cB0, cB1, cB2, cB3⟩ := B3.four
    obtain ⟨cC0, cC1, cC2, cC3⟩ := C3.four
    clear cZ0 cZ1 cZ2 cZ3 cC0 cC1 cC2 cC3
    go_wp2_with fail
    refine (HR.out _).mono ?_; rintro e w4 ⟨rfl, hb⟩
    clear cA0 cA1 cA2 cA3 cB0 cB1 cB2 cB3
    have Z4 := (Z3.made _).under hb (by first | omega | (simp <;> omega))
    have sZ4 := Z4.size
    have A4 := (A3.made _).under hb (by first | omega | (simp <;> omega))
    have sA4 := A4.size
    have B4 := (B3.made _).under hb (by first | omega | (simp <;> omega))
    have sB4 := B4.size
    have C4 := (C3.made _).under hb (by first | omega | (simp <;> omega))
    have sC4 := C4.size
    have M4 := (Whole.mk w3 23 #[.int .i64 m.x, .int .i64 m.y, .int .i64 m.a, .int .i64 m.b]).under hb (by first | omega | (simp <;> omega))
    have sM4 := M4.size
    have HB4 := Lib.hid ((HB3.out.alloc (by first | omega | (simp <;> omega)) _).trans (hb.mono (by first | omega | (simp <;> omega))))
    clear hb Z3 A3 B3 C3 HB3
    obtain ⟨cZ0, cZ1, cZ2, cZ3⟩ := Z4.four
    obtain ⟨cA0, cA1, cA2, cA3⟩ := A4.four
    obtain ⟨cB0, cB1, cB2, cB3⟩ := B4.four
    obtain ⟨cC0, cC1, cC2, cC3⟩ := C4.four
    obtain ⟨cM0, cM1, cM2, cM3⟩ := M4.four
    clear cZ0 cZ1 cZ2 cZ3 cA0 cA1 cA2 cA3 cB0 cB1 cB2 cB3 cC0 cC1 cC2 cC3 cM0 cM1 cM2 cM3
    go_wp2_with fail
    have V5 := Whole.mk w4 23 #[.int .i64 m.x, .int .i64 m.y, .int .i64 m.a, .int .i64 m.b]
    have Z5 := Z4.made (.cells #[.int .i64 m.x, .int .i64 m.y, .int .i64 m.a, .int .i64 m.b] 23)
    have A5 := A4.made (.cells #[.int .i64 m.x, .int .i64 m.y, .int .i64 m.a, .int .i64 m.b] 23)
    have B5 := B4.made (.cells #[.int .i64 m.x, .int .i64 m.y, .int .i64 m.a, .int .i64 m.b] 23)
    have C5 := C4.made (.cells #[.int .i64 m.x, .int .i64 m.y, .int .i64 m.a, .int .i64 m.b] 23)
    have M5 := M4.made (.cells #[.int .i64 m.x, .int .i64 m.y, .int .i64 m.a, .int .i64 m.b] 23)
    have HB5 := Lib.hid (HB4.out.alloc (by omega) (.cells #[.int .i64 m.x, .int .i64 m.y, .int .i64 m.a, .int .i64 m.b] 23))
    obtain ⟨w5, hw5⟩ : ∃ w5, w4.alloc (.cells #[.int .i64 m.x, .int .i64 m.y, .int .i64 m.a, .int .i64 m.b] 23) = w5 := ⟨_, rfl⟩
    rw [hw5] at V5 Z5 A5 B5 C5 M5 HB5 ⊢
    clear hw5 Z4 A4 B4 C4 M4 HB4
    have KZ0 : ∀ s : Later w5.heap.size w5, s.w.cell? ⟨w.heap.size, 0, none⟩ = some (.int .i64 q.x) := fun s => (Z5.under s.h Z5.size).four.1
    have KZ1 : ∀ s : Later w5.heap.size w5, s.w.cell? ⟨w.heap.size, 1, none⟩ = some (.int .i64 q.y) := fun s => (Z5.under s.h Z5.size).four.2.1
    have KZ2 : ∀ s : Later w5.heap.size w5, s.w.cell? ⟨w.heap.size, 2, none⟩ = some (.int .i64 q.a) := fun s => (Z5.under s.h Z5.size).four.2.2.1
    have KZ3 : ∀ s : Later w5.heap.size w5, s.w.cell? ⟨w.heap.size, 3, none⟩ = some (.int .i64 q.b) := fun s => (Z5.under s.h Z5.size).four.2.2.2
    have KA0 : ∀ s : Later w5.heap.size w5, s.w.cell? ⟨w.heap.size + 1, 0, none⟩ = some (.int .i64 a.x) := fun s => (A5.under s.h A5.size).four.1
    have KA1 : ∀ s : Later w5.heap.size w5, s.w.cell? ⟨w.heap.size + 1, 1, none⟩ = some (.int .i64 a.y) := fun s => (A5.under s.h A5.size).four.2.1
    have KA2 : ∀ s : Later w5.heap.size w5, s.w.cell? ⟨w.heap.size + 1, 2, none⟩ = some (.int .i64 a.a) := fun s => (A5.under s.h A5.size).four.2.2.1
    have KA3 : ∀ s : Later w5.heap.size w5, s.w.cell? ⟨w.heap.size + 1, 3, none⟩ = some (.int .i64 a.b) := fun s => (A5.under s.h A5.size).four.2.2.2
    have KB0 : ∀ s : Later w5.heap.size w5, s.w.cell? ⟨w.heap.size + 1 + 1, 0, none⟩ = some (.int .i64 b.x) := fun s => (B5.under s.h B5.size).four.1
    have KB1 : ∀ s : Later w5.heap.size w5, s.w.cell? ⟨w.heap.size + 1 + 1, 1, none⟩ = some (.int .i64 b.y) := fun s => (B5.under s.h B5.size).four.2.1
    have KB2 : ∀ s : Later w5.heap.size w5, s.w.cell? ⟨w.heap.size + 1 + 1, 2, none⟩ = some (.int .i64 b.a) := fun s => (B5.under s.h B5.size).four.2.2.1
    have KB3 : ∀ s : Later w5.heap.size w5, s.w.cell? ⟨w.heap.size + 1 + 1, 3, none⟩ = some (.int .i64 b.b) := fun s => (B5.under s.h B5.size).four.2.2.2
    have KC0 : ∀ s : Later w5.heap.size w5, s.w.cell? ⟨w.heap.size + 1 + 1 + 1, 0, none⟩ = some (.int .i64 c.x) := fun s => (C5.under s.h C5.size).four.1
    have KC1 : ∀ s : Later w5.heap.size w5, s.w.cell? ⟨w.heap.size + 1 + 1 + 1, 1, none⟩ = some (.int .i64 c.y) := fun s => (C5.under s.h C5.size).four.2.1
    have KC2 : ∀ s : Later w5.heap.size w5, s.w.cell? ⟨w.heap.size + 1 + 1 + 1, 2, none⟩ = some (.int .i64 c.a) := fun s => (C5.under s.h C5.size).four.2.2.1
    have KC3 : ∀ s : Later w5.heap.size w5, s.w.cell? ⟨w.heap.size + 1 + 1 + 1, 3, none⟩ = some (.int .i64 c.b) := fun s => (C5.under s.h C5.size).four.2.2.2
    have KM0 : ∀ s : Later w5.heap.size w5, s.w.cell? ⟨w3.heap.size, 0, none⟩ = some (.int .i64 m.x) := fun s => (M5.under s.h M5.size).four.1
    have KM1 : ∀ s : Later w5.heap.size w5, s.w.cell? ⟨w3.heap.size, 1, none⟩ = some (.int .i64 m.y) := fun s => (M5.under s.h M5.size).four.2.1
    have KM2 : ∀ s : Later w5.heap.size w5, s.w.cell? ⟨w3.heap.size, 2, none⟩ = some (.int .i64 m.a) := fun s => (M5.under s.h M5.size).four.2.2.1
    have KM3 : ∀ s : Later w5.heap.size w5, s.w.cell? ⟨w3.heap.size, 3, none⟩ = some (.int .i64 m.b) := fun s => (M5.under s.h M5.size).four.2.2.2
    have KV0 : ∀ s : Later w5.heap.size w5, s.w.cell? ⟨w4.heap.size, 0, none⟩ = some (.int .i64 m.x) := fun s => (V5.under s.h V5.size).four.1
    have KV1 : ∀ s : Later w5.heap.size w5, s.w.cell? ⟨w4.heap.size, 1, none⟩ = some (.int .i64 m.y) := fun s => (V5.under s.h V5.size).four.2.1
    have KV2 : ∀ s : Later w5.heap.size w5, s.w.cell? ⟨w4.heap.size, 2, none⟩ = some (.int .i64 m.a) := fun s => (V5.under s.h V5.size).four.2.2.1
    have KV3 : ∀ s : Later w5.heap.size w5, s.w.cell? ⟨w4.heap.size, 3, none⟩ = some (.int .i64 m.b) := fun s => (V5.under s.h V5.size).four.2.2.2
    try simp only [List.append_eq, List.cons_append, List.nil_append]
    refine region_lane [] (List.range 57) [57] (by kernel_rfl) (by kernel_rfl) (fun _ _ _ _ _ h => h) ?_
    simp only [pick, List.map_nil]
    refine wpQuiet_nil ⟨rfl, ?_⟩
    rw [show List.range 57 = [0, 1, 2, 3, 4, 5, 6, 7, 8, 9, 10, 11, 12, 13, 14, 15, 16, 17, 18, 19, 20, 21, 22, 23, 24, 25, 26, 27, 28, 29, 30, 31, 32, 33, 34, 35, 36, 37, 38, 39, 40, 41, 42, 43, 44, 45, 46, 47, 48, 49, 50, 51, 52, 53, 54, 55, 56] from rfl]
    simp only [List.map_cons, List.map_nil, List.getD_cons_zero, List.getD_cons_succ, List.drop_succ_cons, List.drop_zero]
    refine laneO_run 1 (by kernel_rfl) ?_
    simp only [List.take_succ_cons, List.take_zero, List.drop_succ_cons, List.drop_zero]
    repeat (go_big_quiet_step (fail))
    refine wpQuiet_nil ?_
    refine laneO_call (v := .bool tr) (by kernel_rfl) (by rfl) (fun C hC h0 => ?_) ?_
    focus (go_big_quiet_op; exact ⟨_, fun w hw => (HO.out w).mono fun e w' ⟨he, hb⟩ => ⟨he, hC _ _ hw hb⟩, rfl⟩)
    simp only [Act.put, List.setIfInBounds_toArray, List.set_cons_zero, List.set_cons_succ]
    refine laneO_run 1 (by kernel_rfl) ?_
    simp only [List.take_succ_cons, List.take_zero, List.drop_succ_cons, List.drop_zero]
    repeat (go_big_quiet_step (fail))
    refine wpQuiet_nil ?_
    refine laneO_call (v := .bool tr) (by kernel_rfl) (by rfl) (fun C hC h0 => ?_) ?_
    focus (go_big_quiet_op; exact ⟨_, fun w hw => (HRO.out w).mono fun e w' ⟨he, hb⟩ => ⟨he, hC _ _ hw hb⟩, rfl⟩)
    simp only [Act.put, List.setIfInBounds_toArray, List.set_cons_zero, List.set_cons_succ]
    refine laneO_run 3 (by kernel_rfl) ?_
    simp only [List.take_succ_cons, List.take_zero, List.drop_succ_cons, List.drop_zero]
    repeat (go_big_quiet_step (fail))
    refine wpQuiet_nil ?_
    refine laneO_call (v := .bool true) (by kernel_rfl) (by rfl) (fun C hC h0 => ?_) ?_
    focus (go_big_quiet_op; exact ⟨_, fun w hw => (HO2.out w).mono fun e w' ⟨he, hb⟩ => ⟨he, hC _ _ hw hb⟩, rfl⟩)
    simp only [Act.put, List.setIfInBounds_toArray, List.set_cons_zero, List.set_cons_succ]
    refine laneO_run 5 (by kernel_rfl) ?_
    simp only [List.take_succ_cons, List.take_zero, List.drop_succ_cons, List.drop_zero]
    repeat (go_big_quiet_step (fail))
    refine wpQuiet_nil ?_
    refine laneO_call (v := .bool th) (by kernel_rfl) (by rfl) (fun C hC h0 => ?_) ?_
    focus (go_big_quiet_op; exact ⟨_, fun w hw => (HH.out w).mono fun e w' ⟨he, hb⟩ => ⟨he, hC _ _ hw hb⟩, rfl⟩)
    simp only [Act.put, List.setIfInBounds_toArray, List.set_cons_zero, List.set_cons_succ]
    refine laneO_run 3 (by kernel_rfl) ?_
    simp only [List.take_succ_cons, List.take_zero, List.drop_succ_cons, List.drop_zero]
    repeat (go_big_quiet_step (fail))
    refine wpQuiet_nil ?_
    refine laneO_call (v := .bool th) (by kernel_rfl) (by rfl) (fun C hC h0 => ?_) ?_
    focus (go_big_quiet_op; exact ⟨_, fun w hw => (HRH.out w).mono fun e w' ⟨he, hb⟩ => ⟨he, hC _ _ hw hb⟩, rfl⟩)
    simp only [Act.put, List.setIfInBounds_toArray, List.set_cons_zero, List.set_cons_succ]
    refine laneO_run 6 (by kernel_rfl) ?_
    simp only [List.take_succ_cons, List.take_zero, List.drop_succ_cons, List.drop_zero]
    repeat (go_big_quiet_step (fail))
    refine wpQuiet_nil ?_
    refine laneO_call (v := qv ⟨a.x + X, a.y + Y, a.a, a.b⟩) (by kernel_rfl) (by rfl) (fun C hC h0 => ?_) ?_
    focus (go_big_quiet_op; exact ⟨_, fun w hw => (HV.out w).mono fun e w' ⟨he, hb⟩ => ⟨he, hC _ _ hw hb⟩, rfl⟩)
    simp only [Act.put, List.setIfInBounds_toArray, List.set_cons_zero, List.set_cons_succ]
    refine laneO_run 3 (by kernel_rfl) ?_
    simp only [List.take_succ_cons, List.take_zero, List.drop_succ_cons, List.drop_zero]
    repeat (go_big_quiet_step (fail))
    refine wpQuiet_nil ?_
    refine laneO_call (v := qv ⟨a.x + X, a.y + Y, a.a, a.b⟩) (by kernel_rfl) (by rfl) (fun C hC h0 => ?_) ?_
    focus (go_big_quiet_op; exact ⟨_, fun w hw => (HRV.out w).mono fun e w' ⟨he, hb⟩ => ⟨he, hC _ _ hw hb⟩, rfl⟩)
    simp only [Act.put, List.setIfInBounds_toArray, List.set_cons_zero, List.set_cons_succ]
    refine laneO_run 16 (by kernel_rfl) ?_
    simp only [List.take_succ_cons, List.take_zero, List.drop_succ_cons, List.drop_zero]
    repeat (go_big_quiet_step (fail))
    refine wpQuiet_nil ?_
    refine laneO_told (madeT 3 23 [.int .i64 a.x, .int .i64 a.y, .int .i64 a.a, .int .i64 a.b, .int .i64 b.x, .int .i64 b.y, .int .i64 b.a, .int .i64 b.b, .int .i64 c.x, .int .i64 c.y, .int .i64 c.a, .int .i64 c.b]) (madeT_steady _ _ _) (by kernel_rfl) rfl (fun w hw => .inl ⟨by rfl, ?_⟩) ?_
    · unfold gives
      simp [go_sem]
      exact madeT_new 3 23 #[.int .i64 a.x, .int .i64 a.y, .int .i64 a.a, .int .i64 a.b, .int .i64 b.x, .int .i64 b.y, .int .i64 b.a, .int .i64 b.b, .int .i64 c.x, .int .i64 c.y, .int .i64 c.a, .int .i64 c.b] w
    refine laneO_useCall (v := qv J) rfl rfl (of_decide_eq_true (by rfl)) rfl (by rfl) (by rfl) rfl Try.func10 (by kernel_rfl) rfl (fun x w hw hx => join_told [a, b, c] J rfl hx rfl (by decide) (by decide) (by intro q hq; simp at hq; rcases hq with rfl | rfl | rfl <;> first | exact HSA.out | exact HSB.out | exact HSC.out) HJ.out) ?_
    simp only [Act.put, List.setIfInBounds_toArray, List.set_cons_zero, List.set_cons_succ]
    refine laneO_run 3 (by kernel_rfl) ?_
    simp only [List.take_succ_cons, List.take_zero, List.drop_succ_cons, List.drop_zero]
    repeat (go_big_quiet_step (fail))
    refine wpQuiet_nil ?_
    refine laneO_told (madeT 3 23 [.int .i64 a.x, .int .i64 a.y, .int .i64 a.a, .int .i64 a.b, .int .i64 b.x, .int .i64 b.y, .int .i64 b.a, .int .i64 b.b, .int .i64 c.x, .int .i64 c.y, .int .i64 c.a, .int .i64 c.b]) (madeT_steady _ _ _) (by kernel_rfl) rfl (fun w hw => .inl ⟨by rfl, ?_⟩) ?_
    · unfold gives
      simp [go_sem]
      exact madeT_new 3 23 #[.int .i64 a.x, .int .i64 a.y, .int .i64 a.a, .int .i64 a.b, .int .i64 b.x, .int .i64 b.y, .int .i64 b.a, .int .i64 b.b, .int .i64 c.x, .int .i64 c.y, .int .i64 c.a, .int .i64 c.b] w
    refine laneO_useCall (v := qv J) rfl rfl (of_decide_eq_true (by rfl)) rfl (by rfl) (by rfl) rfl Try.func19 (by kernel_rfl) rfl (fun x w hw hx => rjoin_told [a, b, c] J rfl hx rfl (by decide) (by decide) (by intro q hq; simp at hq; rcases hq with rfl | rfl | rfl <;> first | exact HSA.out | exact HSB.out | exact HSC.out) HJ.out) ?_
    simp only [Act.put, List.setIfInBounds_toArray, List.set_cons_zero, List.set_cons_succ]
    refine laneO_run 3 (by kernel_rfl) ?_
    simp only [List.take_succ_cons, List.take_zero, List.drop_succ_cons, List.drop_zero]
    repeat (go_big_quiet_step (fail))
    refine wpQuiet_nil ?_
    refine laneO_call (v := .bool true) (by kernel_rfl) (by rfl) (fun C hC h0 => ?_) ?_
    focus (go_big_quiet_op; exact ⟨_, fun w hw => (HAW.out w).mono fun e w' ⟨he, hb⟩ => ⟨he, hC _ _ hw hb⟩, rfl⟩)
    simp only [Act.put, List.setIfInBounds_toArray, List.set_cons_zero, List.set_cons_succ]
    refine laneO_run 1 (by kernel_rfl) ?_
    simp only [List.take_succ_cons, List.take_zero, List.drop_succ_cons, List.drop_zero]
    repeat (go_big_quiet_step (fail))
    refine wpQuiet_nil ?_
    refine laneO_end (by simp) (by rfl) rfl rfl fun w7 hb => ?_
    intro x1 hx1 x2 hx2
    have hb : Below w5.heap.size w5 w7 := hb
    clear hx1 hx2 KZ0 KZ1 KZ2 KZ3 KA0 KA1 KA2 KA3 KB0 KB1 KB2 KB3 KC0 KC1 KC2 KC3 KM0 KM1 KM2 KM3 KV0 KV1 KV2 KV3
    simp only [fillAll, Act.put, List.setIfInBounds_toArray, List.set_cons_zero, List.set_cons_succ]
    have HB7 := Lib.hid (HB5.out.trans (hb.mono HB5.out.size))
    clear hb
    go_wp2
    go_ret
    exact ⟨rfl, HB7.out⟩
end Go.Proofs.Ytinnogplnpmcmaa
