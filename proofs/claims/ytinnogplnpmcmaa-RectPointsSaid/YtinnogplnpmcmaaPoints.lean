import Derived.Test.YtinnogplnpmcmaaAwake2
import Derived.Test.YtinnogplnpmcmaaLaneW
/- quoinlaw2.RectPoints answers true. -/
namespace Go.Proofs.Ytinnogplnpmcmaa
open Go.RowKit
set_option linter.unusedVariables false
set_option linter.unusedSimpArgs false

theorem and15 (n : Int) : bits .and .i64 n 15 = n % 16 := and_mask_i64 n 4 (by decide)
def hasQ (q : Q) (x y : Int) : Bool := hasB q.x q.y q.a q.b x y
theorem hasQ_any (q : Q) (x y : Int) (t : Bool) (s : q.small) (h : hasQ q x y = t) (w : World) : Calls Try.prog 8 #[qv q, .int .i64 x, .int .i64 y] w fun e w' => e = .returned (.bool t) ∧ Below w.heap.size w w' := has_is _ _ _ _ _ _ t s h w
/-- What two have, and whether. -/
def meetB (p q : Q) : Bool := decide (0 ≤ min (p.x + p.a) (q.x + q.a) - max p.x q.x ∧ 0 ≤ min (p.y + p.b) (q.y + q.b) - max p.y q.y)
def meetQ (p q : Q) : Q := if meetB p q then ⟨max p.x q.x, max p.y q.y, min (p.x + p.a) (q.x + q.a) - max p.x q.x, min (p.y + p.b) (q.y + q.b) - max p.y q.y⟩ else ⟨0, 0, 0, 0⟩
theorem meet_q (p q : Q) (t : Bool) (m : Q) (hp : p.small) (hq : q.small) (ht : meetB p q = t) (hm : meetQ p q = m) (w : World) :
    Calls Try.prog 11 #[qv p, qv q] w fun e w' => e = .returned (.tuple #[qv m, .bool t]) ∧ Below w.heap.size w w' := by
  subst ht hm
  refine meet_any _ _ _ _ _ _ _ _ w hp hq (meetB p q) (meetQ p q).x (meetQ p q).y (meetQ p q).a (meetQ p q).b ?_
  by_cases h : 0 ≤ min (p.x + p.a) (q.x + q.a) - max p.x q.x ∧ 0 ≤ min (p.y + p.b) (q.y + q.b) - max p.y q.y
  · have e : meetB p q = true := by simp only [meetB, decide_eq_true_eq]; exact h
    rw [show meetQ p q = ⟨max p.x q.x, max p.y q.y, min (p.x + p.a) (q.x + q.a) - max p.x q.x, min (p.y + p.b) (q.y + q.b) - max p.y q.y⟩ by simp only [meetQ, e, if_true], e]
    exact .inr ⟨h, rfl, rfl, rfl, rfl, rfl⟩
  · have e : meetB p q = false := by simp only [meetB, decide_eq_false_iff_not]; exact h
    rw [show meetQ p q = ⟨0, 0, 0, 0⟩ by simp only [meetQ, e, Bool.false_eq_true, if_false], e]
    exact .inl ⟨by omega, rfl, rfl, rfl, rfl, rfl⟩
theorem move_q (q : Q) (x y : Int) (hq : Fine q) (hx : -1099511627776 ≤ x ∧ x ≤ 1099511627776) (hy : -1099511627776 ≤ y ∧ y ≤ 1099511627776) (w : World) :
    Calls Try.prog 17 #[qv q, .int .i64 x, .int .i64 y] w fun e w' => e = .returned (qv ⟨q.x + x, q.y + y, q.a, q.b⟩) ∧ Below w.heap.size w w' := by
  unfold Fine at hq
  exact move_any _ _ _ _ x y w ⟨by omega, by omega⟩ ⟨by omega, by omega⟩
theorem ar_comm (p q : Q) : ar p q = ar q p := by
  simp only [ar, Q.mk.injEq]; omega
theorem ar_absorb (p q : Q) : ar (ar p q) p = ar p q := by
  simp only [ar, Q.mk.injEq]; omega
theorem hasQ_move (q : Q) (x y p r : Int) : hasQ ⟨q.x + p, q.y + r, q.a, q.b⟩ (x + p) (y + r) = hasQ q x y := by
  rw [Bool.eq_iff_iff]; simp only [hasQ, hasB, decide_eq_true_eq]; omega
theorem hasQ_meet (p q : Q) (x y : Int) : (meetB p q && hasQ (meetQ p q) x y) = (hasQ p x y && hasQ q x y) := by
  by_cases h : 0 ≤ min (p.x + p.a) (q.x + q.a) - max p.x q.x ∧ 0 ≤ min (p.y + p.b) (q.y + q.b) - max p.y q.y
  · have e : meetB p q = true := by simp only [meetB, decide_eq_true_eq]; exact h
    rw [show meetQ p q = ⟨max p.x q.x, max p.y q.y, min (p.x + p.a) (q.x + q.a) - max p.x q.x, min (p.y + p.b) (q.y + q.b) - max p.y q.y⟩ by simp only [meetQ, e, if_true], e, Bool.true_and, Bool.eq_iff_iff]
    simp only [hasQ, hasB, decide_eq_true_eq, Bool.and_eq_true]
    omega
  · have e : meetB p q = false := by simp only [meetB, decide_eq_false_iff_not]; exact h
    rw [e, Bool.false_and, eq_comm, Bool.and_eq_false_iff]
    simp only [hasQ, hasB, decide_eq_false_iff_not]
    omega
theorem hasQ_join (p q : Q) (x y : Int) (h : hasQ p x y = true) : hasQ (ar p q) x y = true := by
  have h' := of_decide_eq_true h
  refine decide_eq_true ?_
  simp only [ar]
  omega

set_option maxHeartbeats 4000000 in
theorem points_walk (q0 q1 : Q) (x0 y0 p0 r0 : Int) (g0 : I64q q0) (g1 : I64q q1) (h0 : -9223372036854775808 ≤ p0 ∧ p0 ≤ 9223372036854775807) (h1 : -9223372036854775808 ≤ r0 ∧ r0 ≤ 9223372036854775807) (w : World) :
    Calls Try.prog 6 #[qv q0, qv q1, .int .i64 x0, .int .i64 y0, .int .i64 p0, .int .i64 r0] w fun e w' => e = .returned (.bool true) ∧ Below w.heap.size w w' := by
  have T0 := Lib.hid (tame_small q0)
  have T1 := Lib.hid (tame_small q1)
  have F0 := Lib.hid (tame_tiny q0)
  have F1 := Lib.hid (tame_tiny q1)
  have N0 := Lib.hid (fun w => tame_any p0 1099511627776 w h0.1 h0.2 (by decide) (by decide))
  have N1 := Lib.hid (fun w => tame_any r0 1099511627776 w h1.1 h1.2 (by decide) (by decide))
  have b0 := tameZ_bd p0 1099511627776 (by decide)
  have b1 := tameZ_bd r0 1099511627776 (by decide)
  have a0 := and15 x0
  have a1 := and15 y0
  generalize tameQ true q0 = a at *
  generalize tameQ true q1 = b at *
  generalize tameZ p0 1099511627776 = p at *
  generalize tameZ r0 1099511627776 = r at *
  clear g0 g1 h0 h1
  obtain ⟨b0, b0'⟩ := b0
  obtain ⟨b1, b1'⟩ := b1
  go_enter Try.func6, Try.ntmps6
  go_wp2_with fail
  obtain ⟨W, hW⟩ : ∃ W, (w.alloc (.cells #[.int .i64 q0.x, .int .i64 q0.y, .int .i64 q0.a, .int .i64 q0.b] 23)).alloc (.cells #[.int .i64 q1.x, .int .i64 q1.y, .int .i64 q1.a, .int .i64 q1.b] 23) = W := ⟨_, rfl⟩
  rw [hW]
  have A0 : Whole W w.heap.size 23 [.int .i64 q0.x, .int .i64 q0.y, .int .i64 q0.a, .int .i64 q0.b] := by rw [← hW]; exact (Whole.mk w _ _).made _
  have B0 : Whole W (w.heap.size + 1) 23 [.int .i64 q1.x, .int .i64 q1.y, .int .i64 q1.a, .int .i64 q1.b] := by
    have h := Whole.mk (w.alloc (.cells #[.int .i64 q0.x, .int .i64 q0.y, .int .i64 q0.a, .int .i64 q0.b] 23)) 23 #[.int .i64 q1.x, .int .i64 q1.y, .int .i64 q1.a, .int .i64 q1.b]
    rw [World.size_alloc, hW] at h
    exact h
  have HB0 : Below w.heap.size w W := by rw [← hW]; exact ((Below.refl _ _).alloc (Nat.le_refl _) _).alloc (by simp) _
  have HW := Lib.hid hW
  clear hW
  have K0 : ∀ s : Later W.heap.size W, s.w.cell? ⟨w.heap.size, 0, none⟩ = some (.int .i64 q0.x) := fun s => (A0.under s.h A0.size).four.1
  have K1 : ∀ s : Later W.heap.size W, s.w.cell? ⟨w.heap.size, 1, none⟩ = some (.int .i64 q0.y) := fun s => (A0.under s.h A0.size).four.2.1
  have K2 : ∀ s : Later W.heap.size W, s.w.cell? ⟨w.heap.size, 2, none⟩ = some (.int .i64 q0.a) := fun s => (A0.under s.h A0.size).four.2.2.1
  have K3 : ∀ s : Later W.heap.size W, s.w.cell? ⟨w.heap.size, 3, none⟩ = some (.int .i64 q0.b) := fun s => (A0.under s.h A0.size).four.2.2.2
  have L0 : ∀ s : Later W.heap.size W, s.w.cell? ⟨w.heap.size + 1, 0, none⟩ = some (.int .i64 q1.x) := fun s => (B0.under s.h B0.size).four.1
  have L1 : ∀ s : Later W.heap.size W, s.w.cell? ⟨w.heap.size + 1, 1, none⟩ = some (.int .i64 q1.y) := fun s => (B0.under s.h B0.size).four.2.1
  have L2 : ∀ s : Later W.heap.size W, s.w.cell? ⟨w.heap.size + 1, 2, none⟩ = some (.int .i64 q1.a) := fun s => (B0.under s.h B0.size).four.2.2.1
  have L3 : ∀ s : Later W.heap.size W, s.w.cell? ⟨w.heap.size + 1, 3, none⟩ = some (.int .i64 q1.b) := fun s => (B0.under s.h B0.size).four.2.2.2
  refine region_lane [4, 5, 6, 7, 8, 9, 10, 12] [0, 1, 2, 3, 11, 13] 14 (by kernel_rfl) (by kernel_rfl) (fun _ _ _ _ _ h => h) ?_
  simp only [pick, List.map_cons, List.map_nil, List.getD_cons_zero, List.getD_cons_succ, List.drop_succ_cons, List.drop_zero]
  repeat (go_big_quiet_step (fail))
  refine wpQuiet_nil ?_
  refine ⟨rfl, ?_⟩
  refine laneO_run 1 (by kernel_rfl) ?_
  simp only [List.take_succ_cons, List.take_zero, List.drop_succ_cons, List.drop_zero]
  repeat (go_big_quiet_step (fail))
  refine wpQuiet_nil ?_
  refine laneO_call (v := qv a) (by kernel_rfl) (by rfl) (fun C hC h0 => ?_) ?_
  · go_big_quiet_op
    exact ⟨_, fun w hw => (T0.out w).mono fun e w' ⟨he, hb⟩ => ⟨he, hC _ _ hw hb⟩, rfl⟩
  simp only [Act.put, List.setIfInBounds_toArray, List.set_cons_zero, List.set_cons_succ]
  refine laneO_run 1 (by kernel_rfl) ?_
  simp only [List.take_succ_cons, List.take_zero, List.drop_succ_cons, List.drop_zero]
  repeat (go_big_quiet_step (fail))
  refine wpQuiet_nil ?_
  refine laneO_call (v := qv b) (by kernel_rfl) (by rfl) (fun C hC h0 => ?_) ?_
  · go_big_quiet_op
    exact ⟨_, fun w hw => (T1.out w).mono fun e w' ⟨he, hb⟩ => ⟨he, hC _ _ hw hb⟩, rfl⟩
  simp only [Act.put, List.setIfInBounds_toArray, List.set_cons_zero, List.set_cons_succ]
  refine laneO_call (v := .int .i64 p) (by kernel_rfl) (by rfl) (fun C hC h0 => ?_) ?_
  · go_big_quiet_op
    exact ⟨_, fun w hw => (N0.out w).mono fun e w' ⟨he, hb⟩ => ⟨he, hb ▸ hw⟩, rfl⟩
  simp only [Act.put, List.setIfInBounds_toArray, List.set_cons_zero, List.set_cons_succ]
  refine laneO_call (v := .int .i64 r) (by kernel_rfl) (by rfl) (fun C hC h0 => ?_) ?_
  · go_big_quiet_op
    exact ⟨_, fun w hw => (N1.out w).mono fun e w' ⟨he, hb⟩ => ⟨he, hb ▸ hw⟩, rfl⟩
  simp only [Act.put, List.setIfInBounds_toArray, List.set_cons_zero, List.set_cons_succ]
  refine laneO_end0 rfl rfl fun w1 hb0 => ?_
  clear K0 K1 K2 K3 L0 L1 L2 L3 a0 a1
  have hb : Below W.heap.size W w1 := hb0
  have A1 := A0.under hb A0.size
  have B1 := B0.under hb B0.size
  have HB1 := Lib.hid (HB0.trans (hb.mono HB0.size))
  clear hb hb0 A0 B0 HB0 HW W
  obtain ⟨x, hx⟩ : ∃ x, x0 % 16 - 4 = x := ⟨_, rfl⟩
  obtain ⟨y, hy⟩ : ∃ y, y0 % 16 - 4 = y := ⟨_, rfl⟩
  have hx1 : -4 ≤ x ∧ x ≤ 11 := by omega
  have hy1 : -4 ≤ y ∧ y ≤ 11 := by omega
  rw [hx, hy]
  clear hx hy
  obtain ⟨hx1, hx2⟩ := hx1
  obtain ⟨hy1, hy2⟩ := hy1
  obtain ⟨cA0, cA1, cA2, cA3⟩ := A1.four
  obtain ⟨fA0, fA1, fA2, fA3⟩ := A1.fourFree
  obtain ⟨cB0, cB1, cB2, cB3⟩ := B1.four
  obtain ⟨fB0, fB1, fB2, fB3⟩ := B1.fourFree
  go_wp2_with fail
  clear cA0 cA1 cA2 cA3 fA0 fA1 fA2 fA3 cB0 cB1 cB2 cB3 fB0 fB1 fB2 fB3
  have A1' := (A1.putFour (.int .i64 a.x) (.int .i64 a.y) (.int .i64 a.a) (.int .i64 a.b))
  have A2 : Whole _ _ _ _ := ((((A1'.other (p := ⟨w.heap.size + 1, 0, none⟩) (by simp) (.int .i64 b.x)).other (p := ⟨w.heap.size + 1, 1, none⟩) (by simp) (.int .i64 b.y)).other (p := ⟨w.heap.size + 1, 2, none⟩) (by simp) (.int .i64 b.a)).other (p := ⟨w.heap.size + 1, 3, none⟩) (by simp) (.int .i64 b.b))
  have B2 : Whole _ _ _ _ := ((((B1.other (p := ⟨w.heap.size, 0, none⟩) (by simp) (.int .i64 a.x)).other (p := ⟨w.heap.size, 1, none⟩) (by simp) (.int .i64 a.y)).other (p := ⟨w.heap.size, 2, none⟩) (by simp) (.int .i64 a.a)).other (p := ⟨w.heap.size, 3, none⟩) (by simp) (.int .i64 a.b)).putFour (.int .i64 b.x) (.int .i64 b.y) (.int .i64 b.a) (.int .i64 b.b)
  have HB2 := Lib.hid (below_put4 (below_put4 HB1.out (Nat.le_refl _) (.int .i64 a.x) (.int .i64 a.y) (.int .i64 a.a) (.int .i64 a.b)) (g := w.heap.size + 1) (by omega) (.int .i64 b.x) (.int .i64 b.y) (.int .i64 b.a) (.int .i64 b.b))
  clear A1 A1' B1 HB1 T0 T1 N0 N1
  obtain ⟨w2, hw2⟩ : ∃ w2, (((((((w1.setCell ⟨w.heap.size, 0, none⟩ (.int .i64 a.x)).setCell ⟨w.heap.size, 1, none⟩ (.int .i64 a.y)).setCell ⟨w.heap.size, 2, none⟩ (.int .i64 a.a)).setCell ⟨w.heap.size, 3, none⟩ (.int .i64 a.b)).setCell ⟨w.heap.size + 1, 0, none⟩ (.int .i64 b.x)).setCell ⟨w.heap.size + 1, 1, none⟩ (.int .i64 b.y)).setCell ⟨w.heap.size + 1, 2, none⟩ (.int .i64 b.a)).setCell ⟨w.heap.size + 1, 3, none⟩ (.int .i64 b.b) = w2 := ⟨_, rfl⟩
  rw [hw2] at A2 B2 HB2 ⊢
  clear hw2 w1
  have HH : Hid (∀ (q : Q) (t : Bool), Tiny q → hasQ q x y = t → ∀ w : World, Calls Try.prog 8 #[qv q, .int .i64 x, .int .i64 y] w fun e w' => e = .returned (.bool t) ∧ Below w.heap.size w w') := Lib.hid fun q t hq ht w => hasQ_any q x y t hq.fine.small ht w
  obtain ⟨i, hi⟩ : ∃ i, hasQ a x y = i := ⟨_, rfl⟩
  obtain ⟨k, hk⟩ : ∃ k, hasQ b x y = k := ⟨_, rfl⟩
  have HI := Lib.hid hi
  have HK := Lib.hid hk
  have H1 := Lib.hid (HH.out a i F0.out hi)
  have H2 := Lib.hid (HH.out b k F1.out hk)
  clear hi hk
  have K0 : ∀ s : Later w2.heap.size w2, s.w.cell? ⟨w.heap.size, 0, none⟩ = some (.int .i64 a.x) := fun s => (A2.under s.h A2.size).four.1
  have K1 : ∀ s : Later w2.heap.size w2, s.w.cell? ⟨w.heap.size, 1, none⟩ = some (.int .i64 a.y) := fun s => (A2.under s.h A2.size).four.2.1
  have K2 : ∀ s : Later w2.heap.size w2, s.w.cell? ⟨w.heap.size, 2, none⟩ = some (.int .i64 a.a) := fun s => (A2.under s.h A2.size).four.2.2.1
  have K3 : ∀ s : Later w2.heap.size w2, s.w.cell? ⟨w.heap.size, 3, none⟩ = some (.int .i64 a.b) := fun s => (A2.under s.h A2.size).four.2.2.2
  have L0 : ∀ s : Later w2.heap.size w2, s.w.cell? ⟨w.heap.size + 1, 0, none⟩ = some (.int .i64 b.x) := fun s => (B2.under s.h B2.size).four.1
  have L1 : ∀ s : Later w2.heap.size w2, s.w.cell? ⟨w.heap.size + 1, 1, none⟩ = some (.int .i64 b.y) := fun s => (B2.under s.h B2.size).four.2.1
  have L2 : ∀ s : Later w2.heap.size w2, s.w.cell? ⟨w.heap.size + 1, 2, none⟩ = some (.int .i64 b.a) := fun s => (B2.under s.h B2.size).four.2.2.1
  have L3 : ∀ s : Later w2.heap.size w2, s.w.cell? ⟨w.heap.size + 1, 3, none⟩ = some (.int .i64 b.b) := fun s => (B2.under s.h B2.size).four.2.2.2
  refine region_later (by kernel_rfl) (by kernel_rfl) ?_
  repeat (go_big_quiet_step (first | (with_reducible exact later_call _ (Nat.le_refl _) (H1.out _)) | (with_reducible exact later_call _ (Nat.le_refl _) (H2.out _))))
  refine wpQuiet_nil ?_
  rintro w' ⟨s, rfl⟩
  clear K0 K1 K2 K3 L0 L1 L2 L3 H1 H2
  have hb := s.h
  generalize s.w = w3 at *
  have A3 := A2.under hb A2.size
  have B3 := B2.under hb B2.size
  have sA3 := A3.size
  have sB3 := B3.size
  have HB3 := Lib.hid (HB2.out.trans (hb.mono HB2.out.size))
  clear hb A2 B2 HB2 s w2
  have hm := hasQ_meet a b x y
  have hj1 : i = true ∨ k = true → hasQ (ar a b) x y = true := fun h => by
    rcases h with h | h
    · exact hasQ_join a b x y (HI.out.trans h)
    · rw [ar_comm]; exact hasQ_join b a x y (HK.out.trans h)
  have hj0 := hasQ_move a x y p r
  rw [HI.out, HK.out] at hm
  rw [HI.out] at hj0
  obtain ⟨ok, hok⟩ : ∃ ok, meetB a b = ok := ⟨_, rfl⟩
  obtain ⟨m, hmm⟩ : ∃ m, meetQ a b = m := ⟨_, rfl⟩
  obtain ⟨J, hJ⟩ : ∃ J, ar a b = J := ⟨_, rfl⟩
  have fa := F0.out.fine
  have fb := F1.out.fine
  have sj : J.small := by rw [← hJ]; exact ar_small fa.small fb.small
  have sm : m.small := by
    rw [← hmm]
    unfold Fine at fa fb
    unfold Q.small Small meetQ meetB
    split
    · simp only; omega
    · simp only; omega
  have HM := Lib.hid (meet_q a b ok m fa.small fb.small hok hmm)
  have HSA := Lib.hid fa.small
  have HSB := Lib.hid fb.small
  have HSJ := Lib.hid sj
  have HJ1 := Lib.hid (hJ)
  have HJ2 := Lib.hid ((ar_comm b a).trans hJ)
  have HJ3 : Hid (ar J a = J) := Lib.hid (by rw [← hJ]; exact ar_absorb a b)
  have HMH : ∀ t, hasQ m x y = t → Hid (∀ w : World, Calls Try.prog 8 #[qv m, .int .i64 x, .int .i64 y] w fun e w' => e = .returned (.bool t) ∧ Below w.heap.size w w') := fun t h => Lib.hid fun w => hasQ_any m x y t sm h w
  have HJH : hasQ J x y = true → Hid (∀ w : World, Calls Try.prog 8 #[qv J, .int .i64 x, .int .i64 y] w fun e w' => e = .returned (.bool true) ∧ Below w.heap.size w w') := fun h => Lib.hid fun w => hasQ_any J x y true sj h w
  have HV := Lib.hid (fun w => move_q a p r fa ⟨b0, b0'⟩ ⟨b1, b1'⟩ w)
  have HVH := Lib.hid (fun w => hasQ_any ⟨a.x + p, a.y + r, a.a, a.b⟩ (x + p) (y + r) i (by unfold Fine at fa; unfold Q.small Small; simp only; omega) hj0 w)
  have HAW := Lib.hid awake_any
  rw [hok, hmm] at hm
  rw [hJ] at hj1
  clear hj0 hok hmm hJ fa fb sj sm HH HI HK
  obtain ⟨hv, hhv⟩ : ∃ hv, hasQ m x y = hv := ⟨_, rfl⟩
  rw [hhv] at hm
  have HMV := HMH hv hhv
  clear HMH hhv
  have hcase : (ok = false ∧ ¬(i = true ∧ k = true)) ∨ (ok = true ∧ hv = (i && k)) := by cases ok <;> simp at hm ⊢ <;> simp_all
  clear hm
  cases i <;> cases k
  all_goals
    rcases hcase with ⟨rfl, hc⟩ | ⟨rfl, hc⟩
  all_goals
    first
      | (exfalso; exact hc ⟨rfl, rfl⟩)
      | (obtain rfl : hv = true := hc)
      | (obtain rfl : hv = false := hc)
      | clear hc HMV
  all_goals
    obtain ⟨cA0, cA1, cA2, cA3⟩ := A3.four
    obtain ⟨cB0, cB1, cB2, cB3⟩ := B3.four
    go_wp2_with fail
    refine (HM.out _).mono ?_; rintro e w4 ⟨rfl, hb⟩
    clear cA0 cA1 cA2 cA3 cB0 cB1 cB2 cB3
    have A4 := A3.under hb (by first | omega | (simp <;> omega))
    have sA4 := A4.size
    have B4 := B3.under hb (by first | omega | (simp <;> omega))
    have sB4 := B4.size
    have HB4 := Lib.hid (HB3.out.trans (hb.mono (by first | omega | (simp <;> omega))))
    clear hb A3 B3 HB3
    obtain ⟨cA0, cA1, cA2, cA3⟩ := A4.four
    obtain ⟨cB0, cB1, cB2, cB3⟩ := B4.four
    go_wp2_with fail
    refine (join_new (w4.alloc (.cells #[.int .i64 m.x, .int .i64 m.y, .int .i64 m.a, .int .i64 m.b] 23)) _ 2 [a, b] _ _ J rfl (by simp) rfl (by decide) (by decide) (by intro q hq; simp at hq; rcases hq with rfl | rfl <;> first | exact HSA.out | exact HSB.out) HJ1.out).mono ?_; rintro e w5 ⟨rfl, hb⟩
    clear cA0 cA1 cA2 cA3 cB0 cB1 cB2 cB3
    have A5 := ((A4.made _).made _).under hb (by first | omega | (simp <;> omega))
    have sA5 := A5.size
    have B5 := ((B4.made _).made _).under hb (by first | omega | (simp <;> omega))
    have sB5 := B5.size
    have M5 := ((Whole.mk w4 23 #[.int .i64 m.x, .int .i64 m.y, .int .i64 m.a, .int .i64 m.b]).made _).under hb (by first | omega | (simp <;> omega))
    have sM5 := M5.size
    have HB5 := Lib.hid (((HB4.out.alloc (by first | omega | (simp <;> omega)) _).alloc (by first | omega | (simp <;> omega)) _).trans (hb.mono (by first | omega | (simp <;> omega))))
    clear hb A4 B4 HB4
    obtain ⟨cA0, cA1, cA2, cA3⟩ := A5.four
    obtain ⟨cB0, cB1, cB2, cB3⟩ := B5.four
    obtain ⟨cM0, cM1, cM2, cM3⟩ := M5.four
    clear cM0 cM1 cM2 cM3 cA0 cA1 cA2 cA3 cB0 cB1 cB2 cB3
    go_wp2_with fail
    have J6 := Whole.mk w5 23 #[.int .i64 J.x, .int .i64 J.y, .int .i64 J.a, .int .i64 J.b]
    have A6 := A5.made (.cells #[.int .i64 J.x, .int .i64 J.y, .int .i64 J.a, .int .i64 J.b] 23)
    have B6 := B5.made (.cells #[.int .i64 J.x, .int .i64 J.y, .int .i64 J.a, .int .i64 J.b] 23)
    have M6 := M5.made (.cells #[.int .i64 J.x, .int .i64 J.y, .int .i64 J.a, .int .i64 J.b] 23)
    have HB6 := Lib.hid (HB5.out.alloc (by omega) (.cells #[.int .i64 J.x, .int .i64 J.y, .int .i64 J.a, .int .i64 J.b] 23))
    obtain ⟨w6, hw6⟩ : ∃ w6, w5.alloc (.cells #[.int .i64 J.x, .int .i64 J.y, .int .i64 J.a, .int .i64 J.b] 23) = w6 := ⟨_, rfl⟩
    rw [hw6] at J6 A6 B6 M6 HB6 ⊢
    clear hw6 A5 B5 M5 HB5
    have KA0 : ∀ s : Later w6.heap.size w6, s.w.cell? ⟨w.heap.size, 0, none⟩ = some (.int .i64 a.x) := fun s => (A6.under s.h A6.size).four.1
    have KA1 : ∀ s : Later w6.heap.size w6, s.w.cell? ⟨w.heap.size, 1, none⟩ = some (.int .i64 a.y) := fun s => (A6.under s.h A6.size).four.2.1
    have KA2 : ∀ s : Later w6.heap.size w6, s.w.cell? ⟨w.heap.size, 2, none⟩ = some (.int .i64 a.a) := fun s => (A6.under s.h A6.size).four.2.2.1
    have KA3 : ∀ s : Later w6.heap.size w6, s.w.cell? ⟨w.heap.size, 3, none⟩ = some (.int .i64 a.b) := fun s => (A6.under s.h A6.size).four.2.2.2
    have KB0 : ∀ s : Later w6.heap.size w6, s.w.cell? ⟨w.heap.size + 1, 0, none⟩ = some (.int .i64 b.x) := fun s => (B6.under s.h B6.size).four.1
    have KB1 : ∀ s : Later w6.heap.size w6, s.w.cell? ⟨w.heap.size + 1, 1, none⟩ = some (.int .i64 b.y) := fun s => (B6.under s.h B6.size).four.2.1
    have KB2 : ∀ s : Later w6.heap.size w6, s.w.cell? ⟨w.heap.size + 1, 2, none⟩ = some (.int .i64 b.a) := fun s => (B6.under s.h B6.size).four.2.2.1
    have KB3 : ∀ s : Later w6.heap.size w6, s.w.cell? ⟨w.heap.size + 1, 3, none⟩ = some (.int .i64 b.b) := fun s => (B6.under s.h B6.size).four.2.2.2
    have KM0 : ∀ s : Later w6.heap.size w6, s.w.cell? ⟨w4.heap.size, 0, none⟩ = some (.int .i64 m.x) := fun s => (M6.under s.h M6.size).four.1
    have KM1 : ∀ s : Later w6.heap.size w6, s.w.cell? ⟨w4.heap.size, 1, none⟩ = some (.int .i64 m.y) := fun s => (M6.under s.h M6.size).four.2.1
    have KM2 : ∀ s : Later w6.heap.size w6, s.w.cell? ⟨w4.heap.size, 2, none⟩ = some (.int .i64 m.a) := fun s => (M6.under s.h M6.size).four.2.2.1
    have KM3 : ∀ s : Later w6.heap.size w6, s.w.cell? ⟨w4.heap.size, 3, none⟩ = some (.int .i64 m.b) := fun s => (M6.under s.h M6.size).four.2.2.2
    have KJ0 : ∀ s : Later w6.heap.size w6, s.w.cell? ⟨w5.heap.size, 0, none⟩ = some (.int .i64 J.x) := fun s => (J6.under s.h J6.size).four.1
    have KJ1 : ∀ s : Later w6.heap.size w6, s.w.cell? ⟨w5.heap.size, 1, none⟩ = some (.int .i64 J.y) := fun s => (J6.under s.h J6.size).four.2.1
    have KJ2 : ∀ s : Later w6.heap.size w6, s.w.cell? ⟨w5.heap.size, 2, none⟩ = some (.int .i64 J.a) := fun s => (J6.under s.h J6.size).four.2.2.1
    have KJ3 : ∀ s : Later w6.heap.size w6, s.w.cell? ⟨w5.heap.size, 3, none⟩ = some (.int .i64 J.b) := fun s => (J6.under s.h J6.size).four.2.2.2
    simp only [List.append_eq, List.cons_append, List.nil_append]
    refine region_lane [] (List.range 67) 67 (by kernel_rfl) (by kernel_rfl) (fun _ _ _ _ _ h => h) ?_
    simp only [pick, List.map_nil]
    refine wpQuiet_nil ⟨rfl, ?_⟩
    rw [show List.range 67 = [0, 1, 2, 3, 4, 5, 6, 7, 8, 9, 10, 11, 12, 13, 14, 15, 16, 17, 18, 19, 20, 21, 22, 23, 24, 25, 26, 27, 28, 29, 30, 31, 32, 33, 34, 35, 36, 37, 38, 39, 40, 41, 42, 43, 44, 45, 46, 47, 48, 49, 50, 51, 52, 53, 54, 55, 56, 57, 58, 59, 60, 61, 62, 63, 64, 65, 66] from rfl]
    simp only [List.map_cons, List.map_nil, List.getD_cons_zero, List.getD_cons_succ, List.drop_succ_cons, List.drop_zero]
    have ix := IntWalk.i64_in (x + p) (by omega)
    have iy := IntWalk.i64_in (y + r) (by omega)
    refine laneO_run 5 (by kernel_rfl) ?_
    simp only [List.take_succ_cons, List.take_zero, List.drop_succ_cons, List.drop_zero]
    repeat (go_big_quiet_step (fail))
    refine wpQuiet_nil ?_
    first
      | (refine laneO_skip (by kernel_rfl) (by rfl) ?_
         simp only [Act.put, List.setIfInBounds_toArray, List.set_cons_zero, List.set_cons_succ])
      | (refine laneO_call (v := .bool true) (by kernel_rfl) (by rfl) (fun C hC h0 => ?_) ?_
         focus (go_big_quiet_op; exact ⟨_, fun w hw => (HMV.out w).mono fun e w' ⟨he, hb⟩ => ⟨he, hC _ _ hw hb⟩, rfl⟩)
         simp only [Act.put, List.setIfInBounds_toArray, List.set_cons_zero, List.set_cons_succ])
      | (refine laneO_call (v := .bool false) (by kernel_rfl) (by rfl) (fun C hC h0 => ?_) ?_
         focus (go_big_quiet_op; exact ⟨_, fun w hw => (HMV.out w).mono fun e w' ⟨he, hb⟩ => ⟨he, hC _ _ hw hb⟩, rfl⟩)
         simp only [Act.put, List.setIfInBounds_toArray, List.set_cons_zero, List.set_cons_succ])
    refine laneO_run 17 (by kernel_rfl) ?_
    simp only [List.take_succ_cons, List.take_zero, List.drop_succ_cons, List.drop_zero]
    repeat (go_big_quiet_step (fail))
    refine wpQuiet_nil ?_
    first
      | (refine laneO_skip (by kernel_rfl) (by rfl) ?_
         simp only [Act.put, List.setIfInBounds_toArray, List.set_cons_zero, List.set_cons_succ])
      | (refine laneO_call (v := .bool true) (by kernel_rfl) (by rfl) (fun C hC h0 => ?_) ?_
         focus (go_big_quiet_op; exact ⟨_, fun w hw => ((HJH (hj1 (by simp))).out w).mono fun e w' ⟨he, hb⟩ => ⟨he, hC _ _ hw hb⟩, rfl⟩)
         simp only [Act.put, List.setIfInBounds_toArray, List.set_cons_zero, List.set_cons_succ])
    refine laneO_run 6 (by kernel_rfl) ?_
    simp only [List.take_succ_cons, List.take_zero, List.drop_succ_cons, List.drop_zero]
    repeat (go_big_quiet_step (fail))
    refine wpQuiet_nil ?_
    refine laneO_call (v := qv ⟨a.x + p, a.y + r, a.a, a.b⟩) (by kernel_rfl) (by rfl) (fun C hC h0 => ?_) ?_
    focus (go_big_quiet_op; exact ⟨_, fun w hw => (HV.out w).mono fun e w' ⟨he, hb⟩ => ⟨he, hC _ _ hw hb⟩, rfl⟩)
    simp only [Act.put, List.setIfInBounds_toArray, List.set_cons_zero, List.set_cons_succ]
    refine laneO_run 6 (by kernel_rfl) ?_
    simp only [List.take_succ_cons, List.take_zero, List.drop_succ_cons, List.drop_zero]
    repeat (go_big_quiet_step (fail))
    refine wpQuiet_nil ?_
    first
      | (refine laneO_call (v := .bool true) (by kernel_rfl) (by rfl) (fun C hC h0 => ?_) ?_
         focus (go_big_quiet_op; exact ⟨_, fun w hw => (HVH.out w).mono fun e w' ⟨he, hb⟩ => ⟨he, hC _ _ hw hb⟩, rfl⟩)
         simp only [Act.put, List.setIfInBounds_toArray, List.set_cons_zero, List.set_cons_succ])
      | (refine laneO_call (v := .bool false) (by kernel_rfl) (by rfl) (fun C hC h0 => ?_) ?_
         focus (go_big_quiet_op; exact ⟨_, fun w hw => (HVH.out w).mono fun e w' ⟨he, hb⟩ => ⟨he, hC _ _ hw hb⟩, rfl⟩)
         simp only [Act.put, List.setIfInBounds_toArray, List.set_cons_zero, List.set_cons_succ])
    refine laneO_run 4 (by kernel_rfl) ?_
    simp only [List.take_succ_cons, List.take_zero, List.drop_succ_cons, List.drop_zero]
    repeat (go_big_quiet_step (fail))
    refine wpQuiet_nil ?_
    clear ix iy
    refine laneO_run 2 (by kernel_rfl) ?_
    simp only [List.take_succ_cons, List.take_zero, List.drop_succ_cons, List.drop_zero]
    repeat (go_big_quiet_step (fail))
    refine wpQuiet_nil ?_
    refine laneO_told (madeT 2 23 [.int .i64 b.x, .int .i64 b.y, .int .i64 b.a, .int .i64 b.b, .int .i64 a.x, .int .i64 a.y, .int .i64 a.a, .int .i64 a.b]) (madeT_steady _ _ _) (by kernel_rfl) rfl (fun w hw => .inl ⟨by rfl, ?_⟩) ?_
    · unfold gives
      simp [go_sem]
      exact madeT_new 2 23 #[.int .i64 b.x, .int .i64 b.y, .int .i64 b.a, .int .i64 b.b, .int .i64 a.x, .int .i64 a.y, .int .i64 a.a, .int .i64 a.b] w
    refine laneO_useCall (v := qv J) rfl rfl (of_decide_eq_true (by rfl)) rfl (by rfl) (by rfl) rfl Try.func10 (by kernel_rfl) rfl (fun x w hw hx => join_told [b, a] J rfl hx rfl (by decide) (by decide) (by intro q hq; simp at hq; rcases hq with rfl | rfl <;> first | exact HSA.out | exact HSB.out | exact HSJ.out) HJ2.out) ?_
    simp only [Act.put, List.setIfInBounds_toArray, List.set_cons_zero, List.set_cons_succ]
    refine laneO_run 5 (by kernel_rfl) ?_
    simp only [List.take_succ_cons, List.take_zero, List.drop_succ_cons, List.drop_zero]
    repeat (go_big_quiet_step (fail))
    refine wpQuiet_nil ?_
    refine laneO_told (madeT 1 23 [.int .i64 a.x, .int .i64 a.y, .int .i64 a.a, .int .i64 a.b]) (madeT_steady _ _ _) (by kernel_rfl) rfl (fun w hw => .inl ⟨by rfl, ?_⟩) ?_
    · unfold gives
      simp [go_sem]
      exact madeT_new 1 23 #[.int .i64 a.x, .int .i64 a.y, .int .i64 a.a, .int .i64 a.b] w
    refine laneO_useCall (v := qv a) rfl rfl (of_decide_eq_true (by rfl)) rfl (by rfl) (by rfl) rfl Try.func10 (by kernel_rfl) rfl (fun x w hw hx => join_told [a] a rfl hx rfl (by decide) (by decide) (by intro q hq; simp at hq; subst hq; first | exact HSA.out | exact HSB.out | exact HSJ.out) rfl) ?_
    simp only [Act.put, List.setIfInBounds_toArray, List.set_cons_zero, List.set_cons_succ]
    refine laneO_run 6 (by kernel_rfl) ?_
    simp only [List.take_succ_cons, List.take_zero, List.drop_succ_cons, List.drop_zero]
    repeat (go_big_quiet_step (fail))
    refine wpQuiet_nil ?_
    refine laneO_told (madeT 2 23 [.int .i64 J.x, .int .i64 J.y, .int .i64 J.a, .int .i64 J.b, .int .i64 a.x, .int .i64 a.y, .int .i64 a.a, .int .i64 a.b]) (madeT_steady _ _ _) (by kernel_rfl) rfl (fun w hw => .inl ⟨by rfl, ?_⟩) ?_
    · unfold gives
      simp [go_sem]
      exact madeT_new 2 23 #[.int .i64 J.x, .int .i64 J.y, .int .i64 J.a, .int .i64 J.b, .int .i64 a.x, .int .i64 a.y, .int .i64 a.a, .int .i64 a.b] w
    refine laneO_useCall (v := qv J) rfl rfl (of_decide_eq_true (by rfl)) rfl (by rfl) (by rfl) rfl Try.func10 (by kernel_rfl) rfl (fun x w hw hx => join_told [J, a] J rfl hx rfl (by decide) (by decide) (by intro q hq; simp at hq; rcases hq with rfl | rfl <;> first | exact HSA.out | exact HSB.out | exact HSJ.out) HJ3.out) ?_
    simp only [Act.put, List.setIfInBounds_toArray, List.set_cons_zero, List.set_cons_succ]
    refine laneO_run 4 (by kernel_rfl) ?_
    simp only [List.take_succ_cons, List.take_zero, List.drop_succ_cons, List.drop_zero]
    repeat (go_big_quiet_step (fail))
    refine wpQuiet_nil ?_
    refine laneO_call (v := .bool true) (by kernel_rfl) (by rfl) (fun C hC h0 => ?_) ?_
    focus (go_big_quiet_op; exact ⟨_, fun w hw => (HAW.out w).mono fun e w' ⟨he, hb⟩ => ⟨he, hC _ _ hw hb⟩, rfl⟩)
    simp only [Act.put, List.setIfInBounds_toArray, List.set_cons_zero, List.set_cons_succ]
    refine laneO_run 1 (by kernel_rfl) ?_
    simp only [List.take_succ_cons, List.take_zero, List.drop_succ_cons, List.drop_zero]
    repeat (go_big_quiet_step (fail))
    refine wpQuiet_nil ?_
    refine laneO_end (by simp) (by rfl) rfl rfl fun w7 hb => ?_
    intro x1 hx1 x2 hx2 x3 hx3
    have hb : Below w6.heap.size w6 w7 := hb
    clear hx1 hx2 hx3 KA0 KA1 KA2 KA3 KB0 KB1 KB2 KB3 KM0 KM1 KM2 KM3 KJ0 KJ1 KJ2 KJ3
    simp only [fillAll, Act.put, List.setIfInBounds_toArray, List.set_cons_zero, List.set_cons_succ]
    have HB7 := Lib.hid (HB6.out.trans (hb.mono HB6.out.size))
    clear hb
    go_wp2
    go_ret
    exact ⟨rfl, HB7.out⟩
end Go.Proofs.Ytinnogplnpmcmaa
