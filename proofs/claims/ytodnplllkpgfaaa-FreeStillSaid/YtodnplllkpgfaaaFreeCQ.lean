import Derived.Test.YtodnplllkpgfaaaFreeLnQ
/- free: its bounds, clamping, what turns, what stays. -/
namespace Go.Proofs.Ytodnplllkpgfaaa
open Go Go.RowKit
set_option linter.unusedVariables false
set_option linter.unusedSimpArgs false
set_option maxRecDepth 20000
set_option maxHeartbeats 4000000

theorem between_any (a n b : Int) (r : Bool) (h : (decide (a ≤ n) && decide (n ≤ b)) = r) (w : World) : Calls Try.prog 18 #[.int .i64 a, .int .i64 n, .int .i64 b] w fun e w' => e = .returned (.bool r) ∧ w' = w := by
  subst h
  by_cases h1 : a ≤ n
  · have z1 : decide (a ≤ n) = true := decide_eq_true h1
    rw [z1, Bool.true_and]
    go_enter Try.func18, Try.ntmps18
    go_wp2
    all_goals (go_ret; exact ⟨by first | rfl | (simp), rfl⟩)
  · have z1 : decide (a ≤ n) = false := decide_eq_false h1
    rw [z1, Bool.false_and]
    go_enter Try.func18, Try.ntmps18
    go_wp2
    all_goals (go_ret; exact ⟨rfl, rfl⟩)
theorem okF_six (x : Fx) : okF x = ((decide (0 ≤ x.base) && decide (x.base ≤ 8796093022208)) && ((decide (0 ≤ x.mn) && decide (x.mn ≤ 8796093022208)) && ((decide (-1 ≤ x.mx) && decide (x.mx ≤ 8796093022208)) && ((decide (0 ≤ x.grow) && decide (x.grow ≤ 100)) && ((decide (0 ≤ x.shrink) && decide (x.shrink ≤ 100)) && (decide (-8796093022208 ≤ x.around) && decide (x.around ≤ 8796093022208))))))) := by
  unfold okF; simp only [Bool.and_assoc]
/-- An item's six cells, at p. -/
structure FxAt (w : World) (p : Addr) (x : Fx) : Prop where
  c0 : w.cell? p = some (.int .i64 x.base)
  c1 : w.cell? ⟨p.block, p.off + 1, none⟩ = some (.int .i64 x.mn)
  c2 : w.cell? ⟨p.block, p.off + 2, none⟩ = some (.int .i64 x.mx)
  c3 : w.cell? ⟨p.block, p.off + 3, none⟩ = some (.int .i64 x.grow)
  c4 : w.cell? ⟨p.block, p.off + 4, none⟩ = some (.int .i64 x.shrink)
  c5 : w.cell? ⟨p.block, p.off + 5, none⟩ = some (.int .i64 x.around)
theorem Row.fxAt {w : World} {B : Nat} {A : Option Addr} {L : List Fx} (h : Row w B A (L.flatMap fxC)) {k : Nat} (hk : k < L.length) : ∃ ad, A = some ad ∧ ad.block < B ∧ FxAt w (ad.add (k * 6)) L[k] := by
  obtain ⟨ad, e, hb, d0, d1, d2, d3, d4, d5⟩ := h.flex hk
  exact ⟨ad, e, hb, d0, d1, d2, d3, d4, d5⟩
theorem FxAt.below {w w' : World} {p : Addr} {x : Fx} {B : Nat} (h : FxAt w p x) (hb : Below B w w') (hp : p.block < B) : FxAt w' p x :=
  ⟨(hb.cell (p := p) hp).trans h.c0, (hb.cell (p := ⟨p.block, p.off + 1, none⟩) hp).trans h.c1, (hb.cell (p := ⟨p.block, p.off + 2, none⟩) hp).trans h.c2, (hb.cell (p := ⟨p.block, p.off + 3, none⟩) hp).trans h.c3, (hb.cell (p := ⟨p.block, p.off + 4, none⟩) hp).trans h.c4, (hb.cell (p := ⟨p.block, p.off + 5, none⟩) hp).trans h.c5⟩
theorem within_any (p : Addr) (x : Fx) (w : World) (h : FxAt w p x) : Calls Try.prog 21 #[.pointer (some p)] w fun e w' => e = .returned (.bool (okF x)) ∧ w' = w := by
  obtain ⟨c0, c1, c2, c3, c4, c5⟩ := h
  have E6 := Lib.hid (okF_six x)
  cases z0 : (decide (0 ≤ x.base) && decide (x.base ≤ 8796093022208)) with
  | false =>
    rw [z0] at E6
    have E7 : Hid (okF x = false) := Lib.hid (by have h := E6.out; simpa using h)
    clear E6
    have Z0 := Lib.hid z0
    clear z0
    go_enter Try.func21, Try.ntmps21
    go_wp2_with fail
    refine (between_any _ _ _ _ Z0.out _).mono ?_
    rintro e w' ⟨rfl, rfl⟩
    go_wp2_with fail
    go_ret
    exact ⟨ret_bool E7.out.symm, rfl⟩
  | true =>
    cases z1 : (decide (0 ≤ x.mn) && decide (x.mn ≤ 8796093022208)) with
    | false =>
      rw [z0, z1] at E6
      have E7 : Hid (okF x = false) := Lib.hid (by have h := E6.out; simpa using h)
      clear E6
      have Z0 := Lib.hid z0
      have Z1 := Lib.hid z1
      clear z0 z1
      go_enter Try.func21, Try.ntmps21
      go_wp2_with fail
      refine (between_any _ _ _ _ Z0.out _).mono ?_
      rintro e w' ⟨rfl, rfl⟩
      go_wp2_with fail
      refine (between_any _ _ _ _ Z1.out _).mono ?_
      rintro e w' ⟨rfl, rfl⟩
      go_wp2_with fail
      go_ret
      exact ⟨ret_bool E7.out.symm, rfl⟩
    | true =>
      cases z2 : (decide (-1 ≤ x.mx) && decide (x.mx ≤ 8796093022208)) with
      | false =>
        rw [z0, z1, z2] at E6
        have E7 : Hid (okF x = false) := Lib.hid (by have h := E6.out; simpa using h)
        clear E6
        have Z0 := Lib.hid z0
        have Z1 := Lib.hid z1
        have Z2 := Lib.hid z2
        clear z0 z1 z2
        go_enter Try.func21, Try.ntmps21
        go_wp2_with fail
        refine (between_any _ _ _ _ Z0.out _).mono ?_
        rintro e w' ⟨rfl, rfl⟩
        go_wp2_with fail
        refine (between_any _ _ _ _ Z1.out _).mono ?_
        rintro e w' ⟨rfl, rfl⟩
        go_wp2_with fail
        refine (between_any _ _ _ _ Z2.out _).mono ?_
        rintro e w' ⟨rfl, rfl⟩
        go_wp2_with fail
        go_ret
        exact ⟨ret_bool E7.out.symm, rfl⟩
      | true =>
        cases z3 : (decide (0 ≤ x.grow) && decide (x.grow ≤ 100)) with
        | false =>
          rw [z0, z1, z2, z3] at E6
          have E7 : Hid (okF x = false) := Lib.hid (by have h := E6.out; simpa using h)
          clear E6
          have Z0 := Lib.hid z0
          have Z1 := Lib.hid z1
          have Z2 := Lib.hid z2
          have Z3 := Lib.hid z3
          clear z0 z1 z2 z3
          go_enter Try.func21, Try.ntmps21
          go_wp2_with fail
          refine (between_any _ _ _ _ Z0.out _).mono ?_
          rintro e w' ⟨rfl, rfl⟩
          go_wp2_with fail
          refine (between_any _ _ _ _ Z1.out _).mono ?_
          rintro e w' ⟨rfl, rfl⟩
          go_wp2_with fail
          refine (between_any _ _ _ _ Z2.out _).mono ?_
          rintro e w' ⟨rfl, rfl⟩
          go_wp2_with fail
          refine (between_any _ _ _ _ Z3.out _).mono ?_
          rintro e w' ⟨rfl, rfl⟩
          go_wp2_with fail
          go_ret
          exact ⟨ret_bool E7.out.symm, rfl⟩
        | true =>
          cases z4 : (decide (0 ≤ x.shrink) && decide (x.shrink ≤ 100)) with
          | false =>
            rw [z0, z1, z2, z3, z4] at E6
            have E7 : Hid (okF x = false) := Lib.hid (by have h := E6.out; simpa using h)
            clear E6
            have Z0 := Lib.hid z0
            have Z1 := Lib.hid z1
            have Z2 := Lib.hid z2
            have Z3 := Lib.hid z3
            have Z4 := Lib.hid z4
            clear z0 z1 z2 z3 z4
            go_enter Try.func21, Try.ntmps21
            go_wp2_with fail
            refine (between_any _ _ _ _ Z0.out _).mono ?_
            rintro e w' ⟨rfl, rfl⟩
            go_wp2_with fail
            refine (between_any _ _ _ _ Z1.out _).mono ?_
            rintro e w' ⟨rfl, rfl⟩
            go_wp2_with fail
            refine (between_any _ _ _ _ Z2.out _).mono ?_
            rintro e w' ⟨rfl, rfl⟩
            go_wp2_with fail
            refine (between_any _ _ _ _ Z3.out _).mono ?_
            rintro e w' ⟨rfl, rfl⟩
            go_wp2_with fail
            refine (between_any _ _ _ _ Z4.out _).mono ?_
            rintro e w' ⟨rfl, rfl⟩
            go_wp2_with fail
            go_ret
            exact ⟨ret_bool E7.out.symm, rfl⟩
          | true =>
            cases z5 : (decide (-8796093022208 ≤ x.around) && decide (x.around ≤ 8796093022208)) with
            | false =>
              rw [z0, z1, z2, z3, z4, z5] at E6
              have E7 : Hid (okF x = false) := Lib.hid (by have h := E6.out; simpa using h)
              clear E6
              have Z0 := Lib.hid z0
              have Z1 := Lib.hid z1
              have Z2 := Lib.hid z2
              have Z3 := Lib.hid z3
              have Z4 := Lib.hid z4
              have Z5 := Lib.hid z5
              clear z0 z1 z2 z3 z4 z5
              go_enter Try.func21, Try.ntmps21
              go_wp2_with fail
              refine (between_any _ _ _ _ Z0.out _).mono ?_
              rintro e w' ⟨rfl, rfl⟩
              go_wp2_with fail
              refine (between_any _ _ _ _ Z1.out _).mono ?_
              rintro e w' ⟨rfl, rfl⟩
              go_wp2_with fail
              refine (between_any _ _ _ _ Z2.out _).mono ?_
              rintro e w' ⟨rfl, rfl⟩
              go_wp2_with fail
              refine (between_any _ _ _ _ Z3.out _).mono ?_
              rintro e w' ⟨rfl, rfl⟩
              go_wp2_with fail
              refine (between_any _ _ _ _ Z4.out _).mono ?_
              rintro e w' ⟨rfl, rfl⟩
              go_wp2_with fail
              refine (between_any _ _ _ _ Z5.out _).mono ?_
              rintro e w' ⟨rfl, rfl⟩
              go_wp2_with fail
              go_ret
              exact ⟨ret_bool E7.out.symm, rfl⟩
            | true =>
              rw [z0, z1, z2, z3, z4, z5] at E6
              have E7 : Hid (okF x = true) := Lib.hid (by have h := E6.out; simpa using h)
              clear E6
              have Z0 := Lib.hid z0
              have Z1 := Lib.hid z1
              have Z2 := Lib.hid z2
              have Z3 := Lib.hid z3
              have Z4 := Lib.hid z4
              have Z5 := Lib.hid z5
              clear z0 z1 z2 z3 z4 z5
              go_enter Try.func21, Try.ntmps21
              go_wp2_with fail
              refine (between_any _ _ _ _ Z0.out _).mono ?_
              rintro e w' ⟨rfl, rfl⟩
              go_wp2_with fail
              refine (between_any _ _ _ _ Z1.out _).mono ?_
              rintro e w' ⟨rfl, rfl⟩
              go_wp2_with fail
              refine (between_any _ _ _ _ Z2.out _).mono ?_
              rintro e w' ⟨rfl, rfl⟩
              go_wp2_with fail
              refine (between_any _ _ _ _ Z3.out _).mono ?_
              rintro e w' ⟨rfl, rfl⟩
              go_wp2_with fail
              refine (between_any _ _ _ _ Z4.out _).mono ?_
              rintro e w' ⟨rfl, rfl⟩
              go_wp2_with fail
              refine (between_any _ _ _ _ Z5.out _).mono ?_
              rintro e w' ⟨rfl, rfl⟩
              go_wp2_with fail
              go_ret
              exact ⟨ret_bool E7.out.symm, rfl⟩
theorem fok_any (l : List Fx) (A : Option Addr) (c : Nat) (W : World) (hR : Row W W.heap.size A (l.flatMap fxC)) (hm : l.length ≤ 9223372036854775807) :
    Calls Try.prog 13 #[.slice A l.length c] W fun e w' => e = .returned (.bool (okL l)) ∧ Below W.heap.size W w' := by
  have HR := Lib.hid hR
  clear hR
  by_cases h5 : l.length ≤ 500
  · have h5z : ¬ (l.length : Int) > 500 := by omega
    go_enter Try.func13, Try.ntmps13
    go_wp2_with fail
    go_loopw [9] (fun v9 wr => ∃ k : Nat, v9 = .int .i64 k ∧ k ≤ l.length ∧ Hid ((l.take k).all okF = true) ∧ Hid (Below W.heap.size W wr)) (fun v9 _ => l.length - (intOf v9).toNat)
    case atStart => exact ⟨0, rfl, Nat.zero_le _, Lib.hid rfl, Lib.hid (Below.refl _ _)⟩
    case round =>
      obtain ⟨k, rfl, hk, T, B⟩ := hrel
      by_cases hlt : k < l.length
      · have hltz : (k : Int) < l.length := by omega
        obtain ⟨ad, rfl, hb, X⟩ := Row.fxAt (HR.out.below B.out) hlt
        have X := Lib.hid X
        have TS : (l.take (k + 1)).all okF = ((l.take k).all okF && okF l[k]) := by rw [List.take_succ_eq_append_getElem hlt, List.all_append]; simp
        rw [T.out, Bool.true_and] at TS
        have NO : Hid (okF l[k] = false → okL l = false) := Lib.hid fun h => by
          unfold okL
          rw [Bool.and_eq_false_iff]
          left
          rw [List.all_eq_false]
          exact ⟨l[k], List.getElem_mem hlt, by simp [h]⟩
        have WI := Lib.hid (fun w hq => within_any (ad.add (k * 6)) (l[k]'hlt) w hq)
        have TS := Lib.hid TS
        obtain ⟨x, hx⟩ : ∃ x, l[k] = x := ⟨_, rfl⟩
        rw [hx] at X TS NO WI
        clear hx T
        go_wp2_with fail
        refine (WI.out _ X.out).mono ?_
        rintro e w1 ⟨rfl, rfl⟩
        cases ho : okF x with
        | true =>
          have T1 : Hid ((l.take (k + 1)).all okF = true) := Lib.hid (by rw [TS.out, ho])
          clear TS NO WI X ho
          go_wp2_with fail
          go_roundw
          case rel => exact ⟨k + 1, by go_num, by omega, T1, B⟩
          case measure => simp [intOf] <;> omega
        | false =>
          have hn := Lib.hid (NO.out ho)
          clear TS NO WI X ho
          go_wp2_with fail
          go_ret
          exact ⟨ret_bool hn.out.symm, B.out⟩
      · obtain rfl : k = l.length := by omega
        have hltz : ¬ (l.length : Int) < l.length := by omega
        have E : Hid (okL l = true) := Lib.hid (by have := T.out; rw [List.take_length] at this; unfold okL; rw [this]; simpa using h5)
        go_wp2_with fail
        go_ret
        exact ⟨ret_bool E.out.symm, B.out⟩
  · have h5z : (l.length : Int) > 500 := by omega
    have E : Hid (okL l = false) := Lib.hid (by unfold okL; rw [decide_eq_false h5, Bool.and_false])
    go_enter Try.func13, Try.ntmps13
    go_wp2_with fail
    go_ret
    exact ⟨ret_bool E.out.symm, Below.refl _ _⟩
theorem fclamp_any (p : Addr) (x : Fx) (n : Int) (w : World) (h : FxAt w p x) (h0 : 0 ≤ x.mn) : Calls Try.prog 24 #[.pointer (some p), .int .i64 n] w fun e w' => e = .returned (.int .i64 (clF x n)) ∧ w' = w := by
  obtain ⟨c0, c1, c2, c3, c4, c5⟩ := h
  clear c0 c3 c4 c5
  by_cases hx : 0 ≤ x.mx
  · have hz : x.mx ≥ 0 := hx
    have E : Hid (clF x n = max (min n x.mx) x.mn) := Lib.hid (by unfold clF; rw [if_pos hx]; omega)
    go_enter Try.func24, Try.ntmps24
    go_wp2
    all_goals (go_ret; exact ⟨ret_int E.out.symm, rfl⟩)
  · have hz : ¬ x.mx ≥ 0 := hx
    have E : Hid (clF x n = max n x.mn) := Lib.hid (by unfold clF; rw [if_neg hx]; omega)
    go_enter Try.func24, Try.ntmps24
    go_wp2
    all_goals (go_ret; exact ⟨ret_int E.out.symm, rfl⟩)
theorem fturns_any (p : Addr) (x : Fx) (gr : Bool) (w : World) (h : FxAt w p x) (hx : FxOk x) : Calls Try.prog 25 #[.pointer (some p), .int .i64 (hypF x), .bool gr] w fun e w' => e = .returned (.bool (!(startI gr x).fz)) ∧ w' = w := by
  obtain ⟨c0, c1, c2, c3, c4, c5⟩ := h
  have g0 := hx.g0
  have s0 := hx.s0
  obtain ⟨H, hH⟩ : ∃ H, hypF x = H := ⟨_, rfl⟩
  have HH := Lib.hid hH
  rw [hH]
  clear c1 c2 c5 hx hH
  cases gr with
  | true =>
    clear c4
    by_cases h1 : x.grow > 0
    · have z1 : decide (x.grow > 0) = true := decide_eq_true h1
      by_cases h2 : x.base ≤ H
      · have z2 : decide (x.base ≤ H) = true := decide_eq_true h2
        have E : Hid ((startI true x).fz = false) := Lib.hid (by unfold startI; simp only [HH.out]; simp; omega)
        go_enter Try.func25, Try.ntmps25
        go_wp2
        all_goals (go_ret; exact ⟨ret_bool (by rw [E.out]; rfl), rfl⟩)
      · have z2 : decide (x.base ≤ H) = false := decide_eq_false h2
        have E : Hid ((startI true x).fz = true) := Lib.hid (by unfold startI; simp only [HH.out]; simp; omega)
        go_enter Try.func25, Try.ntmps25
        go_wp2
        all_goals (go_ret; exact ⟨ret_bool (by rw [E.out]; rfl), rfl⟩)
    · have z1 : decide (x.grow > 0) = false := decide_eq_false h1
      have E : Hid ((startI true x).fz = true) := Lib.hid (by unfold startI; simp only [HH.out]; simp; omega)
      go_enter Try.func25, Try.ntmps25
      go_wp2
      all_goals (go_ret; exact ⟨ret_bool (by rw [E.out]; rfl), rfl⟩)
  | false =>
    clear c3
    by_cases h1 : x.shrink > 0
    · have z1 : decide (x.shrink > 0) = true := decide_eq_true h1
      by_cases h2 : x.base ≥ H
      · have z2 : decide (x.base ≥ H) = true := decide_eq_true h2
        have E : Hid ((startI false x).fz = false) := Lib.hid (by unfold startI; simp only [HH.out]; simp; omega)
        go_enter Try.func25, Try.ntmps25
        go_wp2
        all_goals (go_ret; exact ⟨ret_bool (by rw [E.out]; rfl), rfl⟩)
      · have z2 : decide (x.base ≥ H) = false := decide_eq_false h2
        have E : Hid ((startI false x).fz = true) := Lib.hid (by unfold startI; simp only [HH.out]; simp; omega)
        go_enter Try.func25, Try.ntmps25
        go_wp2
        all_goals (go_ret; exact ⟨ret_bool (by rw [E.out]; rfl), rfl⟩)
    · have z1 : decide (x.shrink > 0) = false := decide_eq_false h1
      have E : Hid ((startI false x).fz = true) := Lib.hid (by unfold startI; simp only [HH.out]; simp; omega)
      go_enter Try.func25, Try.ntmps25
      go_wp2
      all_goals (go_ret; exact ⟨ret_bool (by rw [E.out]; rfl), rfl⟩)
theorem stays_any (d o : Int) (w : World) : Calls Try.prog 27 #[.int .i64 d, .int .i64 o] w fun e w' => e = .returned (.bool (!stopB o d)) ∧ w' = w := by
  by_cases h1 : o > 0
  · have z1 : decide (o > 0) = true := decide_eq_true h1
    by_cases h2 : d ≤ 0
    · have z2 : decide (d ≤ 0) = true := decide_eq_true h2
      have E : Hid (stopB o d = false) := Lib.hid (by unfold stopB; simp; omega)
      go_enter Try.func27, Try.ntmps27
      go_wp2
      all_goals (go_ret; exact ⟨ret_bool (by rw [E.out]; rfl), rfl⟩)
    · have z2 : decide (d ≤ 0) = false := decide_eq_false h2
      have z3 : decide (o < 0) = false := decide_eq_false (by omega)
      have z3p : ¬ o < 0 := by omega
      have E : Hid (stopB o d = true) := Lib.hid (by unfold stopB; simp; omega)
      go_enter Try.func27, Try.ntmps27
      go_wp2
      all_goals (go_ret; exact ⟨ret_bool (by rw [E.out]; rfl), rfl⟩)
  · have z1 : decide (o > 0) = false := decide_eq_false h1
    by_cases h3 : o < 0
    · have z3 : decide (o < 0) = true := decide_eq_true h3
      by_cases h2 : d ≥ 0
      · have z2 : decide (d ≥ 0) = true := decide_eq_true h2
        have E : Hid (stopB o d = false) := Lib.hid (by unfold stopB; simp; omega)
        go_enter Try.func27, Try.ntmps27
        go_wp2
        all_goals (go_ret; exact ⟨ret_bool (by rw [E.out]; rfl), rfl⟩)
      · have z2 : decide (d ≥ 0) = false := decide_eq_false h2
        have E : Hid (stopB o d = true) := Lib.hid (by unfold stopB; simp; omega)
        go_enter Try.func27, Try.ntmps27
        go_wp2
        all_goals (go_ret; exact ⟨ret_bool (by rw [E.out]; rfl), rfl⟩)
    · have z3 : decide (o < 0) = false := decide_eq_false h3
      have E : Hid (stopB o d = true) := Lib.hid (by unfold stopB; simp; omega)
      go_enter Try.func27, Try.ntmps27
      go_wp2
      all_goals (go_ret; exact ⟨ret_bool (by rw [E.out]; rfl), rfl⟩)
end Go.Proofs.Ytodnplllkpgfaaa
