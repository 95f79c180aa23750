import Derived.Test.YtcdjdpgjflhjiaaAwake
/- quoinlaw1.UnitRounds answers true, whatever it is given. -/
namespace Go.Proofs.Ytcdjdpgjflhjiaa
open Go.RowKit
set_option linter.unusedVariables false
set_option linter.unusedSimpArgs false

theorem rounds_walk (a0 a1 a2 : Int) (l0 : -9223372036854775808 ≤ a0) (u0 : a0 ≤ 9223372036854775807) (l1 : -9223372036854775808 ≤ a1) (u1 : a1 ≤ 9223372036854775807) (l2 : -9223372036854775808 ≤ a2) (u2 : a2 ≤ 9223372036854775807) (w : World) :
    Calls Try.prog 8 #[.int .i64 a0, .int .i64 a1, .int .i64 a2] w fun e w' => e = .returned (.bool true) ∧ Below w.heap.size w w' := by
  have T0 := Lib.hid (fun w => tame_any a0 10000000000 w l0 u0 (by decide) (by decide))
  have T1 := Lib.hid (fun w => tame_any a1 1073741824 w l1 u1 (by decide) (by decide))
  have T2 := Lib.hid (fun w => tame_any a2 10000 w l2 u2 (by decide) (by decide))
  obtain ⟨b0, c0⟩ := tameZ_bd a0 10000000000 (by decide)
  obtain ⟨b1, c1⟩ := tameZ_bd a1 1073741824 (by decide)
  obtain ⟨b2, c2⟩ := tameZ_bd a2 10000 (by decide)
  generalize tameZ a0 10000000000 = t at *
  generalize tameZ a1 1073741824 = base at *
  generalize tameZ a2 10000 = h at *
  clear l0 u0 l1 u1 l2 u2
  have hb : holdZ base = base := by unfold holdZ; omega
  obtain ⟨p1, p2⟩ := mul_bd base h 1073741824 10000 b1 c1 b2 c2
  have hy : pctZ base h = (base * h + 5000) / 10000 := by
    unfold pctZ nearZ
    rw [hb, show max (-1000000000) (min h 1000000000) = h by omega]
    unfold holdZ
    generalize base * h = p at *
    omega
  have hx : pxZ t = (64 * t + 500) / 1000 := by unfold pxZ nearZ holdZ; omega
  have X := Lib.hid (fun w => px_any t w (by omega) (by omega))
  have Y := Lib.hid (fun w => pct_any base h w (by omega) (by omega) (by omega) (by omega))
  rw [hy] at Y
  rw [hx] at X
  have q0 : (2 * base * h) = 2 * (base * h) := Int.mul_assoc _ _ _
  have q1 : -21474836480000 ≤ 2 * base * h := by omega
  have q2 : 2 * base * h ≤ 21474836480000 := by omega
  have y1 : 20000 * ((base * h + 5000) / 10000) - 2 * base * h ≤ 10000 := by omega
  have y2 : -10000 < 20000 * ((base * h + 5000) / 10000) - 2 * base * h := by omega
  have y3 : -1073741824 ≤ (base * h + 5000) / 10000 := by omega
  have y4 : (base * h + 5000) / 10000 ≤ 1073741824 := by omega
  have x1 : 2000 * ((64 * t + 500) / 1000) - 128 * t ≤ 1000 := by omega
  have x2 : -1000 < 2000 * ((64 * t + 500) / 1000) - 128 * t := by omega
  have x3 : -1073741824 ≤ (64 * t + 500) / 1000 := by omega
  have x4 : (64 * t + 500) / 1000 ≤ 1073741824 := by omega
  have w1 := Int.tmod_lt_of_pos t (show (0 : Int) < 10000000 by decide)
  have w2 := Int.lt_tmod_of_pos t (show (0 : Int) < 10000000 by decide)
  have z1 : (pxZ (1000 * t.tmod 10000000) == 64 * t.tmod 10000000) = true := by
    generalize t.tmod 10000000 = v at *
    simp only [beq_iff_eq]
    unfold pxZ nearZ holdZ; omega
  have z2 : (pctZ base 10000 == base) = true := by
    simp only [beq_iff_eq]; unfold pctZ nearZ; rw [hb, show max (-1000000000 : Int) (min 10000 1000000000) = 10000 from by decide]; unfold holdZ; omega
  have z3 : (pctZ base 0 == 0) = true := by
    simp only [beq_iff_eq]; unfold pctZ nearZ; rw [hb, show max (-1000000000 : Int) (min 0 1000000000) = 0 from by decide]; unfold holdZ; omega
  have z4 : (pxZ 4611686018427387904 == 1073741824) = true := by decide
  have z5 : (pctZ (-1073741824) 1099511627776 == -1073741824) = true := by decide
  generalize (base * h + 5000) / 10000 = y at *
  generalize (64 * t + 500) / 1000 = x at *
  clear hx hy q0 p1 p2 hb
  go_enter Try.func8, Try.ntmps8
  go_wp2_with fail
  refine (T0.out _).mono ?_; rintro e w' ⟨rfl, rfl⟩
  go_wp2_with fail
  refine (T1.out _).mono ?_; rintro e w' ⟨rfl, rfl⟩
  go_wp2_with fail
  refine (T2.out _).mono ?_; rintro e w' ⟨rfl, rfl⟩
  go_wp2_with fail
  refine (X.out _).mono ?_; rintro e w' ⟨rfl, rfl⟩
  go_wp2_with fail
  refine (Y.out _).mono ?_; rintro e w' ⟨rfl, rfl⟩
  clear X Y T0 T1 T2
  go_wp2_with (first
    | (go_at_call 16; refine (px_any _ _ (by omega) (by omega)).mono ?_; rintro e w' ⟨rfl, rfl⟩)
    | (go_at_call 18; refine (pct_any _ _ _ (by omega) (by omega) (by omega) (by omega)).mono ?_; rintro e w' ⟨rfl, rfl⟩)
    | (go_at_call 9; refine (awake_any _).mono ?_; rintro e w' ⟨rfl, hbel⟩))
  go_ret
  exact ⟨rfl, hbel⟩
end Go.Proofs.Ytcdjdpgjflhjiaa
