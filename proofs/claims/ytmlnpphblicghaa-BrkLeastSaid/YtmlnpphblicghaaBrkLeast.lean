import Derived.Test.YtmlnpphblicghaaBrkSame
import Derived.Test.YtmlnpphblicghaaBrkTame
import Derived.Test.YtmlnpphblicghaaBrkWide
import Derived.Test.YtmlnpphblicghaaMonoNum
/- BrkLeast answers true. -/
namespace Go.Proofs.Ytmlnpphblicghaa
open Go Go.RowKit
set_option linter.unusedVariables false
set_option linter.unusedSimpArgs false
set_option maxRecDepth 20000
set_option maxHeartbeats 2000000

theorem room_code (z : Int) : wrap64 ((IntKind.u64.wrap z).tmod 16777216) = z % 16777216 := by
  rw [IntKind.wrap_u64, Int.tmod_eq_emod_of_nonneg (by omega)]
  unfold wrap64
  omega
theorem linesL_len (a : Int) (g : List Gl) : (linesL a g).length ≤ g.length := by
  have h := linesI_length a g g.length 0 (by omega)
  rwa [linesI_zero, Nat.sub_zero] at h
theorem brkLeast_any (gs : List Gl) (A : Option Addr) (c : Nat) (a b : Int) (W : World) (hR : Row W W.heap.size A (i64s (gCells gs))) :
    Calls Try.prog 7 #[.slice A gs.length c, .int .i64 a, .int .i64 b] W fun e w' => e = .returned (.bool true) ∧ Below W.heap.size W w' := by
  have TG := Lib.hid (tameGlyphs_any gs A c W hR)
  have NG := Lib.hid (tameG_fine gs)
  have NA : Hid (Adv0 (tameG gs)) := Lib.hid (fun x hx => (tameG_mem hx).2.1)
  have ad := room_code
  have ha : 0 ≤ a % 16777216 ∧ a % 16777216 < 16777216 := by omega
  have hb : 0 ≤ b % 16777216 ∧ b % 16777216 < 16777216 := by omega
  clear hR
  generalize tameG gs = g at *
  go_enter Try.func7, Try.ntmps7
  go_wp2_with fail
  refine TG.out.mono ?_
  rintro e w1 ⟨A1, c1, rfl, ho1, hb1⟩
  have B1 := Lib.hid hb1
  have R1 := Lib.hid (row_of_own ho1)
  clear ho1 hb1 TG
  go_upto_region 3 with fail
  rw [room_code a, room_code b]
  clear ad
  generalize a % 16777216 = a1 at *
  generalize b % 16777216 = b1 at *
  have ⟨hz, hy, hz0⟩ := longL_bd NG.out NA.out
  have HZ := Lib.hid hz
  have HY := Lib.hid hy
  have LL := Lib.hid (fun (w : World) (hR : Row w w.heap.size A1 (i64s (gCells g))) => least_any g NG.out A1 c1 w hR)
  have LM := Lib.hid (fun (w : World) (hR : Row w w.heap.size A1 (i64s (gCells g))) => most_any g NG.out A1 c1 w hR)
  have LA := Lib.hid (fun (r : Int) (hr : I64 r) (w : World) (hR : Row w w.heap.size A1 (i64s (gCells g))) => lines_any g NG.out A1 c1 r hr w hR)
  have e1 := widZ_least g NA.out
  have e2 := widZ_most g NA.out
  rw [e1] at LL
  rw [e2] at LM
  clear e1 e2 hz hy hz0
  unfold LinePost at LA
  obtain ⟨m, hm⟩ : ∃ m, m = g.length := ⟨_, rfl⟩
  have HM := Lib.hid hm
  rw [← hm] at LL LM LA ⊢
  clear hm
  have HLM := Lib.hid (least_most NA.out)
  have HTI := Lib.hid (fun s (hs : s ∈ linesL (leastL g) g) => (by
    rw [← linesI_zero] at hs
    obtain ⟨k, t, v, hk, rfl, hl⟩ := linesI_mem g.length 0 (by omega) s hs
    exact hl.tight NA.out hk : s.sw ≤ leastL g))
  have HMO := Lib.hid (fun (h : 0 < g.length) => (by
    have := linesI_most NA.out g.length 0 (by omega) h
    rwa [linesI_zero, List.drop_zero] at this : (linesL (mostL g) g).length = brkN g + 1))
  have HMN := Lib.hid (by
    have := linesI_mono (a := a1) (a' := a1 + b1) NA.out (by omega) g.length 0 0 (Nat.le_refl _) (by omega)
    rwa [linesI_zero, linesI_zero] at this : (linesL (a1 + b1) g).length ≤ (linesL a1 g).length)
  have N1 := linesL_len a1 g
  have N2 := linesL_len (a1 + b1) g
  have N3 := linesL_len (mostL g) g
  have N4 := linesL_len (leastL g) g
  have hml : m ≤ 4194304 := by rw [HM.out]; exact NG.out.1
  rw [← HM.out] at N1 N2 N3 N4
  generalize hlz : leastL g = lz at *
  generalize hmz : mostL g = mz at *
  clear hlz hmz
  go_wp2_with fail
  refine (LL.out _ R1.out).mono ?_
  rintro o w2 ⟨rfl, hb2⟩
  have B2 := Lib.hid (B1.out.trans (hb2.mono B1.out.size))
  have R2 := Lib.hid ((R1.out.below hb2).more hb2.size)
  clear hb2 B1 R1
  go_wp2_with fail
  refine (LM.out _ R2.out).mono ?_
  rintro o w3 ⟨rfl, hb3⟩
  have B3 := Lib.hid (B2.out.trans (hb3.mono B2.out.size))
  have R3 := Lib.hid ((R2.out.below hb3).more hb3.size)
  clear hb3 B2 R2 LL LM
  have HBS := Lib.hid (fun (i : Nat) (h : i + 1 < g.length) => (by have h1 := brkN_step g i h; rwa [← kd_at g i (by omega)] at h1 : brkN (g.drop i) = (if kd g i = 4 then 1 else 0) + brkN (g.drop (i + 1))))
  have HBE := Lib.hid (fun (i : Nat) (h : g.length ≤ i + 1) => brkN_end g i h)
  rw [← HM.out] at HBE HMO
  have HB0 : Hid (brkN (g.drop 0) = brkN g) := Lib.hid (by rw [List.drop_zero])
  go_wp2
  go_loopw [10, 11] (fun v10 v11 wr => ∃ q i : Nat, v10 = .int .i64 q ∧ v11 = .int .i64 i ∧ i ≤ m ∧ q ≤ i ∧ wr = w3 ∧ Hid (q + brkN (g.drop i) = brkN g)) (fun _ v11 _ => m - (intOf v11).toNat)
  case atStart => exact ⟨0, 0, rfl, rfl, Nat.zero_le _, Nat.le_refl _, rfl, Lib.hid (by rw [HB0.out, Nat.zero_add])⟩
  case round =>
    obtain ⟨q, i, rfl, rfl, hi, hq, rfl, HC⟩ := hrel
    by_cases hlt : i < m
    · have hli : (i : Int) < m := by omega
      obtain ⟨adg, rfl, hbg, r0, r1, r2, r3⟩ := R3.out.gl (k := i) (by rw [← HM.out]; exact hlt)
      have HST := Lib.hid (HBS.out i)
      have hgi : i < g.length := by rw [← HM.out]; exact hlt
      have HKD := Lib.hid (kd_at g i hgi)
      generalize g[i] = x at *
      obtain ⟨xk, xr, xa, xv⟩ := x
      simp only at r0 HKD
      rw [HKD.out] at HST
      clear r1 r2 r3
      by_cases h4 : xk = 4
      · subst h4
        by_cases h1 : i + 1 < m
        · have h1i : (i : Int) + 1 < m := by omega
          have HC2 : Hid (q + 1 + brkN (g.drop (i + 1)) = brkN g) := Lib.hid (by have h5 := HST.out (by rw [← HM.out]; exact h1); rw [if_pos rfl] at h5; have h6 := HC.out; omega)
          clear HST HC
          go_wp2_with fail
          go_roundw
          case rel => exact ⟨q + 1, i + 1, by go_num, by go_num, by omega, by omega, by first | rfl | trivial, HC2⟩
          case measure => simp [intOf]; omega
        · have h1i : ¬ (i : Int) + 1 < m := by omega
          have HC2 : Hid (q + brkN (g.drop (i + 1)) = brkN g) := Lib.hid (by have h5 := HBE.out i (by omega); have h7 := HBE.out (i + 1) (by omega); have h6 := HC.out; omega)
          clear HST HC
          go_wp2_with fail
          go_roundw
          case rel => exact ⟨q, i + 1, by go_num, by go_num, by omega, by omega, by first | rfl | trivial, HC2⟩
          case measure => simp [intOf]; omega
      · have h4b : (xk == 4) = false := by simpa using h4
        have HC2 : Hid (q + brkN (g.drop (i + 1)) = brkN g) := Lib.hid (by
          have h6 := HC.out
          by_cases h1 : i + 1 < m
          · have h5 := HST.out (by rw [← HM.out]; exact h1); rw [if_neg h4] at h5; omega
          · have h5 := HBE.out i (by omega); have h7 := HBE.out (i + 1) (by omega); omega)
        clear HST HC h4
        go_wp2_with fail
        go_roundw
        case rel => exact ⟨q, i + 1, by go_num, by go_num, by omega, by omega, by first | rfl | trivial, HC2⟩
        case measure => simp [intOf]; omega
    · have hli : ¬ (i : Int) < m := by omega
      have HQ : Hid (q = brkN g) := Lib.hid (by have h5 := HBE.out i (by omega); have h6 := HC.out; omega)
      clear HC HBS HBE HB0
      have i1 : I64 a1 := by unfold I64; omega
      have i2 : I64 (a1 + b1) := by unfold I64; omega
      have I1 := Lib.hid i1
      have I2 := Lib.hid i2
      clear i1 i2
      go_wp2_with fail
      refine (LA.out a1 I1.out _ R3.out).mono ?_
      rintro o w4 ⟨Aa, ca, rfl, ho4, hb4⟩
      have B4 := Lib.hid (B3.out.trans (hb4.mono B3.out.size))
      have R4 := Lib.hid ((R3.out.below hb4).more hb4.size)
      clear hb4 B3 R3 ho4
      go_wp2_with fail
      refine (LA.out (a1 + b1) I2.out _ R4.out).mono ?_
      rintro o w5 ⟨Ab, cb, rfl, ho5, hb5⟩
      have B5 := Lib.hid (B4.out.trans (hb5.mono B4.out.size))
      have R5 := Lib.hid ((R4.out.below hb5).more hb5.size)
      clear hb5 B4 R4 ho5
      go_wp2_with fail
      refine (LA.out mz HY.out _ R5.out).mono ?_
      rintro o w6 ⟨Ax, cx, rfl, ho6, hb6⟩
      have B6 := Lib.hid (B5.out.trans (hb6.mono B5.out.size))
      have R6 := Lib.hid ((R5.out.below hb6).more hb6.size)
      clear hb6 B5 R5 ho6
      go_wp2_with fail
      refine (LA.out lz HZ.out _ R6.out).mono ?_
      rintro o w7 ⟨Ay, cy, rfl, ho7, hb7⟩
      have B7 := Lib.hid (B6.out.trans (hb7.mono B6.out.size))
      have RY := Lib.hid (row_of_own ho7)
      clear hb7 B6 R6 ho7
      have z7 := B7.out.size
      generalize linesL lz g = Y at *
      go_wp2
      go_loopw [16] (fun v16 wx => ∃ j : Nat, v16 = .int .i64 j ∧ j ≤ Y.length ∧ wx = w7) (fun v16 _ => Y.length - (intOf v16).toNat)
      case atStart => exact ⟨0, rfl, Nat.zero_le _, rfl⟩
      case round =>
        obtain ⟨j, rfl, hj, rfl⟩ := hrel
        by_cases hjl : j < Y.length
        · have hji : (j : Int) < Y.length := by omega
          obtain ⟨ady, rfl, hby, s0, s1, s2⟩ := RY.out.sp hjl
          have hw := HTI.out Y[j] (List.getElem_mem hjl)
          generalize Y[j] = s at *
          clear s0 s1
          go_wp2_with fail
          go_roundw
          case rel => exact ⟨j + 1, by go_num, by omega, by first | rfl | trivial⟩
          case measure => simp [intOf]; omega
        · have hji : ¬ (j : Int) < Y.length := by omega
          have hle := HLM.out
          have hMN : ((linesL (a1 + b1) g).length : Int) ≤ (linesL a1 g).length := by have := HMN.out; omega
          have hmo : (m = 0 ∧ (linesL mz g).length = 0) ∨ (0 < m ∧ (linesL mz g).length = q + 1) := by
            rcases Nat.eq_zero_or_pos m with h | h
            · exact .inl ⟨h, by omega⟩
            · exact .inr ⟨h, by rw [HMO.out h, HQ.out]⟩
          generalize (linesL (a1 + b1) g).length = nb at *
          generalize (linesL a1 g).length = na at *
          generalize (linesL mz g).length = nx at *
          rcases hmo with ⟨h1, h2⟩ | ⟨h1, h2⟩
          · have hm0 : ((m : Int) == 0) = true := by simp [h1]
            have hx0 : ((nx : Int) == 0) = true := by simp [h2]
            clear h1 h2 HMO HTI
            go_wp2_with fail
            refine (bawake_any _).mono ?_
            rintro o w8 ⟨rfl, hb8⟩
            have B8 := Lib.hid (B7.out.trans (hb8.mono z7))
            clear hb8
            go_wp2
            go_ret
            exact ⟨rfl, B8.out⟩
          · have hm0 : ((m : Int) == 0) = false := by simp; omega
            have hx0 : ((nx : Int) == (q : Int) + 1) = true := by simp; omega
            clear h2 HMO HTI
            go_wp2_with fail
            refine (bawake_any _).mono ?_
            rintro o w8 ⟨rfl, hb8⟩
            have B8 := Lib.hid (B7.out.trans (hb8.mono z7))
            clear hb8
            go_wp2
            go_ret
            exact ⟨rfl, B8.out⟩
end Go.Proofs.Ytmlnpphblicghaa
