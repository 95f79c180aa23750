import Derived.Test.YtmlnpphblicghaaBrkSame
import Derived.Test.YtmlnpphblicghaaBrkWide
import Derived.Test.YtmlnpphblicghaaWordNum
import Derived.Lib.MinMax
/- BrkWords answers true. -/
namespace Go.Proofs.Ytmlnpphblicghaa
open Go Go.RowKit
set_option linter.unusedVariables false
set_option linter.unusedSimpArgs false
set_option maxRecDepth 20000
set_option maxHeartbeats 2000000

theorem gCells_ink (w : Int) : i64s (gCells [inkW w]) = [.int .i64 1, .int .i64 0, .int .i64 0, .int .i64 w] := rfl
theorem gCells_blank (s : Int) : i64s (gCells [blankW s]) = [.int .i64 2, .int .i64 0, .int .i64 0, .int .i64 s] := rfl
theorem brkWords_any (n w s a : Int) (W : World) :
    Calls Try.prog 3 #[.int .i64 n, .int .i64 w, .int .i64 s, .int .i64 a] W fun e w' => e = .returned (.bool true) ∧ Below W.heap.size W w' := by
  have k6 : ∀ x : Int, bits .and .i64 x 63 = x % 64 := fun x => and_mask_i64 x 6 (by decide)
  have k8 : ∀ x : Int, bits .and .i64 x 255 = x % 256 := fun x => and_mask_i64 x 8 (by decide)
  have k12 : ∀ x : Int, bits .and .i64 x 4095 = x % 4096 := fun x => and_mask_i64 x 12 (by decide)
  obtain ⟨N, hN⟩ : ∃ N : Nat, n % 64 + 1 = N := ⟨(n % 64 + 1).toNat, by omega⟩
  have hN1 : 1 ≤ N ∧ N ≤ 64 := by omega
  have hw : 1 ≤ w % 256 + 1 ∧ w % 256 + 1 ≤ 256 := by omega
  have hs : 0 ≤ s % 64 ∧ s % 64 < 64 := by omega
  have ha : 0 ≤ a % 4096 ∧ a % 4096 < 4096 := by omega
  have HN := Lib.hid hN
  clear hN
  go_enter Try.func3, Try.ntmps3
  go_upto_region 2 with fail
  rw [HN.out]
  clear k6 k8 k12 HN
  generalize w % 256 + 1 = w1 at *
  generalize s % 64 = s1 at *
  generalize a % 4096 = a1 at *
  go_wp2
  go_loopw [9, 10] (fun v9 v10 wr => ∃ (A1 : Option Addr) (k c1 i : Nat), v9 = .slice A1 k c1 ∧ v10 = .int .i64 i ∧ i ≤ N ∧ k ≤ 2 * i ∧ Hid (k = (wordL w1 s1 i).length) ∧
    Hid (wr.ownsRow W.heap.size 24 4 (.slice A1 k c1) k (i64s (gCells (wordL w1 s1 i)))) ∧ Hid (Below W.heap.size W wr)) (fun _ v10 _ => N - (intOf v10).toNat)
  case atStart => exact ⟨none, 0, 0, 0, rfl, rfl, Nat.zero_le _, by omega, Lib.hid rfl, Lib.hid (World.ownsRow_nil _ _ _ _), Lib.hid (Below.refl _ _)⟩
  case round =>
    obtain ⟨A1, k, c1, i, rfl, rfl, hi, hk2, HK, HO, HB⟩ := hrel
    have zB := HB.out.size
    by_cases hlt : i < N
    · have hli : (i : Int) < N := by omega
      by_cases h0 : i = 0
      · have hi0 : ¬ 0 < (i : Int) := by omega
        have HI0 := Lib.hid h0
        clear h0
        go_wp2_with (at_builtin; refine wpList_new rfl (.tmp 38) (.tmp 41) _ rfl W.heap.size 24 4 32 (.agg #[.int .i64 0, .int .i64 0, .int .i64 0, .int .i64 0]) Try.underlying22 gl_info rfl (by decide) _ _ _ _ rfl HO.out rfl ⟨by omega, by unfold maxLen; omega, zB⟩ rfl (by simp [Value.oneCell']) ?_; intro A2 c2 w2 own2 hb2; have O2 := Lib.hid own2; have B2 := Lib.hid (HB.out.trans hb2); clear own2 hb2 HB HO)
        go_roundw
        case rel =>
          refine ⟨A2, k + 1, c2, i + 1, rfl, by go_num, by omega, by omega, ?_, ?_, B2⟩
          · have h1 := HI0.out; have h2 := HK.out; subst h1; subst h2; exact Lib.hid rfl
          · have h1 := HI0.out; subst h1; exact Lib.hid O2.out
        case measure => simp [intOf]; omega
      · have hi0 : 0 < (i : Int) := by omega
        have HW : Hid (wordL w1 s1 (i + 1) = wordL w1 s1 i ++ ([blankW s1] ++ [inkW w1])) := Lib.hid (by
          obtain ⟨j, rfl⟩ : ∃ j, i = j + 1 := ⟨i - 1, by omega⟩
          exact wordL_snoc w1 s1 j)
        clear h0
        go_upto_region 8 with (at_builtin; refine wpList_new rfl (.tmp 33) (.tmp 36) _ rfl W.heap.size 24 4 32 (.agg #[.int .i64 0, .int .i64 0, .int .i64 0, .int .i64 0]) Try.underlying22 gl_info rfl (by decide) _ _ _ _ rfl HO.out rfl ⟨by omega, by unfold maxLen; omega, zB⟩ rfl (by simp [Value.oneCell']) ?_; intro A2 c2 w2 own2 hb2; have O2 := Lib.hid own2; have B2 := Lib.hid (HB.out.trans hb2); have z2 := B2.out.size; clear own2 hb2 HB HO)
        go_wp2_with (at_builtin; refine wpList_new rfl (.tmp 38) (.tmp 41) _ rfl W.heap.size 24 4 32 (.agg #[.int .i64 0, .int .i64 0, .int .i64 0, .int .i64 0]) Try.underlying22 gl_info rfl (by decide) _ _ _ _ rfl O2.out rfl ⟨by omega, by unfold maxLen; omega, z2⟩ rfl (by simp [Value.oneCell']) ?_; intro A3 c3 w3 own3 hb3; have O3 := Lib.hid own3; have B3 := Lib.hid (B2.out.trans hb3); clear own3 hb3 B2 O2)
        go_roundw
        case rel =>
          refine ⟨A3, k + 1 + 1, c3, i + 1, rfl, by go_num, by omega, by omega, ?_, ?_, B3⟩
          · exact Lib.hid (by rw [HW.out, HK.out]; simp)
          · refine Lib.hid ?_
            rw [HW.out, gCells_append, i64s_append, gCells_append, i64s_append, gCells_ink, gCells_blank, ← List.append_assoc]
            exact O3.out
        case measure => simp [intOf]; omega
    · have hli : ¬ (i : Int) < N := by omega
      have hiN : N = i := by omega
      subst hiN
      have hgl := wordL_len w1 s1 N
      have FG : Hid (FineG (wordL w1 s1 N)) := Lib.hid ⟨by omega, fun x hx => by rcases wordL_mem w1 s1 N x hx with h | h <;> omega⟩
      have NA : Hid (Adv0 (wordL w1 s1 N)) := Lib.hid (fun x hx => by rcases wordL_mem w1 s1 N x hx with h | h <;> omega)
      have R1 := Lib.hid (row_of_own HO.out)
      have B1 := HB
      have HC := Lib.hid (words_count w1 s1 (a := a1) (by omega) hs.1 N N 0 (by omega) (by omega))
      have hls : leastL (wordL w1 s1 N) = w1 := wordL_least w1 s1 (by omega) N 0 hN1.1 (Int.le_refl _) (by omega)
      have hms : mostL (wordL w1 s1 N) = N * w1 + (N - 1) * s1 := by
        have := wordL_most w1 s1 (by omega) hs.1 N 0 0 hN1.1 (by omega)
        rw [Int.zero_add] at this; exact this
      have HLW := Lib.hid (fun (p t : Nat) (v : Int) (hp : p < N) (h : LineAt a1 (wordL w1 s1 N) (2 * p) t v) => line_words w1 s1 (by omega) hs.1 hp h)
      have hgN : (wordL w1 s1 N).length = 2 * N - 1 := hgl
      have HGN := Lib.hid hgN
      generalize wordL w1 s1 N = g at *
      have LL := Lib.hid (fun (w : World) (hR : Row w w.heap.size A1 (i64s (gCells g))) => least_any g FG.out A1 c1 w hR)
      have LM := Lib.hid (fun (w : World) (hR : Row w w.heap.size A1 (i64s (gCells g))) => most_any g FG.out A1 c1 w hR)
      have LA := Lib.hid (fun (w : World) (hR : Row w w.heap.size A1 (i64s (gCells g))) => lines_any g FG.out A1 c1 a1 (by unfold I64; omega) w hR)
      rw [widZ_least g NA.out, hls] at LL
      rw [widZ_most g NA.out, hms] at LM
      unfold LinePost at LA
      rw [← HK.out] at LL LM LA
      have L0 := Lib.hid (linesI_zero a1 g)
      have hLl := linesI_length a1 g g.length 0 (by omega)
      rw [L0.out] at hLl
      have HC2 := HC.out
      rw [Nat.mul_zero, L0.out, Int.natCast_zero, Int.sub_zero] at HC2
      have HPW := Lib.hid HC2
      clear hls hms hgl hgN HC HC2 HO HB HK hlt hk2
      generalize linesL a1 g = L at *
      have hD := Int.tdiv_eq_ediv_of_nonneg (a := a1 + s1) (b := w1 + s1) (by omega)
      have hD1 : 0 ≤ (a1 + s1) / (w1 + s1) := Int.ediv_nonneg (by omega) (by omega)
      have hD2 : (a1 + s1) / (w1 + s1) ≤ a1 + s1 := Int.ediv_le_self _ (by omega)
      have HD := Lib.hid hD
      have d0 : ((w1 + s1) == 0) = false := by simp; omega
      have d1 : ¬ (w1 + s1 = 0) := by omega
      clear hD
      go_upto_region 10 with fail
      have hP1 : 1 ≤ max ((a1 + s1) / (w1 + s1)) 1 ∧ max ((a1 + s1) / (w1 + s1)) 1 ≤ 5000 := by omega
      rw [HGN.out, Nat.sub_zero] at hLl
      clear HD d0 d1 hD1 hD2 hi hli
      generalize max ((a1 + s1) / (w1 + s1)) 1 = P at *
      have hq : ((N : Int) + P - 1).tdiv P = L.length := by rw [HPW.out]; exact Int.tdiv_eq_ediv_of_nonneg (by omega)
      have HQ := Lib.hid hq
      have p0 : (P == 0) = false := by simp; omega
      have p1 : ¬ P = 0 := by omega
      clear hq HPW
      go_wp2_with fail
      refine (LA.out _ R1.out).mono ?_
      rintro o w2 ⟨A2, c2, rfl, ho2, hb2⟩
      have B2 := Lib.hid (B1.out.trans (hb2.mono B1.out.size))
      have R2 := Lib.hid ((R1.out.below hb2).more hb2.size)
      have RL := Lib.hid (row_of_own ho2)
      clear hb2 B1 R1 ho2 LA
      have hq := HQ.out
      clear p0 p1
      go_wp2
      go_loopw [13, 14] (fun v13 v14 wx => ∃ p j : Nat, v13 = .int .i64 ((N : Int) - p) ∧ v14 = .int .i64 j ∧ j ≤ L.length ∧ p ≤ N ∧ Hid (Below w2.heap.size w2 wx) ∧ Hid (L.drop j = linesI a1 g (2 * p))) (fun _ v14 _ => L.length - (intOf v14).toNat)
      case atStart => exact ⟨0, 0, by simp, rfl, Nat.zero_le _, Nat.zero_le _, Lib.hid (Below.refl _ _), Lib.hid (by rw [Nat.mul_zero, L0.out]; rfl)⟩
      case round =>
        clear hq HQ
        obtain ⟨p, j, rfl, rfl, hj, hpN, HB, HD⟩ := hrel
        by_cases hlt : j < L.length
        · have hji : (j : Int) < L.length := by omega
          obtain ⟨t, v, hkl, hLi, hla, hnext⟩ := lines_next HD.out hlt
          obtain ⟨adl, rfl, hbl, s0, s1', s2⟩ := (RL.out.below HB.out).sp hlt
          rw [hLi] at s0 s1' s2
          simp only at s0 s1' s2
          rw [HGN.out] at hkl
          obtain ⟨q, hq1, hq2, hqt, hqv, hqm⟩ := HLW.out p t v (by omega) hla
          subst hqv
          have HNX : Hid (L.drop (j + 1) = linesI a1 g (2 * (p + q))) := Lib.hid (by rw [hnext, hqt, show 2 * p + 2 * q - 1 + 1 = 2 * (p + q) by omega])
          have hTF : (t : Int) - ((2 * p : Nat) : Int) = 2 * (q : Int) - 1 := by omega
          have hb1 : 0 ≤ (q : Int) * w1 ∧ (q : Int) * w1 ≤ 64 * 256 := ⟨Int.mul_nonneg (by omega) (by omega), Int.mul_le_mul (by omega) (by omega) (by omega) (by omega)⟩
          have hb2 : 0 ≤ ((q : Int) - 1) * s1 ∧ ((q : Int) - 1) * s1 ≤ 64 * 64 := ⟨Int.mul_nonneg (by omega) (by omega), Int.mul_le_mul (by omega) (by omega) (by omega) (by omega)⟩
          have hq64 : (q : Int) ≤ 64 := by omega
          have hq0 : 1 ≤ (q : Int) := by omega
          have htf0 : (t : Int) ≤ 128 := by omega
          have hmin : min P ((N : Int) - p) = q := hqm.symm
          have hpq : p + q ≤ N := by omega
          clear hkl hLi hla hnext hqt hqm hq1 hq2 HD
          generalize ((2 * p : Nat) : Int) = F at *
          generalize (t : Int) = T at *
          go_upto_region 18 with fail
          go_quiet (fail)
          go_wp2
          go_roundw
          case rel => exact ⟨p + q, j + 1, by go_num, by go_num, by omega, by omega, Lib.hid (Below.drewN' HB.out nq), HNX⟩
          case measure => simp [intOf]; omega
        · have hji : ¬ (j : Int) < L.length := by omega
          have hpe : p = N := by
            have h := HD.out
            rw [show j = L.length by omega] at h
            have h2 := lines_last h
            rw [HGN.out] at h2
            omega
          have hz : (((N : Int) - p) == 0) = true := by simp; omega
          clear hpe HD
          have B2b := Lib.hid (B2.out.trans (HB.out.mono B2.out.size))
          have R2b := Lib.hid ((R2.out.below HB.out).more HB.out.size)
          clear B2 R2
          have b1 : 0 ≤ (N : Int) * w1 ∧ (N : Int) * w1 ≤ 64 * 256 := ⟨Int.mul_nonneg (by omega) (by omega), Int.mul_le_mul (by omega) (by omega) (by omega) (by omega)⟩
          have b2 : 0 ≤ ((N : Int) - 1) * s1 ∧ ((N : Int) - 1) * s1 ≤ 64 * 64 := ⟨Int.mul_nonneg (by omega) (by omega), Int.mul_le_mul (by omega) (by omega) (by omega) (by omega)⟩
          go_wp2_with fail
          refine (LL.out _ R2b.out).mono ?_
          rintro o w3 ⟨rfl, hb3⟩
          have B3 := Lib.hid (B2b.out.trans (hb3.mono B2b.out.size))
          have R3 := Lib.hid ((R2b.out.below hb3).more hb3.size)
          clear hb3 B2b R2b LL HB
          go_wp2_with fail
          refine (LM.out _ R3.out).mono ?_
          rintro o w4 ⟨rfl, hb4⟩
          have B4 := Lib.hid (B3.out.trans (hb4.mono B3.out.size))
          have z4 := B4.out.size
          clear hb4 B3 R3 LM
          go_wp2_with fail
          refine (bawake_any _).mono ?_
          rintro o w5 ⟨rfl, hb5⟩
          have B5 := Lib.hid (B4.out.trans (hb5.mono z4))
          clear hb5
          go_wp2
          go_ret
          exact ⟨rfl, B5.out⟩
end Go.Proofs.Ytmlnpphblicghaa
