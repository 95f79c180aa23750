import Derived.Test.YtagcfbnidepfoaaRunRow
/- WhitHolds answers true. -/
namespace Go.Proofs.Ytagcfbnidepfoaa
open Go Go.RowKit
set_option linter.unusedVariables false
set_option linter.unusedSimpArgs false
set_option maxRecDepth 20000
set_option maxHeartbeats 8000000

theorem whitHolds_any (zs : List Int) (hl : zs.length = 256) (l : List Int) (A : Option Addr) (c : Nat) (W : World) (hR : Row W W.heap.size A (i64s l)) (hn : l.length ≤ 9223372036854775807) :
    Calls Try.prog 4 #[.agg (i64s zs).toArray, .slice A l.length c] W fun e w' => e = .returned (.bool true) ∧ Below W.heap.size W w' := by
  have HL := Lib.hid hl
  have HR := Lib.hid hR
  have YL := Lib.hid (tameM_length zs true hl)
  have TA := Lib.hid (tame_any zs hl true)
  have RS := runsL_size l
  have RU := Lib.hid (fun (w : World) (hb : Below W.heap.size W w) => runs_any l A c w ((HR.out.below hb).more hb.size) hn)
  have M0 := Lib.hid (Whole.mk W 24 (i64s zs).toArray)
  have HB0 := Lib.hid ((Below.refl W.heap.size W).alloc (Nat.le_refl _) (.cells (i64s zs).toArray 24))
  have z0 := M0.out.size
  clear hl hR
  generalize tameM zs true = ys at *
  generalize runsL l = rs at *
  obtain ⟨hlen, hsz⟩ := RS
  go_enter Try.func4, Try.ntmps4
  go_wp2_with (first | (refine flat_load met_flat (.tmp 2) rfl rfl W.heap.size rfl zs HL.out 24 ?_ ?_; (focus (exact M0.out))))
  refine (TA.out _).mono ?_
  rintro e w1 ⟨rfl, b1⟩
  have M1 := Lib.hid (M0.out.under b1 z0)
  have HB1 := Lib.hid (HB0.out.trans (b1.mono (by omega)))
  have z1 := M1.out.size
  clear b1 M0 HB0 TA z0
  go_wp2_with (first
    | (refine flat_store met_flat (.tmp 2) (.tmp 13) rfl rfl W.heap.size rfl ys YL.out rfl 24 zs ?_ HL.out ?_; (focus (exact M1.out)); intro w2 h2 o2; have M2 := Lib.hid h2; have HB2 := Lib.hid (HB1.out.trans (o2.below (by simp) (by omega))); clear h2 o2 M1 HB1 z1))
  refine (RU.out _ HB2.out).mono ?_
  rintro e w3 ⟨A1, c1, rfl, ho, hb⟩
  have z2 := M2.out.size
  have R0 : Hid (RRow W w3 W.heap.size ys A1 rs.length c1 (midW 0 rs 0)) := Lib.hid ⟨by rw [midW_zero]; exact own_base ho (by omega), M2.out.under hb z2, HB2.out.trans (hb.mono (by omega))⟩
  clear ho hb M2 HB2 RU z2
  obtain ⟨nr, hnr⟩ : ∃ m, m = rs.length := ⟨_, rfl⟩
  rw [← hnr] at R0 ⊢
  have HNR := Lib.hid hnr
  have hnr12 : nr ≤ 12 := by omega
  clear hnr
  go_wp2
  go_loopw [6] (fun i wr => ∃ k : Nat, k ≤ nr ∧ i = .int .i64 k ∧ RRow W wr W.heap.size ys A1 nr c1 (midW 0 rs k)) (fun i _ => nr - (intOf i).toNat)
  case atStart => exact ⟨0, Nat.zero_le _, rfl, R0.out⟩
  case round =>
    clear R0
    obtain ⟨k, hk, rfl, hS⟩ := hrel
    have HS := Lib.hid hS
    by_cases hlt : k < nr
    · have hki : (k : Int) < nr := by omega
      have hA : ∃ ad, A1 = some ad := by
        obtain ⟨ad, e, _⟩ := hS.row.rn (k := k) (by rw [midW_length]; have := HNR.out; omega)
        exact ⟨ad, e⟩
      obtain ⟨ad, rfl⟩ := hA
      obtain ⟨g, rfl⟩ := own_addr hS.own
      obtain ⟨cw, fw⟩ := hS.whiteCell k hlt (by rw [midW_length]; exact HNR.out)
      have HN := Lib.hid (hS.white 0 k HNR.out hlt)
      generalize ((midW 0 rs k)[k]'(by rw [midW_length]; have := HNR.out; omega)).white = wv at *
      clear hS
      go_wp2
      go_roundw
      case rel => exact ⟨k + 1, by omega, by go_num, HN.out⟩
      case measure => simp [intOf]; omega
    · have hke : k = nr := by omega
      subst hke
      have hki : ¬ (k : Int) < k := by omega
      rw [show midW 0 rs k = rs.map (whiteR 0) by rw [HNR.out, midW_all]] at HS
      have hz0 := sizeAll_white 0 rs
      have hS2 := HS.out
      clear hS
      go_wp2_with (first | (refine flat_load met_flat (.tmp 2) rfl rfl W.heap.size rfl ys YL.out 24 ?_ ?_; (focus (exact HS.out.met))))
      have hGl := glyphs_any ys YL.out (rs.map (whiteR 0)) A1 c1 wr hS2.row (by rw [List.length_map]; omega) (by omega)
      rw [List.length_map, ← HNR.out] at hGl
      have hL := Lib.hid (glyphsL_held ys rs)
      have hlen1 := glyphsL_length ys (rs.map (whiteR 0))
      unfold GlyphPost at hGl
      generalize glyphsL ys (rs.map (whiteR 0)) = L1 at *
      have hL1 : L1.length ≤ 1000 := by omega
      have hlt4 : ∀ g, (Value.slice A1 k c1).ownBlock = some g → g < wr.heap.size := fun g hg => (hS2.own.lt g hg).2
      refine hGl.mono ?_
      rintro e w4 ⟨A2, c2, rfl, ho4, hb4⟩
      have HS4 := Lib.hid (HS.out.behind hb4)
      generalize wr.heap.size = B4 at ho4 hlt4
      have O4 := Lib.hid ho4
      have H4 := Lib.hid hlt4
      clear ho4 hb4 hlt4 hGl hS2 hlen1 HS hz0
      rw [← midW_zero 1 (rs.map (whiteR 0))] at HS4
      obtain ⟨n1, hn1⟩ : ∃ m, m = L1.length := ⟨_, rfl⟩
      rw [← hn1] at O4 ⊢
      have HN1 := Lib.hid hn1
      have hn1k : n1 ≤ 1000 := by omega
      clear hn1
      go_wp2
      go_loopw [8] (fun i wr => ∃ j : Nat, j ≤ k ∧ i = .int .i64 j ∧ RRow W wr W.heap.size ys A1 k c1 (midW 1 (rs.map (whiteR 0)) j) ∧ wr.ownsRow B4 35 4 (.slice A2 n1 c2) n1 (i64s (gCells L1))) (fun i _ => k - (intOf i).toNat)
      case atStart => exact ⟨0, Nat.zero_le _, rfl, HS4.out, O4.out⟩
      case round =>
        clear HS4 O4
        obtain ⟨j, hj, rfl, hS, hO⟩ := hrel
        have HS := Lib.hid hS
        have HO := Lib.hid hO
        have hlm : k = (rs.map (whiteR 0)).length := by rw [List.length_map]; exact HNR.out
        by_cases hlt : j < k
        · have hki : (j : Int) < k := by omega
          have hA : ∃ ad, A1 = some ad := by
            obtain ⟨ad, e, _⟩ := hS.row.rn (k := j) (by rw [midW_length]; omega)
            exact ⟨ad, e⟩
          obtain ⟨ad, rfl⟩ := hA
          obtain ⟨g, rfl⟩ := own_addr hS.own
          obtain ⟨cw, fw⟩ := hS.whiteCell j hlt (by rw [midW_length]; exact hlm)
          have HN := Lib.hid (hS.white 1 j hlm hlt)
          have hg4 : g < B4 := H4.out g rfl
          have HO2 := Lib.hid (fun u => ownsRow_setCell_other hO (a := ⟨g, j * 4 + 2, none⟩) (fun e => by have := (hO.lt g (by simpa using e)).1; omega) u)
          generalize ((midW 1 (rs.map (whiteR 0)) j)[j]'(by rw [midW_length]; omega)).white = wv at *
          have HLM := Lib.hid hlm
          clear hS hO hlm
          go_wp2
          go_roundw
          case rel => exact ⟨j + 1, by omega, by go_num, HN.out, HO2.out _⟩
          case measure => simp [intOf]; omega
        · have hje : j = k := by omega
          subst hje
          have hki : ¬ (j : Int) < j := by omega
          rw [show midW 1 (rs.map (whiteR 0)) j = rs.map (whiteR 1) by rw [hlm, midW_all, whiteR_twice]] at HS
          have hz1 := sizeAll_white 1 rs
          have hS2 := HS.out
          clear hS hO hlm
          go_wp2_with (first | (refine flat_load met_flat (.tmp 2) rfl rfl W.heap.size rfl ys YL.out 24 ?_ ?_; (focus (exact HS.out.met))))
          have hGl := glyphs_any ys YL.out (rs.map (whiteR 1)) A1 c1 wr hS2.row (by rw [List.length_map]; omega) (by omega)
          rw [List.length_map, ← HNR.out] at hGl
          unfold GlyphPost at hGl
          rw [hL.out, List.length_map, ← HN1.out] at hGl
          refine hGl.mono ?_
          rintro e w6 ⟨A3, c3, rfl, ho6, hb6⟩
          have HB6 := Lib.hid (HS.out.low.trans (hb6.mono (by have := HS.out.size; omega)))
          have RB := Lib.hid (row_of_own ho6)
          have RA := Lib.hid (((row_of_own HO.out).below hb6).more hb6.size)
          clear ho6 hb6 hGl hS2 HS HO hz1
          have z6 := HB6.out.size
          go_wp2
          go_loopw [10] (fun i wr => ∃ q : Nat, q ≤ n1 ∧ i = .int .i64 q ∧ Below w6.heap.size w6 wr) (fun i _ => n1 - (intOf i).toNat)
          case atStart => exact ⟨0, Nat.zero_le _, rfl, Below.refl _ _⟩
          case round =>
            obtain ⟨q, hq, rfl, hB⟩ := hrel
            have HB := Lib.hid hB
            have zB := hB.size
            by_cases hql : q < n1
            · have hqi : (q : Int) < n1 := by omega
              have hqa : q < L1.length := by rw [← HN1.out]; exact hql
              have hqb : q < (L1.map heldG).length := by rw [List.length_map]; exact hqa
              obtain ⟨ad, rfl, hab, r0, r1, r2, r3⟩ := (RA.out.below hB).gl hqa
              have RBq := Lib.hid (fun w (hb : Below w6.heap.size w6 w) => (RB.out.below hb).gl hqb)
              rw [List.getElem_map] at RBq
              generalize L1[q] = y at *
              obtain ⟨g0, g1, g2, g3⟩ := y
              simp only at r0 r1 r2 r3
              go_upto_region 19 with fail
              have X7 := Lib.hid (Whole.mk wr 35 #[.int .i64 g0, .int .i64 g1, .int .i64 g2, .int .i64 g3])
              have HB7 := Lib.hid (HB.out.alloc zB (.cells #[.int .i64 g0, .int .i64 g1, .int .i64 g2, .int .i64 g3] 35))
              generalize wr.alloc (.cells #[.int .i64 g0, .int .i64 g1, .int .i64 g2, .int .i64 g3] 35) = w7 at *
              generalize wr.heap.size = gx at *
              clear hB r0 r1 r2 r3 HB
              by_cases h2 : g0 = 2
              · subst h2
                have t2 : ((2 : Int) == 2) = true := rfl
                obtain ⟨x0, x1, x2, x3⟩ := X7.out.four
                have f0 := X7.out.free 0
                have X8 := Lib.hid (X7.out.put 0 (.int .i64 3))
                have HB8 := Lib.hid (HB7.out.setCell (p := ⟨gx, 0, none⟩) (by omega) (.int .i64 3))
                go_upto_region 21 with fail
                generalize w7.setCell ⟨gx, 0, none⟩ (.int .i64 3) = w8 at *
                clear x0 x1 x2 x3 f0 X7 HB7
                obtain ⟨x0, x1, x2, x3⟩ := Whole.four X8.out
                obtain ⟨ad', rfl, -, b0, b1, b2, b3⟩ := RBq.out w8 HB8.out
                simp only [heldG, if_true] at b0 b1 b2 b3
                go_quiet (fail)
                go_wp2
                go_roundw
                case rel => exact ⟨q + 1, by omega, by go_num, Below.drewN' HB8.out nq⟩
                case measure => simp [intOf]; omega
              · have t2 : (g0 == 2) = false := by rw [beq_eq_false_iff_ne]; exact h2
                obtain ⟨x0, x1, x2, x3⟩ := X7.out.four
                obtain ⟨ad', rfl, -, b0, b1, b2, b3⟩ := RBq.out w7 HB7.out
                have hh : heldG ⟨g0, g1, g2, g3⟩ = ⟨g0, g1, g2, g3⟩ := by unfold heldG; rw [if_neg h2]
                rw [hh] at b0 b1 b2 b3
                simp only at b0 b1 b2 b3
                go_upto_region 21 with fail
                go_quiet (fail)
                go_wp2
                go_roundw
                case rel => exact ⟨q + 1, by omega, by go_num, Below.drewN' HB7.out nq⟩
                case measure => simp [intOf]; omega
            · have hqi : ¬ (q : Int) < n1 := by omega
              go_wp2_with fail
              refine (wawake_any _).mono ?_
              rintro e w9 ⟨rfl, b9⟩
              have HB9 := Lib.hid (HB6.out.trans ((HB.out.trans (b9.mono zB)).mono z6))
              clear b9 hB
              go_wp2
              go_ret
              exact ⟨rfl, HB9.out⟩
end Go.Proofs.Ytagcfbnidepfoaa
