import Derived.Test.YtmlnpphblicghaaRowAwakeQ
import Derived.Test.YtmlnpphblicghaaRefPlaceQ
import Derived.Test.YtmlnpphblicghaaRowRunsQ
import Derived.Test.YtmlnpphblicghaaRowFactQ
import Derived.Test.YtmlnpphblicghaaZQ
/- RowHeights answers true. -/
namespace Go.Proofs.Ytmlnpphblicghaa
open Go Go.RowKit
set_option linter.unusedVariables false
set_option linter.unusedSimpArgs false
set_option maxRecDepth 20000
set_option maxHeartbeats 2000000

theorem oneHigh_lines (zs : List Int) (rs : List Rn) (ln : Int) (h : 0 ≤ ln ∧ ln ≤ 1073741824) : OneHigh (rs.map (lineR ln)) (glyphsL zs rs) ln := fun x hx => by
  obtain ⟨r, i, hr, hi, h1, -⟩ := inRuns_what (glyphsL_in zs rs x hx)
  rw [h1, hRun_lines ln rs r hr]
  unfold lineZ; omega
theorem linesL_len' (a : Int) (g : List Gl) : (linesL a g).length ≤ g.length := by
  have h := linesI_length a g g.length 0 (by omega)
  rwa [linesI_zero, Nat.sub_zero] at h
/-- One line-height, the strut the same. -/
theorem heights_same (zs : List Int) (rs : List Rn) (av ln al : Int) (h : 0 ≤ ln ∧ ln ≤ 1073741824) :
    (∀ p ∈ (placeZ zs (rs.map (lineR ln)) av ln al).1, p.y = p.line * ln ∧ p.h = ln ∧ 0 ≤ p.line ∧ p.line ≤ sizeAll rs) ∧ (placeZ zs (rs.map (lineR ln)) av ln al).2 = (linesL av (glyphsL zs rs)).length * ln := by
  have ho := oneHigh_lines zs rs ln h
  have hz : lineZ ln = ln := by unfold lineZ; omega
  have hL := linesL_len' av (glyphsL zs rs)
  have hS := glyphsL_length zs rs
  unfold placeZ
  simp only [glyphsL_lines, hz]
  refine ⟨fun p hp => ?_, ?_⟩
  · obtain ⟨v, hv, rfl⟩ := List.mem_map.1 hp
    rw [← linesI_zero] at hv
    obtain ⟨k1, k2⟩ := place_rows (rs.map (lineR ln)) (glyphsL zs rs) av ln al ho h.1 (glyphsL zs rs).length 0 0 0 (by omega) v hv
    obtain ⟨-, k3⟩ := place_mem (rs.map (lineR ln)) (glyphsL zs rs) av ln al h.1 (glyphsL zs rs).length 0 0 0 (by omega) v hv
    rw [linesI_zero] at k3
    simp only [pcOf, k2]
    refine ⟨?_, trivial, by omega, by omega⟩
    simpa using k1
  · have := place_even (rs.map (lineR ln)) (glyphsL zs rs) av ln al ho h.1 (glyphsL zs rs).length 0 0 0 (by omega)
    rw [linesI_zero] at this
    rw [this]; omega
theorem heights_other (zs : List Int) (rs : List Rn) (av ln st al : Int) (h : 0 ≤ ln ∧ ln ≤ 1073741824) (hs : 0 ≤ st ∧ st ≤ 1073741824) :
    (linesL av (glyphsL zs rs)).length * st ≤ (placeZ zs (rs.map (lineR ln)) av st al).2 ∧ (placeZ zs (rs.map (lineR ln)) av st al).2 ≤ (linesL av (glyphsL zs rs)).length * max ln st := by
  have ho := oneHigh_lines zs rs ln h
  have hz : lineZ st = st := by unfold lineZ; omega
  unfold placeZ
  simp only [glyphsL_lines, hz]
  have h1 := place_high (rs.map (lineR ln)) (glyphsL zs rs) av st al hs.1 (glyphsL zs rs).length 0 0 0 (by omega)
  have h2 := place_low (rs.map (lineR ln)) (glyphsL zs rs) av st al ho h.1 (Int.le_max_left ln st) hs.1 (Int.le_max_right ln st) (glyphsL zs rs).length 0 0 0 (by omega)
  rw [linesI_zero] at h1 h2
  omega
theorem rowHeights_any (zs : List Int) (hl : zs.length = 256) (l : List Int) (A : Option Addr) (c : Nat) (a b s : Int) (W : World) (hR : Row W W.heap.size A (i64s l)) (hn : l.length ≤ 9223372036854775807) :
    Calls Try.prog 8 #[.agg (i64s zs).toArray, .slice A l.length c, .int .i64 a, .int .i64 b, .int .i64 s] W fun e w' => e = .returned (.bool true) ∧ Below W.heap.size W w' := by
  have HL := Lib.hid hl
  have HR := Lib.hid hR
  have YL := Lib.hid (tameM_length zs true hl)
  have TA := Lib.hid (tame_any zs hl true)
  have RS := runsL_size l
  have RU := Lib.hid (fun (w : World) (hb : Below W.heap.size W w) => runs_any l A c w ((HR.out.below hb).more hb.size) hn)
  have M0 := Lib.hid (Whole.mk W 37 (i64s zs).toArray)
  have HB0 := Lib.hid ((Below.refl W.heap.size W).alloc (Nat.le_refl _) (.cells (i64s zs).toArray 37))
  have z0 := M0.out.size
  have k12 : ∀ x : Int, bits .and .i64 x 4095 = x % 4096 := fun x => and_mask_i64 x 12 (by decide)
  have ha : 0 ≤ a % 4096 ∧ a % 4096 < 4096 := by omega
  have hb : 0 ≤ b % 4096 ∧ b % 4096 < 4096 := by omega
  have hs : 0 ≤ s % 4096 ∧ s % 4096 < 4096 := by omega
  clear hl hR
  generalize tameM zs true = ys at *
  generalize runsL l = rs at *
  obtain ⟨hlen, hsz⟩ := RS
  go_enter Try.func8, Try.ntmps8
  go_wp2_with (first | (refine flat_load met_flat (.tmp 5) rfl rfl W.heap.size rfl zs HL.out 37 ?_ ?_; (focus (exact M0.out))))
  refine (TA.out _).mono ?_
  rintro e w1 ⟨rfl, b1⟩
  have M1 := Lib.hid (M0.out.under b1 z0)
  have HB1 := Lib.hid (HB0.out.trans (b1.mono (by omega)))
  have z1 := M1.out.size
  clear b1 M0 HB0 TA z0
  go_upto_region 2 with (first
    | (refine flat_store met_flat (.tmp 5) (.tmp 21) rfl rfl W.heap.size rfl ys YL.out rfl 37 zs ?_ HL.out ?_; (focus (exact M1.out)); intro w2 h2 o2; have M2 := Lib.hid h2; have HB2 := Lib.hid (HB1.out.trans (o2.below (by simp) (by omega))); clear h2 o2 M1 HB1 z1))
  clear k12
  generalize a % 4096 = av at *
  generalize b % 4096 = ln at *
  generalize s % 4096 = st at *
  have hH1 := Lib.hid (heights_same ys rs av ln 0 (by omega))
  have hH2 := Lib.hid (heights_other ys rs av ln st 0 (by omega) (by omega))
  have hgl := glyphsL_length ys rs
  have hLl := linesL_len' av (glyphsL ys rs)
  have hgL := glyphsL_lines ln ys rs
  have HGL := Lib.hid hgL
  have HSZ := Lib.hid (sizeAll_lines ln rs)
  have hlm : (rs.map (lineR ln)).length = rs.length := List.length_map _
  have HLM := Lib.hid hlm
  have FG := Lib.hid (glyphs_fine ys rs (by omega))
  clear hgL hlm
  go_wp2_with fail
  refine (RU.out _ HB2.out).mono ?_
  rintro e w3 ⟨A1, c1, rfl, ho, hb3⟩
  have z2 := M2.out.size
  have R0 : Hid (RnSt W w3 W.heap.size ys A1 rs.length c1 (midN ln rs 0)) := Lib.hid ⟨by rw [midN_zero]; exact own_base ho (by omega), M2.out.under hb3 z2, HB2.out.trans (hb3.mono (by omega))⟩
  clear ho hb3 M2 HB2 RU z2
  obtain ⟨nr, hnr⟩ : ∃ m, m = rs.length := ⟨_, rfl⟩
  rw [← hnr] at R0 ⊢
  have HNR := Lib.hid hnr
  have hnr12 : nr ≤ 12 := by omega
  clear hnr
  go_wp2
  go_loopw [12] (fun v12 wr => ∃ k : Nat, k ≤ nr ∧ v12 = .int .i64 k ∧ RnSt W wr W.heap.size ys A1 nr c1 (midN ln rs k)) (fun v12 _ => nr - (intOf v12).toNat)
  case atStart => exact ⟨0, Nat.zero_le _, rfl, R0.out⟩
  case round =>
    clear R0
    obtain ⟨k, hk, rfl, hS⟩ := hrel
    have HS := Lib.hid hS
    by_cases hlt : k < nr
    · have hki : (k : Int) < nr := by omega
      have hA : ∃ ga, A1 = some ⟨ga, 0, none⟩ := by
        obtain ⟨ga, cc, hv, -, -, -⟩ := owns_some hS.own (by omega)
        injection hv with h1 h2 h3
        exact ⟨ga, h1⟩
      obtain ⟨ga, rfl⟩ := hA
      have hkr : k < rs.length := by rw [← HNR.out]; exact hlt
      obtain ⟨⟨z, cw⟩, fw⟩ := hS.lineCell hkr
      have HN := Lib.hid (hS.putLine hkr)
      clear hS
      go_wp2
      go_roundw
      case rel => exact ⟨k + 1, by omega, by go_num, HN.out⟩
      case measure => simp [intOf]; omega
    · have hki : ¬ (k : Int) < nr := by omega
      rw [show k = rs.length by rw [← HNR.out]; omega, midN_all] at HS
      clear hS hlt
      have hGl := Lib.hid (fun (w : World) (hR : Row w w.heap.size A1 (rCells (rs.map (lineR ln)))) => rglyphs_any ys YL.out (rs.map (lineR ln)) A1 c1 w hR (by rw [HLM.out]; omega) (by rw [HSZ.out]; omega))
      have hPl := Lib.hid (fun (stz : Int) (w : World) (hR : Row w w.heap.size A1 (rCells (rs.map (lineR ln)))) => place_any ys YL.out (rs.map (lineR ln)) A1 c1 av stz 0 (by omega) w hR (by rw [HLM.out]; omega) (by rw [HSZ.out]; omega))
      unfold GlyphPost at hGl
      unfold PlacePost at hPl
      rw [HGL.out, HLM.out, ← HNR.out] at hGl
      rw [HLM.out, ← HNR.out] at hPl
      have LA := Lib.hid (fun (A2 : Option Addr) (c2 : Nat) (w : World) (hR : Row w w.heap.size A2 (i64s (gCells (glyphsL ys rs)))) => rlines_any (glyphsL ys rs) FG.out A2 c2 av w hR)
      unfold LinePost at LA
      have P1 := Lib.hid (hPl.out ln)
      have P2 := Lib.hid (hPl.out st)
      generalize placeZ ys (rs.map (lineR ln)) av ln 0 = Z1 at *
      generalize placeZ ys (rs.map (lineR ln)) av st 0 = Z2 at *
      generalize glyphsL ys rs = g at *
      generalize linesL av g = L at *
      clear hPl
      obtain ⟨ps, h1⟩ := Z1
      obtain ⟨ps2, h2⟩ := Z2
      simp only at P1 P2 hH1 hH2
      go_wp2_with (first | (refine flat_load met_flat (.tmp 5) rfl rfl W.heap.size rfl ys YL.out 37 ?_ ?_; (focus (exact HS.out.met))))
      refine (hGl.out _ HS.out.row).mono ?_
      rintro e w4 ⟨A2, c2, rfl, ho4, hb4⟩
      have HS4 := Lib.hid (HS.out.behind hb4)
      have RG := Lib.hid (row_of_own ho4)
      clear ho4 hb4 HS hGl
      go_wp2_with fail
      refine (LA.out _ _ _ RG.out).mono ?_
      rintro e w5 ⟨A3, c3, rfl, ho5, hb5⟩
      have HS5 := Lib.hid (HS4.out.behind hb5)
      clear ho5 hb5 HS4 RG LA
      go_wp2_with (first | (refine flat_load met_flat (.tmp 5) rfl rfl W.heap.size rfl ys YL.out 37 ?_ ?_; (focus (exact HS5.out.met))))
      refine (P1.out _ HS5.out.row).mono ?_
      rintro e w6 ⟨A4, c4, rfl, ho6, hb6⟩
      have HS6 := Lib.hid (HS5.out.behind hb6)
      have RP := Lib.hid (row_of_own ho6)
      have hpl : ps.length ≤ 9223372036854775807 := by
        obtain ⟨A', c', hv, q1, q2, -⟩ := owns_nil ho6
        unfold maxLen at q2
        omega
      clear ho6 hb6 HS5 P1
      go_wp2_with (first | (refine flat_load met_flat (.tmp 5) rfl rfl W.heap.size rfl ys YL.out 37 ?_ ?_; (focus (exact HS6.out.met))))
      refine (P2.out _ HS6.out.row).mono ?_
      rintro e w7 ⟨A5, c5, rfl, ho7, hb7⟩
      have HS7 := Lib.hid (HS6.out.behind hb7)
      have RP7 := Lib.hid ((RP.out.below hb7).more hb7.size)
      clear ho7 hb7 HS6 P2 RP
      obtain ⟨hps, rfl⟩ := hH1.out
      obtain ⟨m1, m2⟩ := hH2.out
      have HPS := Lib.hid hps
      have hLn : L.length ≤ 432 := by omega
      have b1 : 0 ≤ (L.length : Int) * ln ∧ (L.length : Int) * ln ≤ 432 * 4096 := ⟨Int.mul_nonneg (by omega) (by omega), Int.mul_le_mul (by omega) (by omega) (by omega) (by omega)⟩
      have b2 : 0 ≤ (L.length : Int) * st ∧ (L.length : Int) * st ≤ 432 * 4096 := ⟨Int.mul_nonneg (by omega) (by omega), Int.mul_le_mul (by omega) (by omega) (by omega) (by omega)⟩
      have b3 : 0 ≤ (L.length : Int) * max ln st ∧ (L.length : Int) * max ln st ≤ 432 * 4096 := ⟨Int.mul_nonneg (by omega) (by omega), Int.mul_le_mul (by omega) (by omega) (by omega) (by omega)⟩
      clear hps hH1 hH2
      go_wp2
      go_loopw [19] (fun v19 wx => ∃ j : Nat, v19 = .int .i64 j ∧ j ≤ ps.length ∧ Below w7.heap.size w7 wx) (fun v19 _ => ps.length - (intOf v19).toNat)
      case atStart => exact ⟨0, rfl, Nat.zero_le _, Below.refl _ _⟩
      case round =>
        obtain ⟨j, rfl, hj, hB⟩ := hrel
        have HB := Lib.hid hB
        clear hB
        by_cases hjl : j < ps.length
        · have hji : (j : Int) < ps.length := by omega
          obtain ⟨ad, rfl, hab, r0, r1, r2, r3, r4, r5, r6, r7⟩ := (RP7.out.below HB.out).pc hjl
          obtain ⟨e1, e2, e3, e4⟩ := HPS.out ps[j] (List.getElem_mem hjl)
          generalize ps[j] = x at *
          obtain ⟨x0, x1, x2, x3, x4, x5, x6, x7⟩ := x
          simp only at r0 r1 r2 r3 r4 r5 r6 r7 e1 e2 e3 e4
          subst e1
          subst e2
          have b4 : 0 ≤ x7 * x4 ∧ x7 * x4 ≤ 432 * 4096 := ⟨Int.mul_nonneg (by omega) (by omega), Int.mul_le_mul (by omega) (by omega) (by omega) (by omega)⟩
          clear r0 r1 r3 r5 r6
          go_upto_region 14 with fail
          go_quiet (fail)
          go_wp2
          go_roundw
          case rel => exact ⟨j + 1, by go_num, by omega, Below.drewN' HB.out nq⟩
          case measure => simp [intOf]; omega
        · have hji : ¬ (j : Int) < ps.length := by omega
          have HBE := Lib.hid ((HS7.out.behind HB.out).low)
          have zE := HBE.out.size
          go_wp2_with fail
          refine (rawake_any _).mono ?_
          rintro o w8 ⟨rfl, hb8⟩
          have B8 := Lib.hid (HBE.out.trans (hb8.mono zE))
          clear hb8
          go_wp2
          go_ret
          exact ⟨rfl, B8.out⟩
end Go.Proofs.Ytmlnpphblicghaa
