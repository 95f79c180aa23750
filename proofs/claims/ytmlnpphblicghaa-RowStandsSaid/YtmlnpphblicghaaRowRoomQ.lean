import Derived.Test.YtmlnpphblicghaaRowHeightsQ
import Derived.Test.YtmlnpphblicghaaBrkLongQ
/- RowRoom answers true. -/
namespace Go.Proofs.Ytmlnpphblicghaa
open Go Go.RowKit
set_option linter.unusedVariables false
set_option linter.unusedSimpArgs false
set_option maxRecDepth 20000
set_option maxHeartbeats 2000000

theorem sumA_small {K : Int} : ∀ (l : List Gl), (∀ x ∈ l, x.adv ≤ K) → sumA l ≤ K * l.length
  | [], h => by simp [sumA]
  | x :: l, h => by
    have h1 := h x (by simp)
    have h2 := sumA_small l (fun y hy => h y (by simp [hy]))
    rw [sumA_cons, List.length_cons, Int.natCast_add, Int.mul_add]
    omega
theorem most_small (zs : List Int) (rs : List Rn) (h : sizeAll rs ≤ 2000) : 0 ≤ mostL (glyphsL zs rs) ∧ mostL (glyphsL zs rs) ≤ 1099511627776 := by
  have hl := glyphsL_length zs rs
  have hA : Adv0 (glyphsL zs rs) := fun x hx => by obtain ⟨r, i, hr, hi, -, -, h1, -⟩ := inRuns_what (glyphsL_in zs rs x hx); exact h1
  have h1 := sumA_small (K := 65536) (glyphsL zs rs) (fun x hx => by obtain ⟨r, i, hr, hi, -, -, -, h1, -⟩ := inRuns_what (glyphsL_in zs rs x hx); exact h1)
  have h2 := longL_le false (glyphsL zs rs) 0 0 hA (Int.le_refl _)
  have h3 := longL_ge false (glyphsL zs rs) 0 0
  have h4 : mostL (glyphsL zs rs) = longL false (glyphsL zs rs) 0 0 := rfl
  omega
theorem rowRoom_any (zs : List Int) (hl : zs.length = 256) (l : List Int) (A : Option Addr) (c : Nat) (less : Int) (W : World) (hR : Row W W.heap.size A (i64s l)) (hn : l.length ≤ 9223372036854775807) :
    Calls Try.prog 9 #[.agg (i64s zs).toArray, .slice A l.length c, .int .i64 less] W fun e w' => e = .returned (.bool true) ∧ Below W.heap.size W w' := by
  have HL := Lib.hid hl
  have HR := Lib.hid hR
  have YL := Lib.hid (tameM_length zs true hl)
  have TA := Lib.hid (tame_any zs hl true)
  have RS := runsL_size l
  have RU := Lib.hid (fun (w : World) (hb : Below W.heap.size W w) => runs_any l A c w ((HR.out.below hb).more hb.size) hn)
  have M0 := Lib.hid (Whole.mk W 37 (i64s zs).toArray)
  have HB0 := Lib.hid ((Below.refl W.heap.size W).alloc (Nat.le_refl _) (.cells (i64s zs).toArray 37))
  have z0 := M0.out.size
  have k16 : ∀ x : Int, bits .and .i64 x 65535 = x % 65536 := fun x => and_mask_i64 x 16 (by decide)
  have hb : 0 ≤ less % 65536 ∧ less % 65536 < 65536 := by omega
  clear hl hR
  generalize tameM zs true = ys at *
  generalize runsL l = rs at *
  obtain ⟨hlen, hsz⟩ := RS
  go_enter Try.func9, Try.ntmps9
  go_wp2_with (first | (refine flat_load met_flat (.tmp 3) rfl rfl W.heap.size rfl zs HL.out 37 ?_ ?_; (focus (exact M0.out))))
  refine (TA.out _).mono ?_
  rintro e w1 ⟨rfl, b1⟩
  have M1 := Lib.hid (M0.out.under b1 z0)
  have HB1 := Lib.hid (HB0.out.trans (b1.mono (by omega)))
  have z1 := M1.out.size
  clear b1 M0 HB0 TA z0
  go_upto_region 2 with (first
    | (refine flat_store met_flat (.tmp 3) (.tmp 18) rfl rfl W.heap.size rfl ys YL.out rfl 37 zs ?_ HL.out ?_; (focus (exact M1.out)); intro w2 h2 o2; have M2 := Lib.hid h2; have HB2 := Lib.hid (HB1.out.trans (o2.below (by simp) (by omega))); clear h2 o2 M1 HB1 z1))
  have hH1 := Lib.hid (fun av => heights_same ys rs av 1280 0 (by omega))
  have hgl := glyphsL_length ys rs
  have HLL := Lib.hid (fun av => linesL_len' av (glyphsL ys rs))
  have hgL := glyphsL_lines 1280 ys rs
  have HGL := Lib.hid hgL
  have HSZ := Lib.hid (sizeAll_lines 1280 rs)
  have hlm : (rs.map (lineR 1280)).length = rs.length := List.length_map _
  have HLM := Lib.hid hlm
  have FG := Lib.hid (glyphs_fine ys rs (by omega))
  have NA : Hid (Adv0 (glyphsL ys rs)) := Lib.hid (fun x hx => by obtain ⟨r, i, hr, hi, -, -, h1, -⟩ := inRuns_what (glyphsL_in ys rs x hx); exact h1)
  have hmb := Lib.hid (most_small ys rs (by omega))
  clear hgL hlm
  go_wp2_with fail
  refine (RU.out _ HB2.out).mono ?_
  rintro e w3 ⟨A1, c1, rfl, ho, hb3⟩
  have z2 := M2.out.size
  have R0 : Hid (RnSt W w3 W.heap.size ys A1 rs.length c1 (midN 1280 rs 0)) := Lib.hid ⟨by rw [midN_zero]; exact own_base ho (by omega), M2.out.under hb3 z2, HB2.out.trans (hb3.mono (by omega))⟩
  clear ho hb3 M2 HB2 RU z2
  obtain ⟨nr, hnr⟩ : ∃ m, m = rs.length := ⟨_, rfl⟩
  rw [← hnr] at R0 ⊢
  have HNR := Lib.hid hnr
  have hnr12 : nr ≤ 12 := by omega
  clear hnr
  go_wp2
  go_loopw [8] (fun v8 wr => ∃ k : Nat, k ≤ nr ∧ v8 = .int .i64 k ∧ RnSt W wr W.heap.size ys A1 nr c1 (midN 1280 rs k)) (fun v8 _ => nr - (intOf v8).toNat)
  case atStart => exact ⟨0, Nat.zero_le _, rfl, R0.out⟩
  case round =>
    clear R0
    obtain ⟨k, hk, rfl, hS⟩ := hrel
    have HS := Lib.hid hS
    by_cases hlt : k < nr
    · have hki : (k : Int) < nr := by omega
      have hA : ∃ ga, A1 = some ⟨ga, 0, none⟩ := by
        obtain ⟨ga, cc, hv, -, -, -⟩ := owns_some hS.own (by omega)
        injection hv with h1 h2 h3
        exact ⟨ga, h1⟩
      obtain ⟨ga, rfl⟩ := hA
      have hkr : k < rs.length := by rw [← HNR.out]; exact hlt
      obtain ⟨⟨z, cw⟩, fw⟩ := hS.lineCell hkr
      have HN := Lib.hid (hS.putLine hkr)
      clear hS
      go_wp2
      go_roundw
      case rel => exact ⟨k + 1, by omega, by go_num, HN.out⟩
      case measure => simp [intOf]; omega
    · have hki : ¬ (k : Int) < nr := by omega
      rw [show k = rs.length by rw [← HNR.out]; omega, midN_all] at HS
      clear hS hlt
      have hGl := Lib.hid (fun (w : World) (hR : Row w w.heap.size A1 (rCells (rs.map (lineR 1280)))) => rglyphs_any ys YL.out (rs.map (lineR 1280)) A1 c1 w hR (by rw [HLM.out]; omega) (by rw [HSZ.out]; omega))
      have hPl := Lib.hid (fun (av : Int) (hav : -2199023255552 ≤ av ∧ av ≤ 2199023255552) (w : World) (hR : Row w w.heap.size A1 (rCells (rs.map (lineR 1280)))) => place_any ys YL.out (rs.map (lineR 1280)) A1 c1 av 1280 0 hav w hR (by rw [HLM.out]; omega) (by rw [HSZ.out]; omega))
      unfold GlyphPost at hGl
      unfold PlacePost at hPl
      rw [HGL.out, HLM.out, ← HNR.out] at hGl
      rw [HLM.out, ← HNR.out] at hPl
      have LM := Lib.hid (fun (A2 : Option Addr) (c2 : Nat) (w : World) (hR : Row w w.heap.size A2 (i64s (gCells (glyphsL ys rs)))) => rmost_any (glyphsL ys rs) FG.out A2 c2 w hR)
      have MO := Lib.hid (fun (h : 0 < (glyphsL ys rs).length) => (by
        have := linesI_most NA.out (glyphsL ys rs).length 0 (by omega) h
        rwa [linesI_zero, List.drop_zero] at this : (linesL (mostL (glyphsL ys rs)) (glyphsL ys rs)).length = brkN (glyphsL ys rs) + 1))
      have MN := Lib.hid (by
        have := linesI_mono (a := mostL (glyphsL ys rs) - less % 65536) (a' := mostL (glyphsL ys rs)) NA.out (by omega) (glyphsL ys rs).length 0 0 (Nat.le_refl _) (by omega)
        rwa [linesI_zero, linesI_zero] at this : (linesL (mostL (glyphsL ys rs)) (glyphsL ys rs)).length ≤ (linesL (mostL (glyphsL ys rs) - less % 65536) (glyphsL ys rs)).length)
      have m1 := hmb.out
      have l1 := HLL.out (mostL (glyphsL ys rs))
      have l2 := HLL.out (mostL (glyphsL ys rs) - less % 65536)
      have HQ1 := Lib.hid (hH1.out (mostL (glyphsL ys rs)))
      have HQ2 := Lib.hid (hH1.out (mostL (glyphsL ys rs) - less % 65536))
      generalize glyphsL ys rs = g at *
      generalize mostL g = mo at *
      have P1 := Lib.hid (hPl.out mo (by omega))
      have P2 := Lib.hid (hPl.out (mo - less % 65536) (by omega))
      generalize placeZ ys (rs.map (lineR 1280)) mo 1280 0 = Z1 at *
      generalize placeZ ys (rs.map (lineR 1280)) (mo - less % 65536) 1280 0 = Z2 at *
      clear hPl hH1 HLL hmb
      obtain ⟨ps, h1⟩ := Z1
      obtain ⟨ps2, h2⟩ := Z2
      simp only at P1 P2 HQ1 HQ2
      obtain ⟨-, rfl⟩ := HQ1.out
      obtain ⟨-, rfl⟩ := HQ2.out
      clear HQ1 HQ2
      generalize hn1 : (linesL mo g).length = n1 at *
      generalize hn2 : (linesL (mo - less % 65536) g).length = n2 at *
      have HN1 := Lib.hid hn1
      clear hn1 hn2
      have HBS := Lib.hid (fun (i : Nat) (h : i + 1 < g.length) => (by have h1 := brkN_step g i h; rwa [← kd_at g i (by omega)] at h1 : brkN (g.drop i) = (if kd g i = 4 then 1 else 0) + brkN (g.drop (i + 1))))
      go_wp2_with (first | (refine flat_load met_flat (.tmp 3) rfl rfl W.heap.size rfl ys YL.out 37 ?_ ?_; (focus (exact HS.out.met))))
      refine (hGl.out _ HS.out.row).mono ?_
      rintro e w4 ⟨A2, c2, rfl, ho4, hb4⟩
      have HS4 := Lib.hid (HS.out.behind hb4)
      have RG := Lib.hid (row_of_own ho4)
      clear ho4 hb4 HS hGl
      go_wp2_with fail
      refine (LM.out _ _ _ RG.out).mono ?_
      rintro e w' ⟨rfl, rfl⟩
      clear LM
      go_wp2
      go_loopw [11, 12] (fun v11 v12 wr => ∃ q i : Nat, v11 = .int .i64 q ∧ v12 = .int .i64 i ∧ i ≤ g.length ∧ q ≤ i ∧ Hid ((i = 0 ∧ q = 0) ∨ (0 < i ∧ q + brkN (g.drop (i - 1)) = brkN g + 1)) ∧ wr = w') (fun _ v12 _ => g.length - (intOf v12).toNat)
      case atStart => exact ⟨0, 0, rfl, rfl, Nat.zero_le _, Nat.le_refl _, Lib.hid (.inl ⟨rfl, rfl⟩), rfl⟩
      case round =>
        obtain ⟨q, i, rfl, rfl, hi, hq, HC, rfl⟩ := hrel
        by_cases hlt : i < g.length
        · have hli : (i : Int) < g.length := by omega
          by_cases h0 : i = 0
          · have hb0 : ((i : Int) == 0) = true := by rw [h0]; rfl
            have HC2 : Hid ((i + 1 = 0 ∧ q + 1 = 0) ∨ (0 < i + 1 ∧ q + 1 + brkN (g.drop (i + 1 - 1)) = brkN g + 1)) := Lib.hid (.inr ⟨by omega, by
              rw [show i + 1 - 1 = 0 by omega, List.drop_zero]
              rcases HC.out with ⟨_, h⟩ | ⟨h, _⟩ <;> omega⟩)
            clear h0 HC
            go_wp2_with fail
            go_roundw
            case rel => exact ⟨q + 1, i + 1, by go_num, by go_num, by omega, by omega, HC2, by first | rfl | trivial⟩
            case measure => simp [intOf]; omega
          · have hb0 : ((i : Int) == 0) = false := by rw [beq_eq_false_iff_ne]; omega
            have he1 : (i : Int) - 1 = ((i - 1 : Nat) : Int) := by omega
            have he2 : ((i - 1 : Nat) : Int) < g.length := by omega
            obtain ⟨adg, rfl, hbg, r0, r1, r2, r3⟩ := RG.out.gl (k := i - 1) (by omega)
            have HST := Lib.hid (HBS.out (i - 1) (by omega))
            have HKD := Lib.hid (kd_at g (i - 1) (by omega))
            rw [HKD.out] at HST
            generalize g[i - 1].kind = xk at *
            clear r1 r2 r3
            by_cases h4 : xk = 4
            · subst h4
              have HC2 : Hid ((i + 1 = 0 ∧ q + 1 = 0) ∨ (0 < i + 1 ∧ q + 1 + brkN (g.drop (i + 1 - 1)) = brkN g + 1)) := Lib.hid (.inr ⟨by omega, by
                have h5 := HST.out
                rw [if_pos rfl, show i - 1 + 1 = i by omega] at h5
                rw [show i + 1 - 1 = i by omega]
                rcases HC.out with ⟨h, _⟩ | ⟨_, h⟩ <;> omega⟩)
              clear h0 HC HST
              go_wp2_with fail
              go_roundw
              case rel => exact ⟨q + 1, i + 1, by go_num, by go_num, by omega, by omega, HC2, by first | rfl | trivial⟩
              case measure => simp [intOf]; omega
            · have h4b : (xk == 4) = false := by simpa using h4
              have HC2 : Hid ((i + 1 = 0 ∧ q = 0) ∨ (0 < i + 1 ∧ q + brkN (g.drop (i + 1 - 1)) = brkN g + 1)) := Lib.hid (.inr ⟨by omega, by
                have h5 := HST.out
                rw [if_neg h4, show i - 1 + 1 = i by omega] at h5
                rw [show i + 1 - 1 = i by omega]
                rcases HC.out with ⟨h, _⟩ | ⟨_, h⟩ <;> omega⟩)
              clear h0 HC HST h4
              go_wp2_with fail
              go_roundw
              case rel => exact ⟨q, i + 1, by go_num, by go_num, by omega, by omega, HC2, by first | rfl | trivial⟩
              case measure => simp [intOf]; omega
        · have hli : ¬ (i : Int) < g.length := by omega
          have hqn : q = n1 := by
            rcases HC.out with ⟨h5, h6⟩ | ⟨h5, h6⟩
            · rw [← HN1.out, ← linesI_zero, linesI_end mo g 0 (by omega)]; exact h6
            · rw [brkN_end g (i - 1) (by omega)] at h6
              have := MO.out (by omega)
              omega
          subst hqn
          clear HC MO HN1 HBS
          have mn := MN.out
          go_wp2_with (first | (refine flat_load met_flat (.tmp 3) rfl rfl W.heap.size rfl ys YL.out 37 ?_ ?_; (focus (exact HS4.out.met))))
          refine (P1.out _ HS4.out.row).mono ?_
          rintro e w6 ⟨A4, c4, rfl, ho6, hb6⟩
          have HS6 := Lib.hid (HS4.out.behind hb6)
          clear ho6 hb6 HS4 P1 RG
          go_wp2_with (first | (refine flat_load met_flat (.tmp 3) rfl rfl W.heap.size rfl ys YL.out 37 ?_ ?_; (focus (exact HS6.out.met))))
          refine (P2.out _ HS6.out.row).mono ?_
          rintro e w7 ⟨A5, c5, rfl, ho7, hb7⟩
          have HS7 := Lib.hid (HS6.out.behind hb7)
          clear ho7 hb7 HS6 P2
          have zE := HS7.out.low.size
          have hc : (1280 : Int) * q = q * 1280 := Int.mul_comm _ _
          go_wp2_with fail
          refine (rawake_any _).mono ?_
          rintro o w8 ⟨rfl, hb8⟩
          have B8 := Lib.hid (HS7.out.low.trans (hb8.mono zE))
          clear hb8
          go_wp2
          go_ret
          exact ⟨rfl, B8.out⟩
end Go.Proofs.Ytmlnpphblicghaa
