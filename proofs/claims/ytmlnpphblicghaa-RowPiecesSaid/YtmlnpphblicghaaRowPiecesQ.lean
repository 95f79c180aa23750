import Derived.Test.YtmlnpphblicghaaRowAwakeQ
import Derived.Test.YtmlnpphblicghaaRefPlaceQ
import Derived.Test.YtmlnpphblicghaaRowRunsQ
import Derived.Test.YtmlnpphblicghaaRowHeightsQ
import Derived.Test.YtmlnpphblicghaaPiecesNumQ
/- RowPieces answers true. -/
namespace Go.Proofs.Ytmlnpphblicghaa
open Go Go.RowKit
set_option linter.unusedVariables false
set_option linter.unusedSimpArgs false
set_option maxRecDepth 20000
set_option maxHeartbeats 2000000

theorem rowPieces_any (zs : List Int) (hl : zs.length = 256) (l : List Int) (A : Option Addr) (c : Nat) (a : Int) (W : World) (hR : Row W W.heap.size A (i64s l)) (hn : l.length ≤ 9223372036854775807) :
    Calls Try.prog 10 #[.agg (i64s zs).toArray, .slice A l.length c, .int .i64 a] W fun e w' => e = .returned (.bool true) ∧ Below W.heap.size W w' := by
  have HL := Lib.hid hl
  have HR := Lib.hid hR
  have YL := Lib.hid (tameM_length zs true hl)
  have TA := Lib.hid (tame_any zs hl true)
  have RS := runsL_size l
  have RAT := Lib.hid (runsL_at l)
  have RU := Lib.hid (fun (w : World) (hb : Below W.heap.size W w) => runs_any l A c w ((HR.out.below hb).more hb.size) hn)
  have M0 := Lib.hid (Whole.mk W 37 (i64s zs).toArray)
  have HB0 := Lib.hid ((Below.refl W.heap.size W).alloc (Nat.le_refl _) (.cells (i64s zs).toArray 37))
  have z0 := M0.out.size
  have k12 : ∀ x : Int, bits .and .i64 x 4095 = x % 4096 := fun x => and_mask_i64 x 12 (by decide)
  have ha : 0 ≤ a % 4096 ∧ a % 4096 < 4096 := by omega
  clear hl hR
  generalize tameM zs true = ys at *
  generalize runsL l = rs at *
  obtain ⟨hlen, hsz⟩ := RS
  go_enter Try.func10, Try.ntmps10
  go_wp2_with (first | (refine flat_load met_flat (.tmp 3) rfl rfl W.heap.size rfl zs HL.out 37 ?_ ?_; (focus (exact M0.out))))
  refine (TA.out _).mono ?_
  rintro e w1 ⟨rfl, b1⟩
  have M1 := Lib.hid (M0.out.under b1 z0)
  have HB1 := Lib.hid (HB0.out.trans (b1.mono (by omega)))
  have z1 := M1.out.size
  clear b1 M0 HB0 TA z0
  go_upto_region 2 with (first
    | (refine flat_store met_flat (.tmp 3) (.tmp 21) rfl rfl W.heap.size rfl ys YL.out rfl 37 zs ?_ HL.out ?_; (focus (exact M1.out)); intro w2 h2 o2; have M2 := Lib.hid h2; have HB2 := Lib.hid (HB1.out.trans (o2.below (by simp) (by omega))); clear h2 o2 M1 HB1 z1))
  generalize a % 4096 = av at *
  obtain ⟨T, hT⟩ := pieces_facts ys rs av (by omega) (fun i h => (RAT.out i h).1)
  have TF := Lib.hid hT
  have hGl := Lib.hid (fun (A1 : Option Addr) (c1 : Nat) (w : World) (hR : Row w w.heap.size A1 (rCells rs)) => rglyphs_any ys YL.out rs A1 c1 w hR (by omega) (by omega))
  have hPl := Lib.hid (fun (A1 : Option Addr) (c1 : Nat) (w : World) (hR : Row w w.heap.size A1 (rCells rs)) => place_any ys YL.out rs A1 c1 av 1280 0 (by omega) w hR (by omega) (by omega))
  unfold PlacePost at hPl
  unfold GlyphPost at hGl
  have FG := Lib.hid (glyphs_fine ys rs (by omega))
  clear hT
  generalize glyphsL ys rs = g at *
  generalize placeZ ys rs av 1280 0 = Z at *
  obtain ⟨ps, h⟩ := Z
  simp only at hPl TF
  have hgl := TF.out.glyphs
  have hpl := TF.out.few
  go_wp2_with fail
  refine (RU.out _ HB2.out).mono ?_
  rintro e w3 ⟨A1, c1, rfl, ho, hb3⟩
  have z2 := M2.out.size
  have HS : Hid (RnSt W w3 W.heap.size ys A1 rs.length c1 rs) := Lib.hid ⟨own_base ho (by omega), M2.out.under hb3 z2, HB2.out.trans (hb3.mono (by omega))⟩
  clear ho hb3 M2 HB2 RU z2
  go_wp2_with (first | (refine flat_load met_flat (.tmp 3) rfl rfl W.heap.size rfl ys YL.out 37 ?_ ?_; (focus (exact HS.out.met))))
  refine (hGl.out _ _ _ HS.out.row).mono ?_
  rintro e w4 ⟨A4, c4, rfl, ho4, hb4⟩
  have HS4 := Lib.hid (HS.out.behind hb4)
  have R4 := Lib.hid (row_of_own ho4)
  clear ho4 hb4 HS hGl
  go_wp2_with (first | (refine flat_load met_flat (.tmp 3) rfl rfl W.heap.size rfl ys YL.out 37 ?_ ?_; (focus (exact HS4.out.met))))
  refine (hPl.out _ _ _ HS4.out.row).mono ?_
  rintro e w7 ⟨A7, c7, rfl, ho7, hb7⟩
  have HS7 := Lib.hid (HS4.out.behind hb7)
  have RG := Lib.hid ((R4.out.below hb7).more hb7.size)
  have RP := Lib.hid (row_of_own ho7)
  have LOW := Lib.hid HS7.out.low
  clear ho7 hb7 HS4 hPl R4 k12 HS7
  have z7 := LOW.out.size
  have IZ := Lib.hid (inN_zero T)
  go_wp2
  go_loopw [11, 12, 13] (fun v11 v12 v13 wx => ∃ (i : Nat) (s : Int), v11 = .int .i64 (inN T i) ∧ v12 = .int .i64 s ∧ v13 = .int .i64 i ∧ i ≤ ps.length ∧ 0 ≤ s ∧ s ≤ 131072000 * (i : Int) ∧ Below w7.heap.size w7 wx) (fun _ _ v13 _ => ps.length - (intOf v13).toNat)
  case atStart => exact ⟨0, 0, by rw [IZ.out], rfl, rfl, Nat.zero_le _, Int.le_refl _, by omega, Below.refl _ _⟩
  case round =>
    clear IZ
    obtain ⟨i, s, rfl, rfl, rfl, hi, hs0, hs1, hB⟩ := hrel
    have HB := Lib.hid hB
    clear hB
    by_cases hil : i < ps.length
    · have hii : (i : Int) < ps.length := by omega
      obtain ⟨v, hv, hin, -⟩ := TF.out.one i hil
      have HIN1 := Lib.hid hin
      have HV := Lib.hid hv
      have HNX := Lib.hid (fun (j : Nat) (h : j + 1 = i) => (by subst h; exact TF.out.next j hil : nextP (ps[j]'(by omega)) ps[i]))
      have RI := Lib.hid (fun (w : World) (hb : Below w7.heap.size w7 w) => (RP.out.below hb).pc hil)
      have RJ := Lib.hid (fun (w : World) (hb : Below w7.heap.size w7 w) (j : Nat) (hj : j < ps.length) => (RP.out.below hb).pc hj)
      have hwp := hv.w
      have hw0 := hv.w0
      have hw1 := hv.w1
      have hbi := TF.out.bd i
      clear hv hin
      generalize ps[i] = x at *
      obtain ⟨x0, x1, x2, x3, x4, x5, x6, x7⟩ := x
      simp only at RI hwp hw0 hw1
      have HWP := Lib.hid hwp
      clear hwp
      go_upto_region 9 with fail
      go_cut [85] from 42 to 85 (fun vv wx => vv = .bool false ∧ Below wr.heap.size wr wx)
      case first =>
        obtain ⟨ad, rfl, hab, r0, -, -, -, -, r5, -, -⟩ := RI.out _ HB.out
        rcases Nat.eq_zero_or_pos i with h0 | h0
        · subst h0
          have b0 : decide ((0 : Int) < ((0 : Nat) : Int)) = false := by decide
          go_quiet (fail)
          go_wp2
          go_meet
          exact ⟨rfl, Below.drewN' (Below.refl _ _) nq⟩
        · obtain ⟨j, rfl⟩ : ∃ j, i = j + 1 := ⟨i - 1, by omega⟩
          have hjl : j < ps.length := by omega
          have hji : (j : Int) < ps.length := by omega
          obtain ⟨ad', hA', -, s0, -, -, -, -, -, s6, -⟩ := RJ.out _ HB.out j hjl
          injection hA' with hA'
          subst hA'
          have hnx := HNX.out j rfl
          generalize ps[j] = y at *
          obtain ⟨y0, y1, y2, y3, y4, y5, y6, y7⟩ := y
          unfold nextP at hnx
          simp only at s0 s6 hnx
          have he1 : ((j + 1 : Nat) : Int) - 1 = (j : Int) := by omega
          have he2 : IntKind.i64.wrap (((j + 1 : Nat) : Int) - 1) = (j : Int) := by rw [IntKind.wrap_i64]; omega
          have b0 : decide ((0 : Int) < ((j + 1 : Nat) : Int)) = true := decide_eq_true (by omega)
          rcases hnx with h1 | ⟨h1, h2⟩
          · have q1 : decide (x0 < y0) = false := decide_eq_false (by omega)
            have q2 : (x0 == y0) = false := by rw [beq_eq_false_iff_ne]; omega
            clear h1
            go_quiet (fail)
            go_wp2
            go_meet
            exact ⟨rfl, Below.drewN' (Below.refl _ _) nq⟩
          · subst h1
            have q1 : decide (y0 < y0) = false := by simp
            have q2 : (y0 == y0) = true := by simp
            have q3 : decide (x5 < y6) = false := decide_eq_false (by omega)
            clear h2
            go_quiet (fail)
            go_wp2
            go_meet
            exact ⟨rfl, Below.drewN' (Below.refl _ _) nq⟩
      case rest =>
        obtain ⟨rfl, hBc⟩ := hcut
        have HBC := Lib.hid (HB.out.trans (hBc.mono HB.out.size))
        clear hBc HB HNX RJ
        have CZ := Lib.hid (cutV_zero v)
        have WZ := Lib.hid (wK_zero g v)
        go_wp2
        go_loopw [11, 14, 15] (fun v11 v14 v15 wx => ∃ k : Nat, v11 = .int .i64 (inN T i + cutV v k) ∧ v14 = .int .i64 (wK g v k) ∧ v15 = .int .i64 k ∧ k ≤ g.length ∧ Below wc.heap.size wc wx) (fun _ _ v15 _ => g.length - (intOf v15).toNat)
        case atStart => exact ⟨0, by rw [CZ.out, Int.add_zero], by rw [WZ.out], rfl, Nat.zero_le _, Below.refl _ _⟩
        case round =>
          clear CZ WZ
          obtain ⟨k, rfl, rfl, rfl, hk, hB2⟩ := hrel
          have HB2 := Lib.hid (HBC.out.trans (hB2.mono HBC.out.size))
          have HC2 := Lib.hid hB2
          clear hB2
          obtain ⟨ad, rfl, hab, p0, -, -, p3, -, p5, p6, -⟩ := RI.out _ HB2.out
          have hvl := HV.out.lt
          have hvh := HV.out.hi
          by_cases hkl : k < g.length
          · have hki : (k : Int) < g.length := by omega
            obtain ⟨adg, rfl, hbg, r0, r1, r2, r3⟩ := (RG.out.below HB2.out).gl hkl
            have HAS := Lib.hid (HV.out.has k hkl)
            have EWI : Hid (∀ (h1 : v.lo ≤ k) (h2 : k < v.hi), wK g v (k + 1) = wK g v k + (g[k]'hkl).adv) := Lib.hid (fun h1 h2 => wK_in g v k hvh h1 h2)
            have ECI := Lib.hid (fun h1 h2 => cutV_in v k h1 h2)
            have ECO := Lib.hid (fun h => cutV_out v k hvl h)
            have EWO := Lib.hid (fun h => wK_out g v k hvl h)
            obtain ⟨b1, b2⟩ := sumT_bd FG.out v.lo (max v.lo (min (k + 1) v.hi)) (by omega) (by omega)
            have hbw : -9223372036854775808 ≤ wK g v (k + 1) ∧ wK g v (k + 1) < 9223372036854775808 := by unfold wK; omega
            have hbc := cutV_bd v k hvl
            generalize g[k] = y at *
            obtain ⟨gk, gr, ga, gv⟩ := y
            simp only at r0 r1 r2 r3 HAS EWI
            clear r0 b1 b2 HV p0 p3
            obtain ⟨ad', hA', -, p0, -, -, p3, -, p5, p6, -⟩ := RI.out _ HB2.out
            injection hA' with hA'
            subst hA'
            go_upto_region 15 with fail
            by_cases hc1 : gr = x0
            · by_cases hc2 : x5 ≤ ga
              · by_cases hc3 : ga < x6
                · have HIN := Lib.hid (HAS.out.1 ⟨hc1, hc2, hc3⟩)
                  have q1 : (gr == x0) = true := by rw [hc1]; simp
                  have q2 : decide (x5 ≤ ga) = true := decide_eq_true hc2
                  have q3 : decide (ga < x6) = true := decide_eq_true hc3
                  clear hc1 hc2 hc3
                  have ew := EWI.out HIN.out.1 HIN.out.2
                  have ec := ECI.out HIN.out.1 HIN.out.2
                  rw [ew] at hbw
                  have EW := Lib.hid ew
                  have EC := Lib.hid ec
                  clear ew ec EWI ECI ECO EWO HAS HIN
                  go_quiet (fail)
                  go_wp2_with fail
                  go_roundw
                  case rel => exact ⟨k + 1, by rw [EC.out]; go_num, by rw [EW.out], by go_num, by omega, Below.drewN' HC2.out nq⟩
                  case measure => simp [intOf]; omega
                · have HIN := Lib.hid (fun h => hc3 (HAS.out.2 h).2.2)
                  have q1 : (gr == x0) = true := by rw [hc1]; simp
                  have q2 : decide (x5 ≤ ga) = true := decide_eq_true hc2
                  have q3 : decide (ga < x6) = false := decide_eq_false hc3
                  clear hc1 hc2 hc3
                  have EW := Lib.hid (EWO.out HIN.out)
                  have EC := Lib.hid (ECO.out HIN.out)
                  clear EWI ECI ECO EWO HAS HIN hbw
                  go_quiet (fail)
                  go_wp2
                  go_roundw
                  case rel => exact ⟨k + 1, by rw [EC.out], by rw [EW.out], by go_num, by omega, Below.drewN' HC2.out nq⟩
                  case measure => simp [intOf]; omega
              · have HIN := Lib.hid (fun h => hc2 (HAS.out.2 h).2.1)
                have q1 : (gr == x0) = true := by rw [hc1]; simp
                have q2 : decide (x5 ≤ ga) = false := decide_eq_false hc2
                clear hc1 hc2
                have EW := Lib.hid (EWO.out HIN.out)
                have EC := Lib.hid (ECO.out HIN.out)
                clear EWI ECI ECO EWO HAS HIN hbw
                go_quiet (fail)
                go_wp2
                go_roundw
                case rel => exact ⟨k + 1, by rw [EC.out], by rw [EW.out], by go_num, by omega, Below.drewN' HC2.out nq⟩
                case measure => simp [intOf]; omega
            · have HIN := Lib.hid (fun h => hc1 (HAS.out.2 h).1)
              have q1 : (gr == x0) = false := by rw [beq_eq_false_iff_ne]; exact hc1
              clear hc1
              have EW := Lib.hid (EWO.out HIN.out)
              have EC := Lib.hid (ECO.out HIN.out)
              clear EWI ECI ECO EWO HAS HIN hbw
              go_quiet (fail)
              go_wp2
              go_roundw
              case rel => exact ⟨k + 1, by rw [EC.out], by rw [EW.out], by go_num, by omega, Below.drewN' HC2.out nq⟩
              case measure => simp [intOf]; omega
          · have hki : ¬ (k : Int) < g.length := by omega
            obtain rfl : k = g.length := by omega
            have e1 : inN T i + cutV v g.length = inN T (i + 1) := by rw [HIN1.out, cutV_all v g.length hvl hvh]
            have e2 : wK g v g.length = x3 := by rw [wK_all g v g.length hvl hvh, HWP.out]
            simp only [e1, e2]
            clear e1 e2 HIN1 HWP HV
            go_wp2
            go_roundw
            case rel => exact ⟨i + 1, s + x3, rfl, by go_num, by go_num, by omega, by omega, by omega, HB2.out⟩
            case measure => simp [intOf]; omega
    · have hii : ¬ (i : Int) < ps.length := by omega
      obtain rfl : i = ps.length := by omega
      have eA := TF.out.all
      have hC := TF.out.cbd g.length
      have HCL := Lib.hid (TF.out.cnt)
      have CB := Lib.hid (TF.out.cbd)
      have CV := Lib.hid (TF.out.cov)
      have ON := Lib.hid (TF.out.one)
      have hTL := TF.out.len
      have HTT : Hid (∀ k, covB (T.take ps.length) k = covB T k) := Lib.hid (fun k => by rw [← hTL, List.take_length])
      have CT0 : Hid (∀ k, covB (T.take 0) k = false) := Lib.hid (covB_zero T)
      have RJ := Lib.hid (fun (w : World) (hb : Below w7.heap.size w7 w) (j : Nat) (hj : j < ps.length) => (RP.out.below hb).pc hj)
      have C0 := Lib.hid (cntV_zero T)
      simp only [eA]
      clear eA hTL TF
      generalize hCC : cntV T g.length = C at *
      have HCC := Lib.hid hCC
      clear hCC
      go_wp2
      go_loopw [16, 17] (fun v16 v17 wx => ∃ k : Nat, v16 = .int .i64 ((k : Int) - cntV T k) ∧ v17 = .int .i64 k ∧ k ≤ g.length ∧ Below wr.heap.size wr wx) (fun _ v17 _ => g.length - (intOf v17).toNat)
      case atStart => exact ⟨0, by rw [C0.out]; rfl, rfl, Nat.zero_le _, Below.refl _ _⟩
      case round =>
        clear C0
        obtain ⟨k, rfl, rfl, hk, hB2⟩ := hrel
        have HB2 := Lib.hid (HB.out.trans (hB2.mono HB.out.size))
        have HC2 := Lib.hid hB2
        clear hB2
        by_cases hkl : k < g.length
        · have hki : (k : Int) < g.length := by omega
          have hck := CB.out k
          have RK := Lib.hid (fun (w : World) (hb : Below w7.heap.size w7 w) => (RG.out.below hb).gl hkl)
          have HK4 := Lib.hid (CV.out k hkl)
          have HSK := Lib.hid (HCL.out k)
          have HTK := Lib.hid (HTT.out k)
          have HO := Lib.hid (fun j (hj : j < ps.length) => (by
            obtain ⟨v, hv, -, hc⟩ := ON.out j hj
            exact ⟨v, hv.has k hkl, hc k⟩ : ∃ v : Iv, (((g[k]'hkl).run = (ps[j]'hj).node ∧ (ps[j]'hj).from_ ≤ (g[k]'hkl).at_ ∧ (g[k]'hkl).at_ < (ps[j]'hj).to_) ↔ (v.lo ≤ k ∧ k < v.hi)) ∧ covB (T.take (j + 1)) k = (covB (T.take j) k || (decide (v.lo ≤ k) && decide (k < v.hi)))))
          generalize g[k] = y at *
          obtain ⟨gk, gr, ga, gv⟩ := y
          simp only at RK HK4 HO
          have hcb := hck
          have hC0 := CT0.out k
          have HZ0 := Lib.hid hC0
          clear hC0
          go_wp2
          go_loopw [18, 19] (fun v18 v19 wx => ∃ j : Nat, v18 = .bool (covB (T.take j) k) ∧ v19 = .int .i64 j ∧ j ≤ ps.length ∧ Below wr.heap.size wr wx) (fun _ v19 _ => ps.length - (intOf v19).toNat)
          case atStart => exact ⟨0, by rw [HZ0.out], rfl, Nat.zero_le _, Below.refl _ _⟩
          case round =>
            clear HZ0
            obtain ⟨j, rfl, rfl, hj, hB3⟩ := hrel
            have HB3 := Lib.hid (HB2.out.trans (hB3.mono HB2.out.size))
            have HC3 := Lib.hid hB3
            clear hB3
            obtain ⟨adg, rfl, hbg, r0, r1, r2, -⟩ := RK.out _ HB3.out
            by_cases hjl : j < ps.length
            · have hji : (j : Int) < ps.length := by omega
              obtain ⟨adp, rfl, hbp, p0, -, -, -, -, p5, p6, -⟩ := RJ.out _ HB3.out j hjl
              obtain ⟨v, hvh, hvc⟩ := HO.out j hjl
              have HAS := Lib.hid hvh
              have HCO := Lib.hid hvc
              clear hvh hvc r0
              generalize ps[j] = x at *
              obtain ⟨x0, x1, x2, x3, x4, x5, x6, x7⟩ := x
              simp only at p0 p5 p6 HAS
              have HFT : Hid (covB (T.take j) k = true → covB (T.take (j + 1)) k = true) := Lib.hid (fun h => by rw [HCO.out, h]; rfl)
              have HFI : Hid (v.lo ≤ k ∧ k < v.hi → covB (T.take (j + 1)) k = true) := Lib.hid (fun h => by rw [HCO.out, decide_eq_true h.1, decide_eq_true h.2]; simp)
              have HFO : Hid (covB (T.take j) k = false → ¬ (v.lo ≤ k ∧ k < v.hi) → covB (T.take (j + 1)) k = false) := Lib.hid (fun h h2 => by
                rw [HCO.out, h, Bool.false_or, Bool.and_eq_false_iff]
                by_cases h3 : v.lo ≤ k
                · exact .inr (decide_eq_false (fun h4 => h2 ⟨h3, h4⟩))
                · exact .inl (decide_eq_false h3))
              clear HCO HO
              go_upto_region 29 with fail
              cases hcv : covB (T.take j) k with
              | true =>
                have EC := Lib.hid (HFT.out hcv)
                clear hcv HFT HFI HFO HAS
                go_quiet (fail)
                go_wp2
                go_roundw
                case rel => exact ⟨j + 1, by rw [EC.out], by go_num, by omega, Below.drewN' HC3.out nq⟩
                case measure => simp [intOf]; omega
              | false =>
                have HCVF := Lib.hid hcv
                clear hcv HFT
                by_cases hc1 : gr = x0
                · by_cases hc2 : x5 ≤ ga
                  · by_cases hc3 : ga < x6
                    · have HIN := Lib.hid (HAS.out.1 ⟨hc1, hc2, hc3⟩)
                      have q1 : (gr == x0) = true := by rw [hc1]; simp
                      have q2 : decide (x5 ≤ ga) = true := decide_eq_true hc2
                      have q3 : decide (ga < x6) = true := decide_eq_true hc3
                      clear hc1 hc2 hc3
                      have EC := Lib.hid (HFI.out HIN.out)
                      clear HFI HFO HAS HIN
                      go_quiet (fail)
                      go_wp2
                      go_roundw
                      case rel => exact ⟨j + 1, by rw [EC.out], by go_num, by omega, Below.drewN' HC3.out nq⟩
                      case measure => simp [intOf]; omega
                    · have HIN := Lib.hid (fun h => hc3 (HAS.out.2 h).2.2)
                      have q1 : (gr == x0) = true := by rw [hc1]; simp
                      have q2 : decide (x5 ≤ ga) = true := decide_eq_true hc2
                      have q3 : decide (ga < x6) = false := decide_eq_false hc3
                      clear hc1 hc2 hc3
                      have EC := Lib.hid (HFO.out HCVF.out HIN.out)
                      clear HFI HFO HAS HIN
                      go_quiet (fail)
                      go_wp2
                      go_roundw
                      case rel => exact ⟨j + 1, by rw [EC.out], by go_num, by omega, Below.drewN' HC3.out nq⟩
                      case measure => simp [intOf]; omega
                  · have HIN := Lib.hid (fun h => hc2 (HAS.out.2 h).2.1)
                    have q1 : (gr == x0) = true := by rw [hc1]; simp
                    have q2 : decide (x5 ≤ ga) = false := decide_eq_false hc2
                    clear hc1 hc2
                    have EC := Lib.hid (HFO.out HCVF.out HIN.out)
                    clear HFI HFO HAS HIN
                    go_quiet (fail)
                    go_wp2
                    go_roundw
                    case rel => exact ⟨j + 1, by rw [EC.out], by go_num, by omega, Below.drewN' HC3.out nq⟩
                    case measure => simp [intOf]; omega
                · have HIN := Lib.hid (fun h => hc1 (HAS.out.2 h).1)
                  have q1 : (gr == x0) = false := by rw [beq_eq_false_iff_ne]; exact hc1
                  clear hc1
                  have EC := Lib.hid (HFO.out HCVF.out HIN.out)
                  clear HFI HFO HAS HIN
                  go_quiet (fail)
                  go_wp2
                  go_roundw
                  case rel => exact ⟨j + 1, by rw [EC.out], by go_num, by omega, Below.drewN' HC3.out nq⟩
                  case measure => simp [intOf]; omega
            · have hji : ¬ (j : Int) < ps.length := by omega
              obtain rfl : j = ps.length := by omega
              have e1 := HTK.out
              simp only [e1]
              clear e1 HO
              cases hcv : covB T k with
              | true =>
                have EC : Hid (((k + 1 : Nat) : Int) - cntV T (k + 1) = (k : Int) - cntV T k) := Lib.hid (by rw [HSK.out, hcv, if_pos rfl]; omega)
                clear hcv HSK HK4 HTK
                go_wp2
                go_roundw
                case rel => exact ⟨k + 1, by rw [EC.out], by go_num, by omega, HC2.out.trans (HC3.out.mono HC2.out.size)⟩
                case measure => simp [intOf]; omega
              | false =>
                have EC : Hid (((k + 1 : Nat) : Int) - cntV T (k + 1) = (k : Int) - cntV T k + 1) := Lib.hid (by rw [HSK.out, hcv, if_neg (by decide)]; omega)
                have h24 : gk = 2 ∨ gk = 4 := by
                  rcases HK4.out with h | h
                  · rw [hcv] at h; cases h
                  · exact h
                clear hcv HSK HK4 HTK
                rcases h24 with rfl | rfl
                · go_wp2
                  go_roundw
                  case rel => exact ⟨k + 1, by rw [EC.out], by go_num, by omega, HC2.out.trans (HC3.out.mono HC2.out.size)⟩
                  case measure => simp [intOf]; omega
                · go_wp2
                  go_roundw
                  case rel => exact ⟨k + 1, by rw [EC.out], by go_num, by omega, HC2.out.trans (HC3.out.mono HC2.out.size)⟩
                  case measure => simp [intOf]; omega
        · have hki : ¬ (k : Int) < g.length := by omega
          obtain rfl : k = g.length := by omega
          have e1 := HCC.out
          simp only [e1]
          clear e1
          have hsum : C + ((g.length : Int) - C) = g.length := by omega
          have hsw : IntKind.i64.wrap (C + ((g.length : Int) - C)) = g.length := by rw [hsum, IntKind.wrap_i64]; omega
          have LOW2 := Lib.hid (LOW.out.trans (HB2.out.mono z7))
          go_wp2_with fail
          refine (rawake_any _).mono ?_
          rintro e w' ⟨rfl, hb⟩
          have HBE := Lib.hid (LOW2.out.trans (hb.mono LOW2.out.size))
          clear hb
          go_wp2
          go_ret
          exact ⟨rfl, HBE.out⟩
end Go.Proofs.Ytmlnpphblicghaa
