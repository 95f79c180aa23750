import Derived.Test.YtmlnpphblicghaaRowAwakeQ
import Derived.Test.YtmlnpphblicghaaRefPlaceQ
import Derived.Test.YtmlnpphblicghaaRowStandNumQ
import Derived.Test.YtmlnpphblicghaaRowRoomQ
/- RowStands answers true. -/
namespace Go.Proofs.Ytmlnpphblicghaa
open Go Go.RowKit
set_option linter.unusedVariables false
set_option linter.unusedSimpArgs false
set_option maxRecDepth 20000
set_option maxHeartbeats 1000000

theorem IntWalk_i64_in (n : Int) (h : -9223372036854775808 ≤ n ∧ n < 9223372036854775808) : IntKind.i64.wrap n = n := by
  rw [IntKind.wrap_i64]
  omega
theorem rowStands_any (zs : List Int) (hl : zs.length = 256) (l : List Int) (A : Option Addr) (c : Nat) (a al : Int) (W : World) (hR : Row W W.heap.size A (i64s l)) (hn : l.length ≤ 9223372036854775807) :
    Calls Try.prog 12 #[.agg (i64s zs).toArray, .slice A l.length c, .int .i64 a, .int .i64 al] W fun e w' => e = .returned (.bool true) ∧ Below W.heap.size W w' := by
  have HL := Lib.hid hl
  have HR := Lib.hid hR
  have YL := Lib.hid (tameM_length zs true hl)
  have TA := Lib.hid (tame_any zs hl true)
  have RS := runsL_size l
  have RAT := Lib.hid (runsL_at l)
  have RU := Lib.hid (fun (w : World) (hb : Below W.heap.size W w) => runs_any l A c w ((HR.out.below hb).more hb.size) hn)
  have M0 := Lib.hid (Whole.mk W 37 (i64s zs).toArray)
  have HB0 := Lib.hid ((Below.refl W.heap.size W).alloc (Nat.le_refl _) (.cells (i64s zs).toArray 37))
  have z0 := M0.out.size
  have k12 : ∀ x : Int, bits .and .i64 x 4095 = x % 4096 := fun x => and_mask_i64 x 12 (by decide)
  have k2 : ∀ x : Int, bits .and .i64 x 3 = x % 4 := fun x => and_mask_i64 x 2 (by decide)
  have ha : 0 ≤ a % 4096 ∧ a % 4096 < 4096 := by omega
  clear hl hR
  generalize tameM zs true = ys at *
  generalize runsL l = rs at *
  obtain ⟨hlen, hsz⟩ := RS
  go_enter Try.func12, Try.ntmps12
  go_wp2_with (first | (refine flat_load met_flat (.tmp 4) rfl rfl W.heap.size rfl zs HL.out 37 ?_ ?_; (focus (exact M0.out))))
  refine (TA.out _).mono ?_
  rintro e w1 ⟨rfl, b1⟩
  have M1 := Lib.hid (M0.out.under b1 z0)
  have HB1 := Lib.hid (HB0.out.trans (b1.mono (by omega)))
  have z1 := M1.out.size
  clear b1 M0 HB0 TA z0
  go_upto_region 2 with (first
    | (refine flat_store met_flat (.tmp 4) (.tmp 20) rfl rfl W.heap.size rfl ys YL.out rfl 37 zs ?_ HL.out ?_; (focus (exact M1.out)); intro w2 h2 o2; have M2 := Lib.hid h2; have HB2 := Lib.hid (HB1.out.trans (o2.below (by simp) (by omega))); clear h2 o2 M1 HB1 z1))
  have FG := Lib.hid (glyphs_fine ys rs (by omega))
  have hgl := glyphsL_length ys rs
  have hmb := most_small ys rs (by omega)
  have NA : Adv0 (glyphsL ys rs) := fun x hx => by obtain ⟨r, i, hr, hi, -, -, h1, -⟩ := inRuns_what (glyphsL_in ys rs x hx); exact h1
  have hlm := least_most NA
  have hl0 : 0 ≤ leastL (glyphsL ys rs) := longL_ge true (glyphsL ys rs) 0 0
  have SF := Lib.hid (stands_facts ys rs (a % 4096 + leastL (glyphsL ys rs)) (al % 4) RAT.out (by omega))
  have hpm := place_most ys rs (a % 4096 + leastL (glyphsL ys rs)) (al % 4) (by omega)
  have hLl := linesL_len' (a % 4096 + leastL (glyphsL ys rs)) (glyphsL ys rs)
  have hGl := Lib.hid (fun (A1 : Option Addr) (c1 : Nat) (w : World) (hR : Row w w.heap.size A1 (rCells rs)) => rglyphs_any ys YL.out rs A1 c1 w hR (by omega) (by omega))
  have hPl := Lib.hid (fun (A1 : Option Addr) (c1 : Nat) (w : World) (hR : Row w w.heap.size A1 (rCells rs)) => place_any ys YL.out rs A1 c1 (a % 4096 + leastL (glyphsL ys rs)) 1280 (al % 4) (by omega) w hR (by omega) (by omega))
  unfold GlyphPost at hGl
  unfold PlacePost at hPl
  generalize glyphsL ys rs = g at *
  have LL := Lib.hid (fun (A2 : Option Addr) (c2 : Nat) (w : World) (hR : Row w w.heap.size A2 (i64s (gCells g))) => rleast_any g FG.out A2 c2 w hR)
  have hlz : leastL g ≤ 1099511627776 := by omega
  generalize leastL g = lz at *
  generalize placeZ ys rs (a % 4096 + lz) 1280 (al % 4) = Z at *
  obtain ⟨ps, h⟩ := Z
  simp only at hPl SF hpm
  clear NA FG hlm
  go_wp2_with fail
  refine (RU.out _ HB2.out).mono ?_
  rintro e w3 ⟨A1, c1, rfl, ho, hb3⟩
  have z2 := M2.out.size
  have HS : Hid (RnSt W w3 W.heap.size ys A1 rs.length c1 rs) := Lib.hid ⟨own_base ho (by omega), M2.out.under hb3 z2, HB2.out.trans (hb3.mono (by omega))⟩
  clear ho hb3 M2 HB2 RU z2
  go_wp2_with (first | (refine flat_load met_flat (.tmp 4) rfl rfl W.heap.size rfl ys YL.out 37 ?_ ?_; (focus (exact HS.out.met))))
  refine (hGl.out _ _ _ HS.out.row).mono ?_
  rintro e w4 ⟨A2, c2, rfl, ho4, hb4⟩
  have HS4 := Lib.hid (HS.out.behind hb4)
  have RG := Lib.hid (row_of_own ho4)
  clear ho4 hb4 HS hGl
  go_wp2_with fail
  refine (LL.out _ _ _ RG.out).mono ?_
  rintro e w' ⟨rfl, rfl⟩
  clear LL RG
  go_upto_region 5 with fail
  have hav : 0 ≤ a % 4096 + lz ∧ a % 4096 + lz ≤ 2199023255552 := by omega
  generalize a % 4096 + lz = av at *
  go_wp2_with (first | (refine flat_load met_flat (.tmp 4) rfl rfl W.heap.size rfl ys YL.out 37 ?_ ?_; (focus (exact HS4.out.met))))
  refine (hPl.out _ _ _ HS4.out.row).mono ?_
  rintro e w7 ⟨A5, c5, rfl, ho7, hb7⟩
  have HS7 := Lib.hid (HS4.out.behind hb7)
  have RP := Lib.hid (row_of_own ho7)
  have hpl : ps.length ≤ 9223372036854775807 := by
    obtain ⟨A', c', hv, q1, q2, -⟩ := owns_nil ho7
    unfold maxLen at q2
    omega
  clear ho7 hb7 HS4 hPl k12 k2
  obtain ⟨sf1, sf2, sf3, sf4⟩ := SF.out
  have SP := Lib.hid sf1
  have SN := Lib.hid (fun k hk => adj_get ps sf2 k hk)
  have HG0 := Lib.hid sf4
  generalize (linesL av g).length = nl at *
  clear sf1 sf2 sf4 SF
  have z7 := HS7.out.low.size
  have RR := Lib.hid HS7.out.row
  go_wp2
  go_loopw [13, 14] (fun v13 v14 wx => ∃ (n : Int) (j : Nat), v13 = .int .i64 n ∧ v14 = .int .i64 j ∧ j ≤ ps.length ∧ 0 ≤ n ∧ n ≤ nl ∧ Below w7.heap.size w7 wx) (fun _ v14 _ => ps.length - (intOf v14).toNat)
  case atStart => exact ⟨0, 0, rfl, rfl, Nat.zero_le _, Int.le_refl _, by omega, Below.refl _ _⟩
  case round =>
    obtain ⟨n, j, rfl, rfl, hj, hn0, hn1, hB⟩ := hrel
    have HB := Lib.hid hB
    clear hB
    by_cases hjl : j < ps.length
    · have hji : (j : Int) < ps.length := by omega
      obtain ⟨ad, rfl, hab, r0, r1, r2, r3, r4, r5, r6, r7⟩ := (RP.out.below HB.out).pc hjl
      obtain ⟨r, hst⟩ := SP.out ps[j] (List.getElem_mem hjl)
      have HNB := Lib.hid (fun (i : Nat) (h : i + 1 = j) => (by subst h; exact SN.out i hjl : StandsN (ps[i]'(by omega)) ps[j]))
      have hinr := hst.inr
      obtain ⟨adr, hAr, hbr, -, q1, -, q3⟩ := RR.out.rn hinr
      subst hAr
      generalize ps[j] = x at *
      obtain ⟨x0, x1, x2, x3, x4, x5, x6, x7⟩ := x
      obtain ⟨hi0, e1, e2, e3, e4, e5, e6, e7, e8, e9, e10, e11, e12, e13, e14⟩ := hst
      simp only at r0 r1 r2 r3 r4 r5 r6 r7 e1 e2 e3 e4 e5 e6 e7 e8 e9 e10 e11 e12 e13 e14
      generalize hlx : rs[r].line = hx at *
      clear hlx
      generalize htx : rs[r].text = tx at *
      clear htx hi0
      subst e1
      subst e10
      go_upto_region 11 with fail
      have X8 := Lib.hid (Whole.mk wr 56 #[.int .i64 r, .int .i64 x1, .int .i64 x2, .int .i64 x3, .int .i64 x4, .int .i64 x5, .int .i64 x6, .int .i64 x7])
      have HB8 := Lib.hid (HB.out.alloc HB.out.size (.cells #[.int .i64 r, .int .i64 x1, .int .i64 x2, .int .i64 x3, .int .i64 x4, .int .i64 x5, .int .i64 x6, .int .i64 x7] 56))
      have CR := Lib.hid (fun (w : World) (hb : Below w7.heap.size w7 w) => (⟨(hb.cell (p := ⟨(adr.add (r * 4)).block, (adr.add (r * 4)).off + 1, none⟩) (by simp only [add_block]; exact hbr)).trans q1, (hb.cell (p := ⟨(adr.add (r * 4)).block, (adr.add (r * 4)).off + 3, none⟩) (by simp only [add_block]; exact hbr)).trans q3⟩ :
        w.cell? ⟨(adr.add (r * 4)).block, (adr.add (r * 4)).off + 1, none⟩ = some (.string tx) ∧ w.cell? ⟨(adr.add (r * 4)).block, (adr.add (r * 4)).off + 3, none⟩ = some (.int .i64 x4)))
      clear r0 r1 r2 r3 r4 r5 r6 r7 q1 q3
      generalize wr.alloc _ = w8 at *
      generalize wr.heap.size = gx at *
      obtain ⟨t1, t3⟩ := CR.out _ HB8.out
      have p0 := X8.out.cell 0
      have p1 := X8.out.cell 1
      have p2 := X8.out.cell 2
      have p3 := X8.out.cell 3
      have p4 := X8.out.cell 4
      have p5 := X8.out.cell 5
      have p6 := X8.out.cell 6
      have p7 := X8.out.cell 7
      have hri : (r : Int) < rs.length := by omega
      have hyh : -9223372036854775808 ≤ x2 + x4 ∧ x2 + x4 < 9223372036854775808 := by omega
      have hxw : -9223372036854775808 ≤ x1 + x3 ∧ x1 + x3 < 9223372036854775808 := by omega
      have nyh : ¬ h < x2 + x4 := by omega
      have nxw : ¬ av < x1 + x3 := by omega
      have w1 : IntKind.i64.wrap (x1 + x3) = x1 + x3 := by
        exact IntWalk_i64_in (x1 + x3) (by omega)
      have w2 : IntKind.i64.wrap (x2 + x4) = x2 + x4 := by
        exact IntWalk_i64_in (x2 + x4) (by omega)
      have d1 : decide ((r : Int) < 0) = false := decide_eq_false (by omega)
      have d2 : decide (rs.length ≤ r) = false := decide_eq_false (by omega)
      have d3 : decide (x6 ≤ x5) = false := decide_eq_false (by omega)
      have d4 : decide (x5 < 0) = false := decide_eq_false (by omega)
      have d5 : decide ((tx.size : Int) < x6) = false := decide_eq_false (by omega)
      have d6 : decide (x1 < 0) = false := decide_eq_false (by omega)
      have d7 : decide (av < IntKind.i64.wrap (x1 + x3)) = false := decide_eq_false (by rw [w1]; exact nxw)
      have d8 : decide (x2 < 0) = false := decide_eq_false (by omega)
      have d9 : decide (h < IntKind.i64.wrap (x2 + x4)) = false := decide_eq_false (by rw [w2]; exact nyh)
      clear w1 w2
      simp only [List.append_eq, List.cons_append, List.nil_append]
      go_quiet (fail)
      have X9 := Lib.hid (X8.out.drawn nq)
      have HB9 := Lib.hid (Below.drewN' HB8.out nq)
      clear p0 p1 p2 p3 p4 p5 p6 p7 t1 t3 X8 HB8 CR
      generalize w8.drewN nq = w9 at *
      go_upto_region 13 with fail
      have HU := Lib.hid (upZ_bd x4 e11)
      have zx := X9.out.size
      have y2 : ∀ t : Later w9.heap.size w9, t.w.cell? ⟨gx, 2, none⟩ = some (.int .i64 x2) := fun t => (X9.out.under t.h zx).cell 2
      have y4 : ∀ t : Later w9.heap.size w9, t.w.cell? ⟨gx, 4, none⟩ = some (.int .i64 x4) := fun t => (X9.out.under t.h zx).cell 4
      have UPX := Lib.hid (fun w => rup_any x4 w (by omega) (by omega))
      have hub := HU.out
      have hbxb : -9223372036854775808 ≤ x2 + upZ x4 ∧ x2 + upZ x4 < 9223372036854775808 := by omega
      refine region_lane [] [0, 1, 2, 3, 4, 5, 6, 7] [8] (by kernel_rfl) (by kernel_rfl) (fun _ _ _ _ _ h => h) ?_
      simp only [pick, List.map_nil]
      refine wpQuiet_nil ⟨rfl, ?_⟩
      simp only [List.map_cons, List.map_nil, List.getD_cons_zero, List.getD_cons_succ, List.drop_succ_cons, List.drop_zero]
      refine laneO_run 6 (by kernel_rfl) ?_
      simp only [List.take_succ_cons, List.take_zero, List.drop_succ_cons, List.drop_zero]
      repeat (go_big_quiet_step (fail))
      refine wpQuiet_nil ?_
      refine laneO_call (v := .int .i64 (upZ x4)) (by kernel_rfl) (by rfl) (fun C hC h0 => ?_) ?_
      focus (go_big_quiet_op; exact ⟨_, fun w hw => (UPX.out w).mono fun e w' ⟨he, hb⟩ => ⟨he, hb ▸ hw⟩, rfl⟩)
      simp only [Act.put, List.setIfInBounds_toArray, List.set_cons_zero, List.set_cons_succ]
      refine laneO_run 1 (by kernel_rfl) ?_
      simp only [List.take_succ_cons, List.take_zero, List.drop_succ_cons, List.drop_zero]
      repeat (go_big_quiet_step (fail))
      refine wpQuiet_nil ?_
      refine laneO_end0 rfl rfl fun w10 hb0 => ?_
      clear y2 y4 UPX hub
      have X10 := Lib.hid (X9.out.under hb0 zx)
      have HB10 := Lib.hid (HB9.out.trans (Below.mono hb0 HB9.out.size))
      clear hb0 X9 HB9 zx
      obtain ⟨bx, hbx⟩ : ∃ bx, x2 + upZ x4 = bx := ⟨_, rfl⟩
      have HBX := Lib.hid hbx
      rw [hbx] at hbxb
      simp only [hbx]
      clear hbx
      go_upto_region 14 with fail
      go_upto_if 139 with fail
      have z10 := HB10.out.size
      go_cut [17, 18] from 140 to 194 (fun _ _ wx => Below w10.heap.size w10 wx)
      case first =>
        rcases Nat.eq_zero_or_pos j with h0 | h0
        · subst h0
          go_wp2
          go_meet
          exact Below.refl _ _
        · obtain ⟨i, rfl⟩ : ∃ i, j = i + 1 := ⟨j - 1, by omega⟩
          have hil : i < ps.length := by omega
          have hili : (i : Int) < ps.length := by omega
          have hji0 : (0 : Int) < ((i + 1 : Nat) : Int) := by omega
          obtain ⟨ad', hA', -, r0, r1, r2, r3, r4, r5, r6, r7⟩ := (RP.out.below HB10.out).pc hil
          injection hA' with hA'
          subst hA'
          have hNB := HNB.out i rfl
          obtain ⟨r', hst'⟩ := SP.out ps[i] (List.getElem_mem hil)
          generalize ps[i] = yy at *
          obtain ⟨y0, y1, y2, y3, y4, y5, y6, y7⟩ := yy
          obtain ⟨hi0', f1, f2, f3, f4, f5, f6, f7, f8, f9, f10, f11, f12, f13, f14⟩ := hst'
          unfold StandsN at hNB
          simp only at r0 r1 r2 r3 r4 r5 r6 r7 hNB f1 f2 f3 f4 f5 f6 f7 f8 f9 f10 f11 f12 f13 f14
          rw [HBX.out] at hNB
          clear f1 f4 f10 hi0'
          have he1 : ((i + 1 : Nat) : Int) - 1 = (i : Int) := by omega
          have HU2 := Lib.hid (upZ_bd y4 f11)
          go_upto_region 16 with fail
          have Y12 := Lib.hid (Whole.mk w10 56 #[.int .i64 y0, .int .i64 y1, .int .i64 y2, .int .i64 y3, .int .i64 y4, .int .i64 y5, .int .i64 y6, .int .i64 y7])
          have X12 := Lib.hid (X10.out.made (.cells #[.int .i64 y0, .int .i64 y1, .int .i64 y2, .int .i64 y3, .int .i64 y4, .int .i64 y5, .int .i64 y6, .int .i64 y7] 56))
          have HB12 := Lib.hid ((Below.refl w10.heap.size w10).alloc (Nat.le_refl _) (.cells #[.int .i64 y0, .int .i64 y1, .int .i64 y2, .int .i64 y3, .int .i64 y4, .int .i64 y5, .int .i64 y6, .int .i64 y7] 56))
          clear r0 r1 r2 r3 r4 r5 r6 r7
          generalize w10.alloc _ = w12 at *
          generalize hgy : w10.heap.size = gy at *
          have HGY := Lib.hid hgy
          clear hgy
          have zy := Y12.out.size
          have zx := X12.out.size
          have q2 : ∀ t : Later w12.heap.size w12, t.w.cell? ⟨gy, 2, none⟩ = some (.int .i64 y2) := fun t => (Y12.out.under t.h zy).cell 2
          have q4 : ∀ t : Later w12.heap.size w12, t.w.cell? ⟨gy, 4, none⟩ = some (.int .i64 y4) := fun t => (Y12.out.under t.h zy).cell 4
          have UPY := Lib.hid (fun w => rup_any y4 w (by omega) (by omega))
          have hub2 := HU2.out
          have hbyb : -9223372036854775808 ≤ y2 + upZ y4 ∧ y2 + upZ y4 < 9223372036854775808 := by omega
          refine region_lane [] [0, 1, 2, 3, 4, 5, 6, 7] [8] (by kernel_rfl) (by kernel_rfl) (fun _ _ _ _ _ h => h) ?_
          simp only [pick, List.map_nil]
          refine wpQuiet_nil ⟨rfl, ?_⟩
          simp only [List.map_cons, List.map_nil, List.getD_cons_zero, List.getD_cons_succ, List.drop_succ_cons, List.drop_zero]
          refine laneO_run 6 (by kernel_rfl) ?_
          simp only [List.take_succ_cons, List.take_zero, List.drop_succ_cons, List.drop_zero]
          repeat (go_big_quiet_step (fail))
          refine wpQuiet_nil ?_
          refine laneO_call (v := .int .i64 (upZ y4)) (by kernel_rfl) (by rfl) (fun C hC h0 => ?_) ?_
          focus (go_big_quiet_op; exact ⟨_, fun w hw => (UPY.out w).mono fun e w' ⟨he, hb⟩ => ⟨he, hb ▸ hw⟩, rfl⟩)
          simp only [Act.put, List.setIfInBounds_toArray, List.set_cons_zero, List.set_cons_succ]
          refine laneO_run 1 (by kernel_rfl) ?_
          simp only [List.take_succ_cons, List.take_zero, List.drop_succ_cons, List.drop_zero]
          repeat (go_big_quiet_step (fail))
          refine wpQuiet_nil ?_
          refine laneO_end0 rfl rfl fun w13 hb1 => ?_
          clear q2 q4 UPY hub2
          have X13 := Lib.hid (X12.out.under hb1 zx)
          have Y13 := Lib.hid (Y12.out.under hb1 zy)
          have HB13 : Hid (Below gy w10 w13) := Lib.hid (HB12.out.trans (Below.mono hb1 (by have := HB12.out.size; have := HGY.out; omega)))
          clear hb1 X12 Y12 HB12 zx zy
          obtain ⟨by_, hby⟩ : ∃ b, y2 + upZ y4 = b := ⟨_, rfl⟩
          rw [hby] at hbyb hNB
          simp only [hby]
          clear hby
          go_upto_region 17 with fail
          have p1 := X13.out.cell 1
          have p7 := X13.out.cell 7
          have q1 := Y13.out.cell 1
          have q3 := Y13.out.cell 3
          have q7 := Y13.out.cell 7
          have hyw : -9223372036854775808 ≤ y1 + y3 ∧ y1 + y3 < 9223372036854775808 := by omega
          rcases hNB with ⟨g1, g2, g3⟩ | ⟨g1, g2⟩
          · subst g1
            subst g2
            subst g3
            go_wp2
            go_meet
            exact HB13.out
          · have n1 : ¬ x7 = y7 := by omega
            have n2 : ¬ x7 < y7 := by omega
            have n3 : ¬ bx < by_ := by omega
            have n4 : (x7 == y7) = false := by rw [beq_eq_false_iff_ne]; omega
            go_wp2
            go_meet
            exact HB13.out
      case rest =>
        have X11 := Lib.hid (X10.out.under hcut X10.out.size)
        have HB11 := Lib.hid (HB10.out.trans (Below.mono hcut z10))
        clear hcut X10 HB10
        have p7 := X11.out.cell 7
        go_wp2_with fail
        go_roundw
        case rel => exact ⟨max n (x7 + 1), j + 1, by go_num, by go_num, by omega, by omega, by omega, HB11.out⟩
        case measure => simp [intOf]; omega
    · have hji : ¬ (j : Int) < ps.length := by omega
      have hge : n * 1280 ≤ h := by omega
      have hnb : 0 ≤ n * 1280 ∧ n * 1280 ≤ 4398046511104 := by omega
      have d0 : decide (n * 1280 ≤ h) = true := decide_eq_true hge
      have hend : ¬ 0 < g.length → h = 0 := fun h0 => HG0.out (by omega)
      have HE := Lib.hid hend
      have hBW := Lib.hid (HS7.out.low.trans (HB.out.mono z7))
      clear hend
      by_cases hg0 : 0 < g.length
      · have hgi : (0 : Int) < g.length := by omega
        go_wp2_with fail
        refine (rawake_any _).mono ?_
        rintro e w' ⟨rfl, hb⟩
        have HB9 := Lib.hid (hBW.out.trans (hb.mono hBW.out.size))
        clear hb
        go_wp2
        go_ret
        exact ⟨rfl, HB9.out⟩
      · have hgi : ¬ (0 : Int) < g.length := by omega
        have hh := HE.out hg0
        subst hh
        go_wp2_with fail
        refine (rawake_any _).mono ?_
        rintro e w' ⟨rfl, hb⟩
        have HB9 := Lib.hid (hBW.out.trans (hb.mono hBW.out.size))
        clear hb
        go_wp2
        go_ret
        exact ⟨rfl, HB9.out⟩
end Go.Proofs.Ytmlnpphblicghaa
