import Derived.Test.YtmlnpphblicghaaRowAwakeQ
import Derived.Test.YtmlnpphblicghaaRefPlaceQ
import Derived.Test.YtmlnpphblicghaaRowRunsQ
import Derived.Test.YtmlnpphblicghaaRowHeightsQ
import Derived.Test.YtmlnpphblicghaaAlignNumQ
import Derived.Test.YtmlnpphblicghaaTwinQ
/- RowAligns answers true. -/
namespace Go.Proofs.Ytmlnpphblicghaa
open Go Go.RowKit
set_option linter.unusedVariables false
set_option linter.unusedSimpArgs false
set_option maxRecDepth 20000
set_option maxHeartbeats 2000000

theorem pc_flat : FlatT Try.prog 56 8 := ⟨⟨_, Try.underlying56, rfl⟩, by kernel_rfl⟩
def pcZ : List Value := [.int .i64 0, .int .i64 0, .int .i64 0, .int .i64 0, .int .i64 0, .int .i64 0, .int .i64 0, .int .i64 0]
def pcI (p : Pc) : List Int := [p.node, p.x, p.y, p.w, p.h, p.from_, p.to_, p.line]
theorem rowAligns_any (zs : List Int) (hl : zs.length = 256) (l : List Int) (A : Option Addr) (c : Nat) (a : Int) (W : World) (hR : Row W W.heap.size A (i64s l)) (hn : l.length ≤ 9223372036854775807) :
    Calls Try.prog 13 #[.agg (i64s zs).toArray, .slice A l.length c, .int .i64 a] W fun e w' => e = .returned (.bool true) ∧ Below W.heap.size W w' := by
  have HL := Lib.hid hl
  have HR := Lib.hid hR
  have YL := Lib.hid (tameM_length zs true hl)
  have TA := Lib.hid (tame_any zs hl true)
  have RS := runsL_size l
  have RU := Lib.hid (fun (w : World) (hb : Below W.heap.size W w) => runs_any l A c w ((HR.out.below hb).more hb.size) hn)
  have M0 := Lib.hid (Whole.mk W 37 (i64s zs).toArray)
  have HB0 := Lib.hid ((Below.refl W.heap.size W).alloc (Nat.le_refl _) (.cells (i64s zs).toArray 37))
  have z0 := M0.out.size
  have k12 : ∀ x : Int, bits .and .i64 x 4095 = x % 4096 := fun x => and_mask_i64 x 12 (by decide)
  have ha : 0 ≤ a % 4096 ∧ a % 4096 < 4096 := by omega
  clear hl hR
  generalize tameM zs true = ys at *
  generalize runsL l = rs at *
  obtain ⟨hlen, hsz⟩ := RS
  go_enter Try.func13, Try.ntmps13
  go_wp2_with (first | (refine flat_load met_flat (.tmp 3) rfl rfl W.heap.size rfl zs HL.out 37 ?_ ?_; (focus (exact M0.out))))
  refine (TA.out _).mono ?_
  rintro e w1 ⟨rfl, b1⟩
  have M1 := Lib.hid (M0.out.under b1 z0)
  have HB1 := Lib.hid (HB0.out.trans (b1.mono (by omega)))
  have z1 := M1.out.size
  clear b1 M0 HB0 TA z0
  go_upto_region 2 with (first
    | (refine flat_store met_flat (.tmp 3) (.tmp 21) rfl rfl W.heap.size rfl ys YL.out rfl 37 zs ?_ HL.out ?_; (focus (exact M1.out)); intro w2 h2 o2; have M2 := Lib.hid h2; have HB2 := Lib.hid (HB1.out.trans (o2.below (by simp) (by omega))); clear h2 o2 M1 HB1 z1))
  generalize a % 4096 = av at *
  obtain ⟨f1, f2, f3, f4, f5⟩ := aligns_facts ys rs av (by omega)
  have hPl := Lib.hid (fun (al : Int) (A1 : Option Addr) (c1 : Nat) (w : World) (hR : Row w w.heap.size A1 (rCells rs)) => place_any ys YL.out rs A1 c1 av 1280 al (by omega) w hR (by omega) (by omega))
  have hP0 := hPl.out 0
  have hP1 := hPl.out 1
  have hP2 := hPl.out 2
  unfold PlacePost at hP0 hP1 hP2
  rw [f3, f1] at hP1
  rw [f4, f2] at hP2
  simp only [List.length_map] at hP1 hP2
  have P0C := Lib.hid hP0
  have P1C := Lib.hid hP1
  have P2C := Lib.hid hP2
  clear f1 f2 f3 f4 hP0 hP1 hP2 hPl
  generalize placeZ ys rs av 1280 0 = Z at *
  obtain ⟨ps, h⟩ := Z
  simp only at P0C P1C P2C f5
  have F5 := Lib.hid f5
  clear f5
  go_wp2_with fail
  refine (RU.out _ HB2.out).mono ?_
  rintro e w3 ⟨A1, c1, rfl, ho, hb3⟩
  have z2 := M2.out.size
  have HS : Hid (RnSt W w3 W.heap.size ys A1 rs.length c1 rs) := Lib.hid ⟨own_base ho (by omega), M2.out.under hb3 z2, HB2.out.trans (hb3.mono (by omega))⟩
  clear ho hb3 M2 HB2 RU z2
  go_wp2_with (first | (refine flat_load met_flat (.tmp 3) rfl rfl W.heap.size rfl ys YL.out 37 ?_ ?_; (focus (exact HS.out.met))))
  refine (P0C.out _ _ _ HS.out.row).mono ?_
  rintro e w4 ⟨A4, c4, rfl, ho4, hb4⟩
  have HS4 := Lib.hid (HS.out.behind hb4)
  have R4 := Lib.hid (row_of_own ho4)
  have hpl : ps.length ≤ 9223372036854775807 := by
    obtain ⟨A', c', hv, q1, q2, -⟩ := owns_nil ho4
    unfold maxLen at q2
    omega
  clear ho4 hb4 HS P0C
  go_wp2_with (first | (refine flat_load met_flat (.tmp 3) rfl rfl W.heap.size rfl ys YL.out 37 ?_ ?_; (focus (exact HS4.out.met))))
  refine (P1C.out _ _ _ HS4.out.row).mono ?_
  rintro e w6 ⟨A6, c6, rfl, ho6, hb6⟩
  have HS6 := Lib.hid (HS4.out.behind hb6)
  have R46 := Lib.hid ((R4.out.below hb6).more hb6.size)
  have R6 := Lib.hid (row_of_own ho6)
  clear ho6 hb6 HS4 P1C R4
  go_wp2_with (first | (refine flat_load met_flat (.tmp 3) rfl rfl W.heap.size rfl ys YL.out 37 ?_ ?_; (focus (exact HS6.out.met))))
  refine (P2C.out _ _ _ HS6.out.row).mono ?_
  rintro e w7 ⟨A7, c7, rfl, ho7, hb7⟩
  have HS7 := Lib.hid (HS6.out.behind hb7)
  have RA := Lib.hid ((R46.out.below hb7).more hb7.size)
  have RB := Lib.hid ((R6.out.below hb7).more hb7.size)
  have RC := Lib.hid (row_of_own ho7)
  have LOW := Lib.hid HS7.out.low
  clear ho7 hb7 HS6 P2C R46 R6 k12 HS7
  have z7 := LOW.out.size
  go_wp2
  go_loopw [14] (fun v14 wx => ∃ (q : Nat), v14 = .int .i64 q ∧ q ≤ ps.length ∧ Below w7.heap.size w7 wx) (fun v14 _ => ps.length - (intOf v14).toNat)
  case atStart => exact ⟨0, rfl, Nat.zero_le _, Below.refl _ _⟩
  case round =>
    obtain ⟨q, rfl, hq, hB⟩ := hrel
    have HB := Lib.hid hB
    clear hB
    by_cases hql : q < ps.length
    · have hqi : (q : Int) < ps.length := by omega
      obtain ⟨hx1, hx3, hx13⟩ := F5.out ps[q] (List.getElem_mem hql)
      have HXQ : Hid (∃ x, ps[q] = x) := Lib.hid ⟨_, rfl⟩
      have RQ := Lib.hid (fun (w : World) (hb : Below w7.heap.size w7 w) => (RA.out.below hb).pc hql)
      have BQ := Lib.hid (fun (w : World) (hb : Below w7.heap.size w7 w) => (RB.out.below hb).pc (i := q) (by rw [List.length_map]; exact hql))
      have CQ := Lib.hid (fun (w : World) (hb : Below w7.heap.size w7 w) => (RC.out.below hb).pc (i := q) (by rw [List.length_map]; exact hql))
      simp only [List.getElem_map, moveP, freeZ] at BQ CQ
      have RJ := Lib.hid (fun (w : World) (hb : Below w7.heap.size w7 w) (j : Nat) (hj : j < ps.length) => (RA.out.below hb).pc hj)
      have ES := Lib.hid (fun ln j hj => endK_step ps ln j hj)
      have EB := Lib.hid (fun ln j => endK_bd ps ln j 4611686018427387904 (by decide) (fun p hp => (F5.out p hp).2.2))
      have E0 := Lib.hid (endK_zero ps ps[q].line)
      generalize hxx : ps[q] = x at *
      clear HXQ hxx
      obtain ⟨x0, x1, x2, x3, x4, x5, x6, x7⟩ := x
      simp only at hx1 hx3 hx13 RQ BQ CQ E0
      go_wp2
      go_loopw [15, 16] (fun v15 v16 wx => ∃ (j : Nat), v15 = .int .i64 (endK ps x7 j) ∧ v16 = .int .i64 j ∧ j ≤ ps.length ∧ Below wr.heap.size wr wx) (fun _ v16 _ => ps.length - (intOf v16).toNat)
      case atStart => exact ⟨0, by rw [E0.out], rfl, Nat.zero_le _, Below.refl _ _⟩
      case round =>
        obtain ⟨j, rfl, rfl, hj, hB2⟩ := hrel
        have HB2 := Lib.hid (HB.out.trans (hB2.mono HB.out.size))
        have HC2 := Lib.hid hB2
        clear hB2
        by_cases hjl : j < ps.length
        · have hji : (j : Int) < ps.length := by omega
          obtain ⟨ad, rfl, hab, -, -, -, -, -, -, -, s7⟩ := RQ.out _ HB2.out
          obtain ⟨ad', hA', -, -, r1, -, r3, -, -, -, r7⟩ := RJ.out _ HB2.out j hjl
          injection hA' with hA'
          subst hA'
          obtain ⟨hy1, hy3, hy13⟩ := F5.out ps[j] (List.getElem_mem hjl)
          have EJ := Lib.hid (ES.out x7 j hjl)
          have EBJ := EB.out x7 j
          generalize ps[j] = y at *
          obtain ⟨y0, y1, y2, y3, y4, y5, y6, y7⟩ := y
          simp only at r1 r3 r7 hy1 hy3 hy13 EJ
          go_upto_region 15 with fail
          by_cases hyx : y7 = x7
          · have EJ2 := Lib.hid (EJ.out.trans (if_pos hyx))
            subst hyx
            have b1 : (y7 == y7) = true := by simp
            go_quiet (fail)
            have HD := Lib.hid (Below.drewN' (Below.refl wr.heap.size wr) nq)
            generalize wr.drewN nq = w4 at *
            go_upto_region 16 with fail
            have hbw : ad.block < wr.heap.size := by have := HB2.out.size; omega
            have z1 : ∀ t : Later w4.heap.size w4, t.w.cell? ⟨(ad.add (j * 8)).block, (ad.add (j * 8)).off + 1, none⟩ = some (.int .i64 y1) := fun t => ((HD.out.trans (Below.mono t.h HD.out.size)).cell (p := ⟨(ad.add (j * 8)).block, (ad.add (j * 8)).off + 1, none⟩) (by simp only [add_block]; exact hbw)).trans r1
            have z3 : ∀ t : Later w4.heap.size w4, t.w.cell? ⟨(ad.add (j * 8)).block, (ad.add (j * 8)).off + 3, none⟩ = some (.int .i64 y3) := fun t => ((HD.out.trans (Below.mono t.h HD.out.size)).cell (p := ⟨(ad.add (j * 8)).block, (ad.add (j * 8)).off + 3, none⟩) (by simp only [add_block]; exact hbw)).trans r3
            refine region_lane [] (List.range 14) [14, 15] (by kernel_rfl) (by kernel_rfl) (fun _ _ _ _ _ h => h) ?_
            simp only [pick, List.map_nil]
            refine wpQuiet_nil ⟨rfl, ?_⟩
            rw [show List.range 14 = [0, 1, 2, 3, 4, 5, 6, 7, 8, 9, 10, 11, 12, 13] from rfl]
            simp only [List.map_cons, List.map_nil, List.getD_cons_zero, List.getD_cons_succ, List.drop_succ_cons, List.drop_zero]
            refine laneO_run 14 (by kernel_rfl) ?_
            simp only [List.take_succ_cons, List.take_zero, List.drop_succ_cons, List.drop_zero]
            repeat (go_big_quiet_step (fail))
            refine wpQuiet_nil ?_
            refine laneO_end0 rfl rfl fun w5 hb0 => ?_
            have HC3 := Lib.hid (HC2.out.trans ((HD.out.trans (Below.mono hb0 HD.out.size)).mono HC2.out.size))
            clear hb0
            clear z1 z3
            go_wp2_with fail
            go_roundw
            case rel => exact ⟨j + 1, by rw [EJ2.out], by go_num, by omega, HC3.out⟩
            case measure => simp [intOf]; omega
          · have EJ2 := Lib.hid (EJ.out.trans (if_neg hyx))
            have b1 : (y7 == x7) = false := by rw [beq_eq_false_iff_ne]; exact hyx
            go_quiet (fail)
            go_wp2
            go_roundw
            case rel => exact ⟨j + 1, by rw [EJ2.out], by go_num, by omega, Below.drewN' HC2.out nq⟩
            case measure => simp [intOf]; omega
        · have hji : ¬ (j : Int) < ps.length := by omega
          obtain rfl : j = ps.length := by omega
          obtain ⟨hE0, hE1⟩ := EB.out x7 ps.length
          obtain ⟨ad, rfl, hab, s0, s1, s2, s3, s4, s5, s6, s7⟩ := RQ.out _ HB2.out
          clear EB ES E0 RJ RQ
          generalize endK ps x7 ps.length = E at *
          go_upto_region 18 with fail
          obtain ⟨F, hF⟩ : ∃ F, max (av - E) 0 = F := ⟨_, rfl⟩
          have hF0 : 0 ≤ F ∧ F ≤ 4096 := by omega
          have hxF : -9223372036854775808 ≤ x1 + F ∧ x1 + F < 9223372036854775808 := by omega
          have hxG : -9223372036854775808 ≤ x1 + F / 2 ∧ x1 + F / 2 < 9223372036854775808 := by omega
          have hq2 : F.tdiv 2 = F / 2 := Int.tdiv_eq_ediv_of_nonneg (by omega)
          simp only [hF] at BQ CQ ⊢
          clear hF hE0 hE1
          have z2 := HB2.out.size
          have hbw : ad.block < wr.heap.size := by omega
          have CQX := Lib.hid (⟨hbw, s0, s1, s2, s3, s4, s5, s6, s7⟩ : _ ∧ _ ∧ _ ∧ _ ∧ _ ∧ _ ∧ _ ∧ _ ∧ _)
          go_cut [18, 19] from 111 to 118 (fun v18 v19 wx => ∃ ga gb : Nat, v18 = .pointer (some ⟨ga, 0, none⟩) ∧ v19 = .pointer (some ⟨gb, 0, none⟩) ∧ ga ≠ gb ∧ wr.heap.size ≤ ga ∧ wr.heap.size ≤ gb ∧ Whole wx ga 56 (i64s [x0, x1, x2, x3, x4, x5, x6, x7]) ∧ Whole wx gb 56 (i64s [x0, x1, x2, x3, x4, x5, x6, x7]) ∧ Below wr.heap.size wr wx)
          case first =>
            clear BQ CQ RA RB RC HL HR YL F5 LOW HB HB2 HC2 CQX
            have u0 : ∀ o, (wr.alloc o).cell? (ad.add (q * 8)) = some (.int .i64 x0) := fun o => (World.cell?_alloc_lt wr o (ad.add (q * 8)) (by simp only [add_block]; exact hbw)).trans s0
            have v0 : ∀ o o', ((wr.alloc o).alloc o').cell? (ad.add (q * 8)) = some (.int .i64 x0) := fun o o' => (World.cell?_alloc_lt (wr.alloc o) o' (ad.add (q * 8)) (by simp only [add_block]; simp; omega)).trans (u0 o)
            have u1 : ∀ o, (wr.alloc o).cell? ⟨(ad.add (q * 8)).block, (ad.add (q * 8)).off + 1, none⟩ = some (.int .i64 x1) := fun o => (World.cell?_alloc_lt wr o ⟨(ad.add (q * 8)).block, (ad.add (q * 8)).off + 1, none⟩ (by simp only [add_block]; exact hbw)).trans s1
            have v1 : ∀ o o', ((wr.alloc o).alloc o').cell? ⟨(ad.add (q * 8)).block, (ad.add (q * 8)).off + 1, none⟩ = some (.int .i64 x1) := fun o o' => (World.cell?_alloc_lt (wr.alloc o) o' ⟨(ad.add (q * 8)).block, (ad.add (q * 8)).off + 1, none⟩ (by simp only [add_block]; simp; omega)).trans (u1 o)
            have u2 : ∀ o, (wr.alloc o).cell? ⟨(ad.add (q * 8)).block, (ad.add (q * 8)).off + 2, none⟩ = some (.int .i64 x2) := fun o => (World.cell?_alloc_lt wr o ⟨(ad.add (q * 8)).block, (ad.add (q * 8)).off + 2, none⟩ (by simp only [add_block]; exact hbw)).trans s2
            have v2 : ∀ o o', ((wr.alloc o).alloc o').cell? ⟨(ad.add (q * 8)).block, (ad.add (q * 8)).off + 2, none⟩ = some (.int .i64 x2) := fun o o' => (World.cell?_alloc_lt (wr.alloc o) o' ⟨(ad.add (q * 8)).block, (ad.add (q * 8)).off + 2, none⟩ (by simp only [add_block]; simp; omega)).trans (u2 o)
            have u3 : ∀ o, (wr.alloc o).cell? ⟨(ad.add (q * 8)).block, (ad.add (q * 8)).off + 3, none⟩ = some (.int .i64 x3) := fun o => (World.cell?_alloc_lt wr o ⟨(ad.add (q * 8)).block, (ad.add (q * 8)).off + 3, none⟩ (by simp only [add_block]; exact hbw)).trans s3
            have v3 : ∀ o o', ((wr.alloc o).alloc o').cell? ⟨(ad.add (q * 8)).block, (ad.add (q * 8)).off + 3, none⟩ = some (.int .i64 x3) := fun o o' => (World.cell?_alloc_lt (wr.alloc o) o' ⟨(ad.add (q * 8)).block, (ad.add (q * 8)).off + 3, none⟩ (by simp only [add_block]; simp; omega)).trans (u3 o)
            have u4 : ∀ o, (wr.alloc o).cell? ⟨(ad.add (q * 8)).block, (ad.add (q * 8)).off + 4, none⟩ = some (.int .i64 x4) := fun o => (World.cell?_alloc_lt wr o ⟨(ad.add (q * 8)).block, (ad.add (q * 8)).off + 4, none⟩ (by simp only [add_block]; exact hbw)).trans s4
            have v4 : ∀ o o', ((wr.alloc o).alloc o').cell? ⟨(ad.add (q * 8)).block, (ad.add (q * 8)).off + 4, none⟩ = some (.int .i64 x4) := fun o o' => (World.cell?_alloc_lt (wr.alloc o) o' ⟨(ad.add (q * 8)).block, (ad.add (q * 8)).off + 4, none⟩ (by simp only [add_block]; simp; omega)).trans (u4 o)
            have u5 : ∀ o, (wr.alloc o).cell? ⟨(ad.add (q * 8)).block, (ad.add (q * 8)).off + 5, none⟩ = some (.int .i64 x5) := fun o => (World.cell?_alloc_lt wr o ⟨(ad.add (q * 8)).block, (ad.add (q * 8)).off + 5, none⟩ (by simp only [add_block]; exact hbw)).trans s5
            have v5 : ∀ o o', ((wr.alloc o).alloc o').cell? ⟨(ad.add (q * 8)).block, (ad.add (q * 8)).off + 5, none⟩ = some (.int .i64 x5) := fun o o' => (World.cell?_alloc_lt (wr.alloc o) o' ⟨(ad.add (q * 8)).block, (ad.add (q * 8)).off + 5, none⟩ (by simp only [add_block]; simp; omega)).trans (u5 o)
            have u6 : ∀ o, (wr.alloc o).cell? ⟨(ad.add (q * 8)).block, (ad.add (q * 8)).off + 6, none⟩ = some (.int .i64 x6) := fun o => (World.cell?_alloc_lt wr o ⟨(ad.add (q * 8)).block, (ad.add (q * 8)).off + 6, none⟩ (by simp only [add_block]; exact hbw)).trans s6
            have v6 : ∀ o o', ((wr.alloc o).alloc o').cell? ⟨(ad.add (q * 8)).block, (ad.add (q * 8)).off + 6, none⟩ = some (.int .i64 x6) := fun o o' => (World.cell?_alloc_lt (wr.alloc o) o' ⟨(ad.add (q * 8)).block, (ad.add (q * 8)).off + 6, none⟩ (by simp only [add_block]; simp; omega)).trans (u6 o)
            have u7 : ∀ o, (wr.alloc o).cell? ⟨(ad.add (q * 8)).block, (ad.add (q * 8)).off + 7, none⟩ = some (.int .i64 x7) := fun o => (World.cell?_alloc_lt wr o ⟨(ad.add (q * 8)).block, (ad.add (q * 8)).off + 7, none⟩ (by simp only [add_block]; exact hbw)).trans s7
            have v7 : ∀ o o', ((wr.alloc o).alloc o').cell? ⟨(ad.add (q * 8)).block, (ad.add (q * 8)).off + 7, none⟩ = some (.int .i64 x7) := fun o o' => (World.cell?_alloc_lt (wr.alloc o) o' ⟨(ad.add (q * 8)).block, (ad.add (q * 8)).off + 7, none⟩ (by simp only [add_block]; simp; omega)).trans (u7 o)
            have u0 : ∀ o, (wr.alloc o).cell? (ad.add (q * 8)) = some (.int .i64 x0) := fun o => (World.cell?_alloc_lt wr o (ad.add (q * 8)) (by simp only [add_block]; exact hbw)).trans s0
            have v0 : ∀ o o', ((wr.alloc o).alloc o').cell? (ad.add (q * 8)) = some (.int .i64 x0) := fun o o' => (World.cell?_alloc_lt (wr.alloc o) o' (ad.add (q * 8)) (by simp only [add_block]; simp; omega)).trans (u0 o)
            have u1 : ∀ o, (wr.alloc o).cell? ⟨(ad.add (q * 8)).block, (ad.add (q * 8)).off + 1, none⟩ = some (.int .i64 x1) := fun o => (World.cell?_alloc_lt wr o ⟨(ad.add (q * 8)).block, (ad.add (q * 8)).off + 1, none⟩ (by simp only [add_block]; exact hbw)).trans s1
            have v1 : ∀ o o', ((wr.alloc o).alloc o').cell? ⟨(ad.add (q * 8)).block, (ad.add (q * 8)).off + 1, none⟩ = some (.int .i64 x1) := fun o o' => (World.cell?_alloc_lt (wr.alloc o) o' ⟨(ad.add (q * 8)).block, (ad.add (q * 8)).off + 1, none⟩ (by simp only [add_block]; simp; omega)).trans (u1 o)
            have u2 : ∀ o, (wr.alloc o).cell? ⟨(ad.add (q * 8)).block, (ad.add (q * 8)).off + 2, none⟩ = some (.int .i64 x2) := fun o => (World.cell?_alloc_lt wr o ⟨(ad.add (q * 8)).block, (ad.add (q * 8)).off + 2, none⟩ (by simp only [add_block]; exact hbw)).trans s2
            have v2 : ∀ o o', ((wr.alloc o).alloc o').cell? ⟨(ad.add (q * 8)).block, (ad.add (q * 8)).off + 2, none⟩ = some (.int .i64 x2) := fun o o' => (World.cell?_alloc_lt (wr.alloc o) o' ⟨(ad.add (q * 8)).block, (ad.add (q * 8)).off + 2, none⟩ (by simp only [add_block]; simp; omega)).trans (u2 o)
            have u3 : ∀ o, (wr.alloc o).cell? ⟨(ad.add (q * 8)).block, (ad.add (q * 8)).off + 3, none⟩ = some (.int .i64 x3) := fun o => (World.cell?_alloc_lt wr o ⟨(ad.add (q * 8)).block, (ad.add (q * 8)).off + 3, none⟩ (by simp only [add_block]; exact hbw)).trans s3
            have v3 : ∀ o o', ((wr.alloc o).alloc o').cell? ⟨(ad.add (q * 8)).block, (ad.add (q * 8)).off + 3, none⟩ = some (.int .i64 x3) := fun o o' => (World.cell?_alloc_lt (wr.alloc o) o' ⟨(ad.add (q * 8)).block, (ad.add (q * 8)).off + 3, none⟩ (by simp only [add_block]; simp; omega)).trans (u3 o)
            have u4 : ∀ o, (wr.alloc o).cell? ⟨(ad.add (q * 8)).block, (ad.add (q * 8)).off + 4, none⟩ = some (.int .i64 x4) := fun o => (World.cell?_alloc_lt wr o ⟨(ad.add (q * 8)).block, (ad.add (q * 8)).off + 4, none⟩ (by simp only [add_block]; exact hbw)).trans s4
            have v4 : ∀ o o', ((wr.alloc o).alloc o').cell? ⟨(ad.add (q * 8)).block, (ad.add (q * 8)).off + 4, none⟩ = some (.int .i64 x4) := fun o o' => (World.cell?_alloc_lt (wr.alloc o) o' ⟨(ad.add (q * 8)).block, (ad.add (q * 8)).off + 4, none⟩ (by simp only [add_block]; simp; omega)).trans (u4 o)
            have u5 : ∀ o, (wr.alloc o).cell? ⟨(ad.add (q * 8)).block, (ad.add (q * 8)).off + 5, none⟩ = some (.int .i64 x5) := fun o => (World.cell?_alloc_lt wr o ⟨(ad.add (q * 8)).block, (ad.add (q * 8)).off + 5, none⟩ (by simp only [add_block]; exact hbw)).trans s5
            have v5 : ∀ o o', ((wr.alloc o).alloc o').cell? ⟨(ad.add (q * 8)).block, (ad.add (q * 8)).off + 5, none⟩ = some (.int .i64 x5) := fun o o' => (World.cell?_alloc_lt (wr.alloc o) o' ⟨(ad.add (q * 8)).block, (ad.add (q * 8)).off + 5, none⟩ (by simp only [add_block]; simp; omega)).trans (u5 o)
            have u6 : ∀ o, (wr.alloc o).cell? ⟨(ad.add (q * 8)).block, (ad.add (q * 8)).off + 6, none⟩ = some (.int .i64 x6) := fun o => (World.cell?_alloc_lt wr o ⟨(ad.add (q * 8)).block, (ad.add (q * 8)).off + 6, none⟩ (by simp only [add_block]; exact hbw)).trans s6
            have v6 : ∀ o o', ((wr.alloc o).alloc o').cell? ⟨(ad.add (q * 8)).block, (ad.add (q * 8)).off + 6, none⟩ = some (.int .i64 x6) := fun o o' => (World.cell?_alloc_lt (wr.alloc o) o' ⟨(ad.add (q * 8)).block, (ad.add (q * 8)).off + 6, none⟩ (by simp only [add_block]; simp; omega)).trans (u6 o)
            have u7 : ∀ o, (wr.alloc o).cell? ⟨(ad.add (q * 8)).block, (ad.add (q * 8)).off + 7, none⟩ = some (.int .i64 x7) := fun o => (World.cell?_alloc_lt wr o ⟨(ad.add (q * 8)).block, (ad.add (q * 8)).off + 7, none⟩ (by simp only [add_block]; exact hbw)).trans s7
            have v7 : ∀ o o', ((wr.alloc o).alloc o').cell? ⟨(ad.add (q * 8)).block, (ad.add (q * 8)).off + 7, none⟩ = some (.int .i64 x7) := fun o o' => (World.cell?_alloc_lt (wr.alloc o) o' ⟨(ad.add (q * 8)).block, (ad.add (q * 8)).off + 7, none⟩ (by simp only [add_block]; simp; omega)).trans (u7 o)
            have WH : Hid (Whole ((wr.alloc (.cells #[.int .i64 x0, .int .i64 x1, .int .i64 x2, .int .i64 x3, .int .i64 x4, .int .i64 x5, .int .i64 x6, .int .i64 x7] 56)).alloc (.cells #[.int .i64 x0, .int .i64 x1, .int .i64 x2, .int .i64 x3, .int .i64 x4, .int .i64 x5, .int .i64 x6, .int .i64 x7] 56)).drew wr.heap.size 56 (i64s [x0, x1, x2, x3, x4, x5, x6, x7]) ∧ Whole ((wr.alloc (.cells #[.int .i64 x0, .int .i64 x1, .int .i64 x2, .int .i64 x3, .int .i64 x4, .int .i64 x5, .int .i64 x6, .int .i64 x7] 56)).alloc (.cells #[.int .i64 x0, .int .i64 x1, .int .i64 x2, .int .i64 x3, .int .i64 x4, .int .i64 x5, .int .i64 x6, .int .i64 x7] 56)).drew (wr.heap.size + 1) 56 (i64s [x0, x1, x2, x3, x4, x5, x6, x7]) ∧ Below wr.heap.size wr ((wr.alloc (.cells #[.int .i64 x0, .int .i64 x1, .int .i64 x2, .int .i64 x3, .int .i64 x4, .int .i64 x5, .int .i64 x6, .int .i64 x7] 56)).alloc (.cells #[.int .i64 x0, .int .i64 x1, .int .i64 x2, .int .i64 x3, .int .i64 x4, .int .i64 x5, .int .i64 x6, .int .i64 x7] 56)).drew) := Lib.hid (by
              have h1 := (Whole.mk wr 56 #[.int .i64 x0, .int .i64 x1, .int .i64 x2, .int .i64 x3, .int .i64 x4, .int .i64 x5, .int .i64 x6, .int .i64 x7]).made (.cells #[.int .i64 x0, .int .i64 x1, .int .i64 x2, .int .i64 x3, .int .i64 x4, .int .i64 x5, .int .i64 x6, .int .i64 x7] 56)
              have h2 := Whole.mk (wr.alloc (.cells #[.int .i64 x0, .int .i64 x1, .int .i64 x2, .int .i64 x3, .int .i64 x4, .int .i64 x5, .int .i64 x6, .int .i64 x7] 56)) 56 #[.int .i64 x0, .int .i64 x1, .int .i64 x2, .int .i64 x3, .int .i64 x4, .int .i64 x5, .int .i64 x6, .int .i64 x7]
              rw [show (wr.alloc (.cells #[.int .i64 x0, .int .i64 x1, .int .i64 x2, .int .i64 x3, .int .i64 x4, .int .i64 x5, .int .i64 x6, .int .i64 x7] 56)).heap.size = wr.heap.size + 1 by simp] at h2
              have h3 := ((Below.refl wr.heap.size wr).alloc (Nat.le_refl _) (.cells #[.int .i64 x0, .int .i64 x1, .int .i64 x2, .int .i64 x3, .int .i64 x4, .int .i64 x5, .int .i64 x6, .int .i64 x7] 56)).alloc (by simp) (.cells #[.int .i64 x0, .int .i64 x1, .int .i64 x2, .int .i64 x3, .int .i64 x4, .int .i64 x5, .int .i64 x6, .int .i64 x7] 56)
              exact ⟨h1, h2, Below.drewN' h3 1⟩)
            go_region
            all_goals go_wp2_with fail
            all_goals go_meet
            · exact ⟨wr.heap.size, wr.heap.size + 1, rfl, rfl, by omega, Nat.le_refl _, by omega, WH.out.1, WH.out.2.1, WH.out.2.2⟩
            · exact ⟨wr.heap.size + 1, wr.heap.size, rfl, rfl, by omega, by omega, Nat.le_refl _, WH.out.2.1, WH.out.1, WH.out.2.2⟩
          case rest =>
            clear s0 s1 s2 s3 s4 s5 s6 s7 CQX
            obtain ⟨ga, gb, rfl, rfl, hne, hga, hgb, hA8, hB8, hb0⟩ := hcut
            have A8 := Lib.hid hA8
            have B8 := Lib.hid hB8
            have HB8 := Lib.hid (HB2.out.trans (Below.mono hb0 z2))
            clear hA8 hB8 hb0
            have a1 : wc.cell? ⟨ga, 1, none⟩ = some (.int .i64 x1) := A8.out.cell 1
            have af : wc.frozen? ⟨ga, 1, none⟩ = false := A8.out.free 1
            go_upto_region 20 with fail
            have A9 : Hid (Whole (wc.setCell ⟨ga, 1, none⟩ (.int .i64 (x1 + F))) ga 56 (i64s [x0, x1 + F, x2, x3, x4, x5, x6, x7])) := Lib.hid (A8.out.putNum 1 (x1 + F))
            have B9 := Lib.hid (B8.out.other (p := ⟨ga, 1, none⟩) (by show gb ≠ ga; omega) (.int .i64 (x1 + F)))
            have HB9 := Lib.hid (HB8.out.setCell (p := ⟨ga, 1, none⟩) (by show w7.heap.size ≤ ga; omega) (.int .i64 (x1 + F)))
            clear a1 af A8 B8 HB8
            generalize wc.setCell ⟨ga, 1, none⟩ (.int .i64 (x1 + F)) = w9 at *
            have b1 : w9.cell? ⟨gb, 1, none⟩ = some (.int .i64 x1) := B9.out.cell 1
            have bf : w9.frozen? ⟨gb, 1, none⟩ = false := B9.out.free 1
            go_upto_region 21 with fail
            have B10 : Hid (Whole (w9.setCell ⟨gb, 1, none⟩ (.int .i64 (x1 + F / 2))) gb 56 (i64s [x0, x1 + F / 2, x2, x3, x4, x5, x6, x7])) := Lib.hid (B9.out.putNum 1 (x1 + F / 2))
            have A10 := Lib.hid (A9.out.other (p := ⟨gb, 1, none⟩) (by show ga ≠ gb; omega) (.int .i64 (x1 + F / 2)))
            have HB10 := Lib.hid (HB9.out.setCell (p := ⟨gb, 1, none⟩) (by show w7.heap.size ≤ gb; omega) (.int .i64 (x1 + F / 2)))
            clear b1 bf A9 B9 HB9
            generalize w9.setCell ⟨gb, 1, none⟩ (.int .i64 (x1 + F / 2)) = w10 at *
            obtain ⟨adb, rfl, -, r0, r1, r2, r3, r4, r5, r6, r7⟩ := BQ.out _ HB10.out
            obtain ⟨adc, rfl, -, t0, t1, t2, t3, t4, t5, t6, t7⟩ := CQ.out _ HB10.out
            have p0 : w10.cell? ⟨ga, 0, none⟩ = some (.int .i64 x0) := A10.out.cell 0
            have p1 : w10.cell? ⟨ga, 1, none⟩ = some (.int .i64 (x1 + F)) := A10.out.cell 1
            have p2 : w10.cell? ⟨ga, 2, none⟩ = some (.int .i64 x2) := A10.out.cell 2
            have p3 : w10.cell? ⟨ga, 3, none⟩ = some (.int .i64 x3) := A10.out.cell 3
            have p4 : w10.cell? ⟨ga, 4, none⟩ = some (.int .i64 x4) := A10.out.cell 4
            have p5 : w10.cell? ⟨ga, 5, none⟩ = some (.int .i64 x5) := A10.out.cell 5
            have p6 : w10.cell? ⟨ga, 6, none⟩ = some (.int .i64 x6) := A10.out.cell 6
            have p7 : w10.cell? ⟨ga, 7, none⟩ = some (.int .i64 x7) := A10.out.cell 7
            have m0 : w10.cell? ⟨gb, 0, none⟩ = some (.int .i64 x0) := B10.out.cell 0
            have m1 : w10.cell? ⟨gb, 1, none⟩ = some (.int .i64 (x1 + F / 2)) := B10.out.cell 1
            have m2 : w10.cell? ⟨gb, 2, none⟩ = some (.int .i64 x2) := B10.out.cell 2
            have m3 : w10.cell? ⟨gb, 3, none⟩ = some (.int .i64 x3) := B10.out.cell 3
            have m4 : w10.cell? ⟨gb, 4, none⟩ = some (.int .i64 x4) := B10.out.cell 4
            have m5 : w10.cell? ⟨gb, 5, none⟩ = some (.int .i64 x5) := B10.out.cell 5
            have m6 : w10.cell? ⟨gb, 6, none⟩ = some (.int .i64 x6) := B10.out.cell 6
            have m7 : w10.cell? ⟨gb, 7, none⟩ = some (.int .i64 x7) := B10.out.cell 7
            clear BQ CQ A10 B10
            go_quiet (fail)
            go_wp2
            go_roundw
            case rel => exact ⟨q + 1, by go_num, by omega, Below.drewN' HB10.out nq⟩
            case measure => simp [intOf]; omega
    · have hqi : ¬ (q : Int) < ps.length := by omega
      go_wp2_with fail
      refine (rawake_any _).mono ?_
      rintro e w' ⟨rfl, hb⟩
      have HBE := Lib.hid ((LOW.out.trans (HB.out.mono z7)).trans (hb.mono (Nat.le_trans z7 HB.out.size)))
      clear hb
      go_wp2
      go_ret
      exact ⟨rfl, HBE.out⟩
end Go.Proofs.Ytmlnpphblicghaa
