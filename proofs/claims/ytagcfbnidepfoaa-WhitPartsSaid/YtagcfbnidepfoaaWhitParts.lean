import Derived.Test.YtagcfbnidepfoaaWhitPre
/- WhitParts answers true. -/
namespace Go.Proofs.Ytagcfbnidepfoaa
open Go Go.RowKit
set_option linter.unusedVariables false
set_option linter.unusedSimpArgs false
set_option maxRecDepth 20000
set_option maxHeartbeats 8000000

theorem int_info : (Try.prog.info? 3).map (fun i => (i.zero, i.size, i.bytes)) = some (some (.int .i64 0), 1, 8) := by kernel_rfl
theorem made_zeros (n : Nat) : (madeCells (Value.int .i64 0).cells n).toList = i64s (List.replicate n 0) := by
  apply List.ext_getElem?
  intro j
  by_cases hj : j < n
  · simp [madeCells, i64s, hj, Value.cells, Nat.mod_one]
  · simp [madeCells, i64s, hj]
theorem whitParts_any (zs : List Int) (hl : zs.length = 256) (l : List Int) (A : Option Addr) (c : Nat) (ats : List Int) (A9 : Option Addr) (c9 : Nat) (n : Int) (W : World) (hR9 : Row W W.heap.size A9 (i64s ats)) (hn9 : ats.length ≤ 9223372036854775807) (hR : Row W W.heap.size A (i64s l)) (hn : l.length ≤ 9223372036854775807) :
    Calls Try.prog 3 #[.agg (i64s zs).toArray, .slice A l.length c, .slice A9 ats.length c9, .int .i64 n] W fun e w' => e = .returned (.bool true) ∧ Below W.heap.size W w' := by
  have HL := Lib.hid hl
  have HR := Lib.hid hR
  have HR9 := Lib.hid hR9
  have YL := Lib.hid (tameM_length zs true hl)
  have TA := Lib.hid (tame_any zs hl true)
  have RS := runsL_size l
  have RU := Lib.hid (fun (w : World) (hb : Below W.heap.size W w) => runs_any l A c w ((HR.out.below hb).more hb.size) hn)
  have M0 := Lib.hid (Whole.mk W 24 (i64s zs).toArray)
  have HB0 := Lib.hid ((Below.refl W.heap.size W).alloc (Nat.le_refl _) (.cells (i64s zs).toArray 24))
  have z0 := M0.out.size
  have a255 : ∀ x : Int, bits .and .i64 x 255 = x % 256 := fun x => and_mask_i64 x 8 (by decide)
  have t3 : (n % 256).tmod 3 = n % 256 % 3 := Int.tmod_eq_emod_of_nonneg (by omega)
  clear hl hR hR9
  generalize tameM zs true = ys at *
  generalize runsL l = rs at *
  obtain ⟨hlen, hsz⟩ := RS
  go_enter Try.func3, Try.ntmps3
  go_wp2_with (first | (refine flat_load met_flat (.tmp 4) rfl rfl W.heap.size rfl zs HL.out 24 ?_ ?_; (focus (exact M0.out))))
  refine (TA.out _).mono ?_
  rintro e w1 ⟨rfl, b1⟩
  have M1 := Lib.hid (M0.out.under b1 z0)
  have HB1 := Lib.hid (HB0.out.trans (b1.mono (by omega)))
  have z1 := M1.out.size
  clear b1 M0 HB0 TA z0
  go_wp2_with (first
    | (refine flat_store met_flat (.tmp 4) (.tmp 22) rfl rfl W.heap.size rfl ys YL.out rfl 24 zs ?_ HL.out ?_; (focus (exact M1.out)); intro w2 h2 o2; have M2 := Lib.hid h2; have HB2 := Lib.hid (HB1.out.trans (o2.below (by simp) (by omega))); clear h2 o2 M1 HB1 z1))
  refine (RU.out _ HB2.out).mono ?_
  rintro e w3 ⟨A1, c1, rfl, ho, hb⟩
  have z2 := M2.out.size
  have M3 := Lib.hid (M2.out.under hb z2)
  have HB3 := Lib.hid (HB2.out.trans (hb.mono (by omega)))
  have R3 := Lib.hid (row_of_own ho)
  have z3 := M3.out.size
  clear ho hb M2 HB2 RU z2
  go_wp2
  generalize n % 256 % 3 = wh at *
  go_loop [9, 11] (fun s i => ∃ k : Nat, k ≤ rs.length ∧ i = .int .i64 k ∧ s = .string (catS rs k)) (fun _ i => rs.length - (intOf i).toNat)
  case atStart => exact ⟨0, Nat.zero_le _, rfl, rfl⟩
  case round =>
    obtain ⟨k, hk, rfl, rfl⟩ := hrel
    have hcz := catS_size rs k hk
    have htk := sizeAll_take rs k
    by_cases hlt : k < rs.length
    · have hki : (k : Int) < rs.length := by omega
      obtain ⟨ad, rfl, hab, r0, r1, r2, r3⟩ := R3.out.rn hlt
      have hx := text_le rs k hlt
      have HC : Hid (catS rs (k + 1) = catS rs k ++ rs[k].text) := Lib.hid (by simp [catS, List.getElem?_eq_getElem hlt])
      generalize rs[k].text = s at *
      generalize catS rs k = t at *
      have hs1 : (t ++ s).size ≤ 2000 := by rw [ByteArray.size_append]; omega
      go_wp2
      go_round
      case rel => exact ⟨k + 1, by omega, by go_num, by rw [HC.out]⟩
      case measure => simp [intOf]; omega
    · have hki : ¬ (k : Int) < rs.length := by omega
      have hs4 : (catS rs k).size ≤ 432 := by omega
      have hbs : True := trivial
      generalize catS rs k = s at *
      have HBS := Lib.hid hbs
      clear hcz htk t3 hbs
      have P0 : Hid (RRow W w3 W.heap.size ys none 0 0 []) := Lib.hid ⟨World.ownsRow_nil _ _ _ _, M3.out, HB3.out⟩
      go_upto_block 2 with fail
      go_cut [12, 13, 14, 15] from 42 to 75 (fun p r i u wx => ∃ (k : Nat) (ps : List Rn) (B : Option Addr) (d : Nat) (t : ByteArray), k ≤ 8 ∧ p = .slice B k d ∧ r = .string t ∧ RRow W wx W.heap.size ys B k d ps ∧ Hid (∀ x ∈ ps, x.white = wh) ∧ Hid (catR ps ++ bytesOf t = bytesOf s))
      case first =>
        go_wp2_with fail
        go_loopw [12, 13, 14] (fun p r i wr => ∃ (k : Nat) (ps : List Rn) (B : Option Addr) (d : Nat) (t : ByteArray), k ≤ ats.length ∧ k ≤ 8 ∧ i = .int .i64 k ∧ p = .slice B k d ∧ r = .string t ∧ RRow W wr W.heap.size ys B k d ps ∧ Hid (∀ x ∈ ps, x.white = wh) ∧ Hid (catR ps ++ bytesOf t = bytesOf s)) (fun _ _ i _ => 8 - (intOf i).toNat)
        case atStart => exact ⟨0, [], none, 0, s, Nat.zero_le _, by omega, rfl, rfl, rfl, P0.out, Lib.hid (by simp), Lib.hid rfl⟩
        case round =>
          clear P0
          obtain ⟨k, ps, B, d, t, hk, hk8, rfl, rfl, rfl, hS, HW, HC⟩ := hrel
          have HS := Lib.hid hS
          have zS := hS.size
          have hts : t.size ≤ 432 := by
            have := congrArg List.length HC.out
            rw [List.length_append, bytesOf_length, bytesOf_length] at this
            omega
          by_cases hk1 : k < ats.length
          · have hki : (k : Int) < ats.length := by omega
            by_cases hk2 : k < 8
            · have hki2 : (k : Int) < 8 := by omega
              by_cases ht0 : t.size = 0
              · have g0 : (t.toList == []) = true := by
                  rw [ByteArray.toList_eq, List.eq_nil_of_length_eq_zero (l := t.data.toList) ht0]; rfl
                clear hS ht0
                go_wp2
                go_meet
                case rel => exact ⟨k, ps, B, d, t, by omega, rfl, rfl, HS.out, HW, HC⟩
              · have g0 : (t.toList == []) = false := by
                  rw [beq_eq_false_iff_ne]
                  intro e
                  rw [ByteArray.toList_eq] at e
                  have h2 : t.data.toList.length = t.size := rfl
                  rw [e] at h2
                  exact ht0 h2.symm
                obtain ⟨ad9, hA9, hab9, hc9⟩ := (HR9.out.below (hS.low.mono (Nat.le_refl _))).int hk1
                subst hA9
                generalize ats[k] = a at *
                obtain ⟨kk, hkk, hkl⟩ := mod_nat (a % 256) ((t.size : Int) + 1) (by omega)
                have tt : (a % 256).tmod ((t.size : Int) + 1) = (kk : Int) := by rw [Int.tmod_eq_emod_of_nonneg (by omega)]; exact hkk
                have hkt : kk ≤ t.size := by omega
                have hkt2 : (kk : Int) ≤ (t.size : Int) := by omega
                have HC2 := Lib.hid (cut_step ps t kk hkt wh _ HC.out)
                have HW2 := Lib.hid (white_push HW.out (t.extract 0 kk))
                clear hS ht0 hkk hkl
                go_wp2_with (at_builtin; refine wpList_new rfl (.tmp 65) (.tmp 71) _ rfl (W.heap.size + 1) 31 4 40 (.agg #[.int .i64 0, .string ByteArray.empty, .int .i64 0, .int .i64 0]) Try.underlying28 rn_info rfl (by decide) _ _ _ _ rfl HS.out.own rfl ⟨by omega, by unfold maxLen; omega, by omega⟩ rfl (by simp [Value.oneCell']) ?_; intro A3 c3' w9 hown3 hb3; have HP9 := Lib.hid (HS.out.pushed ⟨0, t.extract 0 kk, wh, 0⟩ hb3 hown3); clear hown3 hb3)
                go_roundw
                case rel => exact ⟨k + 1, _, A3, c3', _, by omega, by omega, by go_num, rfl, rfl, HP9.out, HW2, HC2⟩
                case measure => simp [intOf]; omega
            · have hki2 : ¬ (k : Int) < 8 := by omega
              clear hS
              go_wp2
              go_meet
              case rel => exact ⟨k, ps, B, d, t, by omega, rfl, rfl, HS.out, HW, HC⟩
          · have hki : ¬ (k : Int) < ats.length := by omega
            clear hS
            go_wp2
            go_meet
            case rel => exact ⟨k, ps, B, d, t, by omega, rfl, rfl, HS.out, HW, HC⟩
      case rest =>
        clear P0
        obtain ⟨k, ps, B, d, t, hk8, rfl, rfl, hS, HW, HC⟩ := hcut
        have HS := Lib.hid hS
        have zS := hS.size
        have hts : t.size ≤ 432 := by
          have := congrArg List.length HC.out
          rw [List.length_append, bytesOf_length, bytesOf_length] at this
          omega
        have HW2 := Lib.hid (white_push HW.out t)
        have HC2 := Lib.hid (show catR (ps ++ [⟨0, t, wh, 0⟩]) = bytesOf s by rw [catR_push]; exact HC.out)
        clear hS HW HC
        go_upto_region 18 with (at_builtin; refine wpList_new rfl (.tmp 76) (.tmp 80) _ rfl (W.heap.size + 1) 31 4 40 (.agg #[.int .i64 0, .string ByteArray.empty, .int .i64 0, .int .i64 0]) Try.underlying28 rn_info rfl (by decide) _ _ _ _ rfl HS.out.own rfl ⟨by omega, by unfold maxLen; omega, by omega⟩ rfl (by simp [Value.oneCell']) ?_; intro A4 c4 w4 hown3 hb3; have P4 := Lib.hid (HS.out.pushed ⟨0, t, wh, 0⟩ hb3 hown3); clear hown3 hb3)
        generalize ps ++ [⟨0, t, wh, 0⟩] = qs at *
        have hql := P4.out.len
        have z4 := P4.out.size
        have hqz : sizeAll qs ≤ 432 := by
          have := congrArg List.length HC2.out
          rw [catR_length, bytesOf_length] at this
          omega
        have HE := Lib.hid (glyphsL_parted ys wh qs ⟨0, s, wh, 0⟩ rfl HW2.out HC2.out.symm)
        have C1 := Lib.hid (glyphs_told ys YL.out [⟨0, s, wh, 0⟩] (by simp) (by simp [sizeAll]; omega))
        have C2 := Lib.hid (glyphs_told ys YL.out qs (by omega) (by omega))
        have hl1 := glyphsL_length ys qs
        have HIN := Lib.hid (glyphsL_in ys qs)
        generalize glyphsL ys [⟨0, s, wh, 0⟩] = L1 at *
        generalize glyphsL ys qs = L2 at *
        have hL1 : L1.length = L2.length := by rw [HE.out, List.length_map]
        have hL2 : L2.length ≤ 1000 := by omega
        clear hl1 HW2 HC2 HS
        refine region_lane [] [0, 1, 2, 3, 4, 5, 6, 7, 8] [9, 10] (by kernel_rfl) (by kernel_rfl) (fun _ _ _ _ _ h => h) ?_
        simp only [pick, List.map_nil]
        refine wpQuiet_nil ⟨rfl, ?_⟩
        simp only [List.map_cons, List.map_nil, List.getD_cons_zero, List.getD_cons_succ, List.drop_succ_cons, List.drop_zero]
        refine laneO_fixed (v := .agg (i64s ys).toArray) (by kernel_rfl) (fun w hw => .inl ⟨by rfl, flat_gives met_flat (.tmp 4) rfl W.heap.size rfl ys YL.out 24 (P4.out.met.under hw z4)⟩) ?_
        simp only [Act.put, List.setIfInBounds_toArray, List.set_cons_zero, List.set_cons_succ]
        refine laneO_run 2 (by kernel_rfl) ?_
        simp only [List.take_succ_cons, List.take_zero, List.drop_succ_cons, List.drop_zero]
        repeat (go_big_quiet_step (fail))
        refine wpQuiet_nil ?_
        refine laneO_fixed (v := .agg #[.int .i64 0, .string s, .int .i64 wh, .int .i64 0]) (by kernel_rfl) (fun w hw => .inl ⟨by rfl, ?_⟩) ?_
        · unfold gives
          simp [go_sem]
          exact Behind.refl w
        simp only [Act.put, List.setIfInBounds_toArray, List.set_cons_zero, List.set_cons_succ]
        refine laneO_told (madeT 1 31 [.int .i64 0, .string s, .int .i64 wh, .int .i64 0]) (madeT_steady _ _ _) (by kernel_rfl) rfl (fun w hw => .inl ⟨by rfl, ?_⟩) ?_
        · unfold gives
          simp [go_sem]
          exact madeT_new 1 31 #[.int .i64 0, .string s, .int .i64 wh, .int .i64 0] w
        refine laneO_callT (glT L1) (glT_steady _) rfl rfl (by rfl) (by rfl) Try.func10 (by kernel_rfl) rfl (fun a' w hw hm => ?_) ?_
        · have h82 := hm 82 (by simp)
          have h86 := hm 86 (by simp)
          have e1 : a'.eval (.tmp 82) = .agg (i64s ys).toArray := h82
          obtain ⟨gq, e2, hq⟩ := h86
          have e3 : a'.eval (.tmp 86) = .slice (some ⟨gq, 0, none⟩) 1 1 := e2
          simp only [List.map_toArray, List.map_cons, List.map_nil, e1, e3]
          exact C1.out _ w (one_row hq)
        refine laneO_fixed (v := .agg (i64s ys).toArray) (by kernel_rfl) (fun w hw => .inl ⟨by rfl, flat_gives met_flat (.tmp 4) rfl W.heap.size rfl ys YL.out 24 (P4.out.met.under hw z4)⟩) ?_
        simp only [Act.put, List.setIfInBounds_toArray, List.set_cons_zero, List.set_cons_succ]
        refine laneO_run 1 (by kernel_rfl) ?_
        simp only [List.take_succ_cons, List.take_zero, List.drop_succ_cons, List.drop_zero]
        repeat (go_big_quiet_step (fail))
        refine wpQuiet_nil ?_
        refine laneO_callT (glT L2) (glT_steady _) rfl rfl (by rfl) (by rfl) Try.func10 (by kernel_rfl) rfl (fun a' w hw hm => ?_) ?_
        · have h88 := hm 88 (by simp)
          have h89 := hm 89 (by simp)
          have e1 : a'.eval (.tmp 88) = .agg (i64s ys).toArray := h88
          have e2 : a'.eval (.tmp 89) = .slice A4 (k + 1) c4 := h89
          simp only [List.map_toArray, List.map_cons, List.map_nil, e1, e2]
          exact C2.out _ w ⟨A4, c4, by rw [hql], (P4.out.behind hw).row⟩
        refine laneO_end (by simp) rfl rfl rfl fun w5 hb0 => ?_
        rintro x4 ⟨A6, c6, rfl, RB⟩ x2 ⟨A5, c5, rfl, RA⟩ x1 -
        simp only [Act.put, List.setIfInBounds_toArray, List.set_cons_zero, List.set_cons_succ, fillAll]
        have HP5 := Lib.hid (P4.out.behind hb0)
        have HRA := Lib.hid RA
        have HRB := Lib.hid RB
        have z5 := HP5.out.size
        rw [hL1]
        obtain ⟨n2, hn2⟩ : ∃ m, m = L2.length := ⟨_, rfl⟩
        rw [← hn2]
        have HN2 := Lib.hid hn2
        have HL1 := Lib.hid hL1
        have hn2k : n2 ≤ 1000 := by omega
        obtain ⟨kq, hkq⟩ : ∃ m, m = k + 1 := ⟨_, rfl⟩
        rw [← hkq] at HP5 hql ⊢
        have hkq9 : kq ≤ 9 := by omega
        have HQ := Lib.hid hql
        clear hb0 RA RB C1 C2 hL1 hn2 hkq hql P4 z4 hL2 zS
        have HRQ := Lib.hid HP5.out.row
        have HB5 := Lib.hid (HP5.out.low.mono (Nat.le_refl _))
        obtain ⟨ii, hi1, hi2, hi3, hi4⟩ := info_parts int_info
        obtain ⟨w6, hrun, hown6, hgr6⟩ := run_make_full (P := Try.prog) (w := w5) w5.heap.size 26 3 ii (.int .i64 0) 1 Try.underlying26 hi1 hi2 hi3 .i64 .i64 (kq + 1) (by rw [hi4]; omega) (by unfold maxLen; omega) (Nat.le_refl _)
        rw [show ((kq + 1 : Nat) : Int) = (kq : Int) + 1 by omega] at hrun
        have O6 := Lib.hid (show w6.ownsRow w5.heap.size 3 1 (.slice (some ⟨w5.heap.size, 0, none⟩) (kq + 1) (kq + 1)) (kq + 1) (i64s (fromL qs 0)) by
          rw [fromL_zero, HQ.out]
          have e : (madeCells (Value.int .i64 0).cells ((kq + 1) * 1)).toList = i64s (List.replicate (kq + 1) 0) := by
            rw [Nat.mul_one]
            exact made_zeros (kq + 1)
          rw [← e]
          exact hown6)
        have HB6 := Lib.hid (show Below w5.heap.size w5 w6 from (Below.refl w5.heap.size w5).grown hgr6 (Nat.le_refl _) fun k hk => by cases hk)
        clear hown6 hgr6 hi1 hi2 hi3 hi4
        go_wp2
        clear hrun
        go_loopw [19] (fun i wr => ∃ j : Nat, j ≤ kq ∧ i = .int .i64 j ∧ Below w5.heap.size w5 wr ∧ wr.ownsRow w5.heap.size 3 1 (.slice (some ⟨w5.heap.size, 0, none⟩) (kq + 1) (kq + 1)) (kq + 1) (i64s (fromL qs j))) (fun i _ => kq - (intOf i).toNat)
        case atStart => exact ⟨0, Nat.zero_le _, rfl, HB6.out, O6.out⟩
        case round =>
          clear HB6 O6
          obtain ⟨j, hj, rfl, hB, hO⟩ := hrel
          have HB := Lib.hid hB
          have HO := Lib.hid hO
          have zO : w5.heap.size < wr.heap.size := (hO.lt w5.heap.size rfl).2
          by_cases hjk : j < kq
          · have hji : (j : Int) < kq := by omega
            have hjl : j < qs.length := by have := HQ.out; omega
            have hj1 : j + 1 < kq + 1 := by omega
            have HF := Lib.hid (fun (w : World) (ho : w.ownsRow w5.heap.size 3 1 (.slice (some ⟨w5.heap.size, 0, none⟩) (kq + 1) (kq + 1)) (kq + 1) (i64s (fromL qs j))) => show w.cell? ⟨w5.heap.size, j, none⟩ = some (.int .i64 (sizeAll (qs.take j))) by
              rw [ho.cellAt j (by omega)]; exact i64s_at (fromL_at qs j j (Nat.le_refl _) (by omega)))
            have HF1 := Lib.hid (fun (w : World) (ho : w.ownsRow w5.heap.size 3 1 (.slice (some ⟨w5.heap.size, 0, none⟩) (kq + 1) (kq + 1)) (kq + 1) (i64s (fromL qs j))) => show ∃ z : Int, w.cell? ⟨w5.heap.size, j + 1, none⟩ = some (.int .i64 z) by
              rw [ho.cellAt (j + 1) (by omega)]; exact ⟨_, i64s_at (List.getElem?_eq_getElem (by rw [fromL_length]; omega))⟩)
            have HTS := Lib.hid (take_size qs j hjl)
            have HST := Lib.hid (fromL_step qs j hjl)
            have hx := text_le qs j hjl
            have htz := sizeAll_take qs j
            obtain ⟨ad, hA, hab, -, -, -, -⟩ := (HRQ.out.below hB).rn hjl
            subst hA
            have KT : ∀ sw : Later wr.heap.size wr, sw.w.cell? ⟨(ad.add (j * 4)).block, (ad.add (j * 4)).off + 1, none⟩ = some (.string qs[j].text) := fun sw => by
              obtain ⟨ad', hA', -, -, q1, -, -⟩ := (HRQ.out.below (HB.out.trans (Below.mono sw.h (by omega)))).rn hjl
              injection hA' with hA'
              subst hA'
              exact q1
            have KF : ∀ sw : Later wr.heap.size wr, sw.w.cell? ⟨w5.heap.size, j, none⟩ = some (.int .i64 (sizeAll (qs.take j))) := fun sw => HF.out _ (own_below HO.out sw.h (Nat.le_refl _))
            generalize qs[j].text = tx at *
            generalize sizeAll (qs.take j) = sj at *
            clear hB hO
            go_upto_region 25 with fail
            refine region_lane [] (List.range 15) [15] (by kernel_rfl) (by kernel_rfl) (fun _ _ _ _ _ h => h) ?_
            simp only [pick, List.map_nil]
            refine wpQuiet_nil ⟨rfl, ?_⟩
            rw [show List.range 15 = [0, 1, 2, 3, 4, 5, 6, 7, 8, 9, 10, 11, 12, 13, 14] from rfl]
            simp only [List.map_cons, List.map_nil, List.getD_cons_zero, List.getD_cons_succ, List.drop_succ_cons, List.drop_zero]
            refine laneO_run 12 (by kernel_rfl) ?_
            simp only [List.take_succ_cons, List.take_zero, List.drop_succ_cons, List.drop_zero]
            repeat (go_big_quiet_step (fail))
            refine wpQuiet_nil ?_
            refine laneO_fixed (v := .int .i64 tx.size) (by kernel_rfl) (fun w hw => .inl ⟨by rfl, gives_len (.tmp 117) 9 rfl Try.underlying9 tx rfl⟩) ?_
            simp only [Act.put, List.setIfInBounds_toArray, List.set_cons_zero, List.set_cons_succ]
            refine laneO_run 2 (by kernel_rfl) ?_
            simp only [List.take_succ_cons, List.take_zero, List.drop_succ_cons, List.drop_zero]
            repeat (go_big_quiet_step (fail))
            refine wpQuiet_nil ?_
            refine laneO_end0 rfl rfl fun w7 hb0 => ?_
            have O7 := Lib.hid (own_below HO.out hb0 (Nat.le_refl _))
            have HB7 := Lib.hid (HB.out.trans (Below.mono hb0 (by omega)))
            obtain ⟨zq, k1⟩ := HF1.out _ O7.out
            have f1 := O7.out.frozenAt (j + 1)
            have hst := (O7.out.stored (j + 1) (.int .i64 ((sj : Int) + tx.size))).1
            rw [flat_set, ← HTS.out, HST.out, HTS.out] at hst
            have O8 := Lib.hid hst
            have HB8 := Lib.hid (HB7.out.setCell (p := ⟨w5.heap.size, j + 1, none⟩) (Nat.le_refl _) (.int .i64 ((sj : Int) + tx.size)))
            clear hb0 hst KT KF O7 HB7 HO HB
            go_wp2
            go_roundw
            case rel => exact ⟨j + 1, by omega, by go_num, HB8.out, O8.out⟩
            case measure => simp [intOf]; omega
          · have hje : j = kq := by omega
            have hji : ¬ (j : Int) < kq := by omega
            subst hje
            have HFA := Lib.hid (fun (r : Nat) (hr : r < qs.length) (w : World) (ho : w.ownsRow w5.heap.size 3 1 (.slice (some ⟨w5.heap.size, 0, none⟩) (j + 1) (j + 1)) (j + 1) (i64s (fromL qs j))) => show w.cell? ⟨w5.heap.size, r, none⟩ = some (.int .i64 (sizeAll (qs.take r))) by
              have := HQ.out
              rw [ho.cellAt r (by omega)]; exact i64s_at (fromL_at qs j r (by omega) (by omega)))
            have RA8 := Lib.hid ((HRA.out.below hB).more hB.size)
            have RB8 := Lib.hid ((HRB.out.below hB).more hB.size)
            have HB8 := Lib.hid (HB5.out.trans (hB.mono (by omega)))
            clear hB hO HB HRA HRB HRQ HP5
            generalize wr = w8 at *
            have z8 := HB8.out.size
            generalize w5.heap.size = gf at *
            go_wp2
            go_loopw [20] (fun i wr => ∃ q : Nat, q ≤ n2 ∧ i = .int .i64 q ∧ Below w8.heap.size w8 wr) (fun i _ => n2 - (intOf i).toNat)
            case atStart => exact ⟨0, Nat.zero_le _, rfl, Below.refl _ _⟩
            case round =>
              obtain ⟨q, hq, rfl, hB⟩ := hrel
              have HB := Lib.hid hB
              have zB := hB.size
              by_cases hql : q < n2
              · have hqi : (q : Int) < n2 := by omega
                have hqb : q < L2.length := by rw [← HN2.out]; exact hql
                have hqa : q < L1.length := by rw [HL1.out]; exact hqb
                have hxq : L1[q] = movedG (startR qs) L2[q] := by rw [List.getElem_of_eq HE.out hqa, List.getElem_map]
                obtain ⟨r, ix, hr, hix, e1, e2, e3, e4, -, -, -⟩ := inRuns_what (HIN.out _ (List.getElem_mem hqb))
                have htl := text_le qs r hr
                have hstk := sizeAll_take qs r
                have hri : (r : Int) < j := by have := HQ.out; omega
                have cF := HFA.out r hr wr (own_below HO.out hB (Nat.le_refl _))
                obtain ⟨ad, rfl, hab, r0, r1, r2, r3⟩ := (RA8.out.below hB).gl hqa
                obtain ⟨ad', rfl, hab', p0, p1, p2, p3⟩ := (RB8.out.below hB).gl hqb
                rw [hxq] at r0 r2 r3
                have hsr : startR qs (r : Int) = sizeAll (qs.take r) := by simp [startR]
                simp only [movedG] at r0 r2 r3
                rw [e1, e2, hsr] at r2
                rw [e1] at p1
                rw [e2] at p2
                generalize L2[q].kind = y0 at *
                generalize L2[q].adv = y3 at *
                generalize qs[r].text.size = zt at *
                generalize sizeAll (qs.take r) = sr at *
                clear hB r1 e1 e2 e3 e4 hxq hsr
                have d0 : decide ((j : Int) ≤ (r : Int)) = false := decide_eq_false (by omega)
                have d1 : decide (j ≤ r) = false := decide_eq_false (by omega)
                have d2 : (r : Int) < (j : Int) + 1 := by omega
                have d3 : (r : Int) < ((j + 1 : Nat) : Int) := by omega
                have d4 : r < j + 1 := by omega
                have d5 : decide ((r : Int) < 0) = false := decide_eq_false (by omega)
                have d6 : (0 : Int) ≤ (r : Int) := by omega
                have d7 : (sr : Int) + (ix : Int) ≤ 1000 := by omega
                have d8 : IntKind.i64.wrap ((sr : Int) + (ix : Int)) = (sr : Int) + (ix : Int) := by rw [IntKind.wrap_i64]; omega
                go_upto_region 29 with fail
                go_quiet (fail)
                go_wp2
                go_roundw
                case rel => exact ⟨q + 1, by omega, by go_num, Below.drewN' HB.out nq⟩
                case measure => simp [intOf]; omega
              · have hqi : ¬ (q : Int) < n2 := by omega
                go_wp2_with fail
                refine (wawake_any _).mono ?_
                rintro e w9 ⟨rfl, b9⟩
                have HB9 := Lib.hid (HB8.out.trans ((HB.out.trans (b9.mono zB)).mono z8))
                clear b9 hB
                go_wp2
                go_ret
                exact ⟨rfl, HB9.out⟩
end Go.Proofs.Ytagcfbnidepfoaa
