import Derived.Test.YtaclelponplooaaGaugLaw
/- GaugTells answers true. -/
namespace Go.Proofs.Ytaclelponplooaa
open Go Go.RowKit
set_option linter.unusedVariables false
set_option linter.unusedSimpArgs false
set_option maxRecDepth 20000
set_option maxHeartbeats 4000000

theorem gaugTells_any (zs : List Int) (hl : zs.length = 256) (s : ByteArray) (n : Int) (hn : -9223372036854775808 ≤ n) (hn' : n ≤ 9223372036854775807) (W : World) :
    Calls Try.prog 4 #[.agg (i64s zs).toArray, .string s, .int .i64 n] W fun e w' => e = .returned (.bool true) ∧ Below W.heap.size W w' := by
  have HL := Lib.hid hl
  clear hl
  have M0 := Lib.hid (Whole.mk W 24 (i64s zs).toArray)
  have HB0 := Lib.hid ((Below.refl W.heap.size W).alloc (Nat.le_refl _) (.cells (i64s zs).toArray 24))
  have z0 := M0.out.size
  by_cases hbig : 2000 < s.size
  · have hb2 : (2000 : Int) < s.size := by omega
    go_enter Try.func4, Try.ntmps4
    go_wp2_with fail
    refine (awake_any _).mono ?_
    rintro e w1 ⟨rfl, b1⟩
    have B1 := Lib.hid (HB0.out.trans (b1.mono (by omega)))
    clear b1
    go_wp2
    go_ret
    exact ⟨rfl, B1.out⟩
  · have hb2 : ¬ (2000 : Int) < s.size := by omega
    have hs : s.size ≤ 1000000 := by omega
    go_enter Try.func4, Try.ntmps4
    go_wp2
    generalize W.alloc (.cells (i64s zs).toArray 24) = W1 at *
    go_loopw [7] (fun i wr => ∃ (k : Nat) (ys : List Int), k ≤ 2 ∧ i = .int .i64 k ∧ ys.length = 256 ∧ Whole wr W.heap.size 24 (i64s ys) ∧ Below W.heap.size W wr) (fun i _ => 2 - (intOf i).toNat)
    case atStart => exact ⟨0, zs, Nat.zero_le _, rfl, HL.out, M0.out, HB0.out⟩
    case round =>
      obtain ⟨k, ys, hk, rfl, hy, hM, hB⟩ := hrel
      have YL := Lib.hid hy
      have HM := Lib.hid hM
      have HB := Lib.hid hB
      have zM := hM.size
      clear hy hM hB
      by_cases hlt : k < 2
      · have C1 := Lib.hid (ok_any ys YL.out)
        have C2 := Lib.hid (rok_any ys YL.out)
        have C3 := Lib.hid (wide_any ys YL.out s hs)
        have C4 := Lib.hid (rwide_any ys YL.out s hs)
        have C5 := Lib.hid (fun w => up_any n w hn hn')
        have C6 := Lib.hid (fun w => rup_any n w hn hn')
        have hki : (k : Int) < 2 := by omega
        generalize okZ ys = bo at *
        generalize wideZ ys s = vw at *
        generalize upZ n = vu at *
        go_upto_region 6 with fail
        refine region_lane [] (List.range 21) [] (by kernel_rfl) (by kernel_rfl) (fun _ _ _ _ _ h => h) ?_
        simp only [pick, List.map_nil]
        refine wpQuiet_nil ⟨rfl, ?_⟩
        rw [show List.range 21 = [0, 1, 2, 3, 4, 5, 6, 7, 8, 9, 10, 11, 12, 13, 14, 15, 16, 17, 18, 19, 20] from rfl]
        simp only [List.map_cons, List.map_nil, List.getD_cons_zero, List.getD_cons_succ, List.drop_succ_cons, List.drop_zero]
        refine laneO_fixed (v := .agg (i64s ys).toArray) (by kernel_rfl) (fun w hw => .inl ⟨by rfl, flat_gives met_flat (.tmp 3) rfl W.heap.size rfl ys YL.out 24 (HM.out.under hw zM)⟩) ?_
        simp only [Act.put, List.setIfInBounds_toArray, List.set_cons_zero, List.set_cons_succ]
        refine laneO_call (v := .bool bo) (by kernel_rfl) (by rfl) (fun C hC h0 => ?_) ?_
        focus (go_big_quiet_op; exact ⟨_, fun w hw => (C1.out w).mono fun e w' ⟨he, hb⟩ => ⟨he, hC _ _ hw hb⟩, rfl⟩)
        simp only [Act.put, List.setIfInBounds_toArray, List.set_cons_zero, List.set_cons_succ]
        refine laneO_fixed (v := .agg (i64s ys).toArray) (by kernel_rfl) (fun w hw => .inl ⟨by rfl, flat_gives met_flat (.tmp 3) rfl W.heap.size rfl ys YL.out 24 (HM.out.under hw zM)⟩) ?_
        simp only [Act.put, List.setIfInBounds_toArray, List.set_cons_zero, List.set_cons_succ]
        refine laneO_call (v := .bool bo) (by kernel_rfl) (by rfl) (fun C hC h0 => ?_) ?_
        focus (go_big_quiet_op; exact ⟨_, fun w hw => (C2.out w).mono fun e w' ⟨he, hb⟩ => ⟨he, hC _ _ hw hb⟩, rfl⟩)
        simp only [Act.put, List.setIfInBounds_toArray, List.set_cons_zero, List.set_cons_succ]
        refine laneO_run 2 (by kernel_rfl) ?_
        simp only [List.take_succ_cons, List.take_zero, List.drop_succ_cons, List.drop_zero]
        repeat (go_big_quiet_step (fail))
        refine wpQuiet_nil ?_
        refine laneO_fixed (v := .agg (i64s ys).toArray) (by kernel_rfl) (fun w hw => .inl ⟨by rfl, flat_gives met_flat (.tmp 3) rfl W.heap.size rfl ys YL.out 24 (HM.out.under hw zM)⟩) ?_
        simp only [Act.put, List.setIfInBounds_toArray, List.set_cons_zero, List.set_cons_succ]
        refine laneO_run 1 (by kernel_rfl) ?_
        simp only [List.take_succ_cons, List.take_zero, List.drop_succ_cons, List.drop_zero]
        repeat (go_big_quiet_step (fail))
        refine wpQuiet_nil ?_
        refine laneO_call (v := .int .i64 vw) (by kernel_rfl) (by rfl) (fun C hC h0 => ?_) ?_
        focus (go_big_quiet_op; exact ⟨_, fun w hw => (C3.out w).mono fun e w' ⟨he, hb⟩ => ⟨he, hC _ _ hw hb⟩, rfl⟩)
        simp only [Act.put, List.setIfInBounds_toArray, List.set_cons_zero, List.set_cons_succ]
        refine laneO_fixed (v := .agg (i64s ys).toArray) (by kernel_rfl) (fun w hw => .inl ⟨by rfl, flat_gives met_flat (.tmp 3) rfl W.heap.size rfl ys YL.out 24 (HM.out.under hw zM)⟩) ?_
        simp only [Act.put, List.setIfInBounds_toArray, List.set_cons_zero, List.set_cons_succ]
        refine laneO_run 1 (by kernel_rfl) ?_
        simp only [List.take_succ_cons, List.take_zero, List.drop_succ_cons, List.drop_zero]
        repeat (go_big_quiet_step (fail))
        refine wpQuiet_nil ?_
        refine laneO_call (v := .int .i64 vw) (by kernel_rfl) (by rfl) (fun C hC h0 => ?_) ?_
        focus (go_big_quiet_op; exact ⟨_, fun w hw => (C4.out w).mono fun e w' ⟨he, hb⟩ => ⟨he, hC _ _ hw hb⟩, rfl⟩)
        simp only [Act.put, List.setIfInBounds_toArray, List.set_cons_zero, List.set_cons_succ]
        refine laneO_run 4 (by kernel_rfl) ?_
        simp only [List.take_succ_cons, List.take_zero, List.drop_succ_cons, List.drop_zero]
        repeat (go_big_quiet_step (fail))
        refine wpQuiet_nil ?_
        refine laneO_call (v := .int .i64 vu) (by kernel_rfl) (by rfl) (fun C hC h0 => ?_) ?_
        focus (go_big_quiet_op; exact ⟨_, fun w hw => (C5.out w).mono fun e w' ⟨he, hb⟩ => ⟨he, hb ▸ hw⟩, rfl⟩)
        simp only [Act.put, List.setIfInBounds_toArray, List.set_cons_zero, List.set_cons_succ]
        refine laneO_run 1 (by kernel_rfl) ?_
        simp only [List.take_succ_cons, List.take_zero, List.drop_succ_cons, List.drop_zero]
        repeat (go_big_quiet_step (fail))
        refine wpQuiet_nil ?_
        refine laneO_call (v := .int .i64 vu) (by kernel_rfl) (by rfl) (fun C hC h0 => ?_) ?_
        focus (go_big_quiet_op; exact ⟨_, fun w hw => (C6.out w).mono fun e w' ⟨he, hb⟩ => ⟨he, hb ▸ hw⟩, rfl⟩)
        simp only [Act.put, List.setIfInBounds_toArray, List.set_cons_zero, List.set_cons_succ]
        refine laneO_run 2 (by kernel_rfl) ?_
        simp only [List.take_succ_cons, List.take_zero, List.drop_succ_cons, List.drop_zero]
        repeat (go_big_quiet_step (fail))
        refine wpQuiet_nil ?_
        refine laneO_end0 rfl rfl fun w2 hb0 => ?_
        have HM2 := Lib.hid (HM.out.under hb0 zM)
        have HB2 := Lib.hid (HB.out.trans (Below.mono hb0 (by omega)))
        have zM2 := HM2.out.size
        clear hb0 C1 C2 C3 C4 C5 C6
        go_wp2_with (first | (refine flat_load met_flat (.tmp 3) rfl rfl W.heap.size rfl ys YL.out 24 ?_ ?_; (focus (exact HM2.out))))
        refine (tame_any ys YL.out _ _).mono ?_
        rintro e w3 ⟨rfl, b3⟩
        have HM3 := Lib.hid (HM2.out.under b3 zM2)
        have HB3 := Lib.hid (HB2.out.trans (b3.mono (by omega)))
        have zM3 := HM3.out.size
        have TL := Lib.hid (tameM_length ys ((k : Int) == 0) YL.out)
        clear b3
        generalize ((k : Int) == 0) = bk at *
        generalize tameM ys bk = y2 at *
        go_wp2_with (first | (refine flat_store met_flat (.tmp 3) (.tmp 40) rfl rfl W.heap.size rfl y2 TL.out rfl 24 ys ?_ YL.out ?_; (focus (exact HM3.out)); intro w4 h4 o4; have HM4 := Lib.hid h4; have HB4 := Lib.hid (HB3.out.trans (o4.below (by simp) (by omega))); clear h4 o4))
        go_roundw
        case rel => exact ⟨k + 1, _, by omega, by go_num, TL.out, HM4.out, HB4.out⟩
        case measure => simp [intOf]; omega
      · have hki : ¬ (k : Int) < 2 := by omega
        go_wp2_with fail
        refine (awake_any _).mono ?_
        rintro e w2 ⟨rfl, b2⟩
        have HB2 := Lib.hid (HB.out.trans (b2.mono (by omega)))
        clear b2
        go_wp2
        go_ret
        exact ⟨rfl, HB2.out⟩
end Go.Proofs.Ytaclelponplooaa
