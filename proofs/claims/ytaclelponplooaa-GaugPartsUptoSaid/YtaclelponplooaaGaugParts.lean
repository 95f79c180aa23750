import Derived.Test.YtaclelponplooaaGaugLaw
/- GaugParts answers true. -/
namespace Go.Proofs.Ytaclelponplooaa
open Go Go.RowKit
set_option linter.unusedVariables false
set_option linter.unusedSimpArgs false
set_option maxRecDepth 20000
set_option maxHeartbeats 4000000

theorem gaugParts_any (zs : List Int) (hl : zs.length = 256) (s t : ByteArray) (n : Int) (hs9 : s.size ≤ 4611686018427387903) (ht9 : t.size ≤ 4611686018427387903) (W : World) :
    Calls Try.prog 5 #[.agg (i64s zs).toArray, .string s, .string t, .int .i64 n] W fun e w' => e = .returned (.bool true) ∧ Below W.heap.size W w' := by
  have HL := Lib.hid hl
  have YL := Lib.hid (tameM_length zs false hl)
  have TA := Lib.hid (tame_any zs hl false)
  clear hl
  generalize tameM zs false = ys at *
  have M0 := Lib.hid (Whole.mk W 24 (i64s zs).toArray)
  have HB0 := Lib.hid ((Below.refl W.heap.size W).alloc (Nat.le_refl _) (.cells (i64s zs).toArray 24))
  have z0 := M0.out.size
  by_cases hbig : 2000 < s.size + t.size
  · have hb2 : (2000 : Int) < s.size + t.size := by omega
    go_enter Try.func5, Try.ntmps5
    go_wp2_with fail
    refine (awake_any _).mono ?_
    rintro e w1 ⟨rfl, b1⟩
    have B1 := Lib.hid (HB0.out.trans (b1.mono (by omega)))
    clear b1
    go_wp2
    go_ret
    exact ⟨rfl, B1.out⟩
  · have hb2 : ¬ (2000 : Int) < s.size + t.size := by omega
    go_enter Try.func5, Try.ntmps5
    go_wp2_with (first | (refine flat_load met_flat (.tmp 4) rfl rfl W.heap.size rfl zs HL.out 24 ?_ ?_; (focus (exact M0.out))))
    refine (TA.out _).mono ?_
    rintro e w1 ⟨rfl, b1⟩
    have M1 := Lib.hid (M0.out.under b1 z0)
    have HB1 := Lib.hid (HB0.out.trans (b1.mono (by omega)))
    have z1 := M1.out.size
    clear b1 M0 HB0 TA z0
    have hp := Lib.hid (pow30_code n)
    have hL1 : 0 ≤ n % 1073741824 := by omega
    have hL2 : n % 1073741824 < 1073741824 := by omega
    have hU := Lib.hid (fun w => up_any (n % 1073741824) w (by omega) (by omega))
    obtain ⟨u1, u2⟩ := upZ_half (n % 1073741824) hL1
    generalize n % 1073741824 = L at *
    generalize upZ L = u at *
    go_wp2_with (first
      | (refine flat_store met_flat (.tmp 4) (.tmp 18) rfl rfl W.heap.size rfl ys YL.out rfl 24 zs ?_ HL.out ?_; (focus (exact M1.out)); intro w2 h2 o2; have M2 := Lib.hid h2; have HB2 := Lib.hid (HB1.out.trans (o2.below (by simp) (by omega))); clear h2 o2 M1 HB1 z1; rw [hp.out]))
    refine (hU.out _).mono ?_
    rintro e w' ⟨rfl, rfl⟩
    have hq : (s.size : Int).tdiv 2 = ((s.size / 2 : Nat) : Int) := by rw [Int.tdiv_eq_ediv_of_nonneg (by omega)]; omega
    have hh1 : (s.extract 0 (s.size / 2)).size ≤ 2000 := by rw [ByteArray.size_extract]; omega
    have hh2 : (s.extract (s.size / 2) s.size).size ≤ 2000 := by rw [ByteArray.size_extract]; omega
    have hst : (s ++ t).size ≤ 2000 := by rw [ByteArray.size_append]; omega
    have C1 := wide_any ys YL.out (s ++ t) (by omega)
    have C2 := wide_any ys YL.out s (by omega)
    have C3 := Lib.hid (wide_any ys YL.out t (by omega))
    have C4 := Lib.hid (wide_any ys YL.out (s.extract 0 (s.size / 2)) (by omega))
    have C5 := Lib.hid (wide_any ys YL.out (s.extract (s.size / 2) s.size) (by omega))
    have C6 := Lib.hid (wide_any ys YL.out ⟨#[]⟩ (by decide))
    rw [wideZ_empty] at C6
    rw [wideZ_append, wideZ_halves ys s (s.size / 2) (by omega)] at C1
    rw [wideZ_halves ys s (s.size / 2) (by omega)] at C2
    have hC1 := Lib.hid C1
    have hC2 := Lib.hid C2
    obtain ⟨a1, a2⟩ := wideZ_bd ys (s.extract 0 (s.size / 2))
    obtain ⟨a3, a4⟩ := wideZ_bd ys (s.extract (s.size / 2) s.size)
    obtain ⟨a5, a6⟩ := wideZ_bd ys t
    clear C1 C2
    generalize wideZ ys (s.extract 0 (s.size / 2)) = p1 at *
    generalize wideZ ys (s.extract (s.size / 2) s.size) = p2 at *
    generalize wideZ ys t = p3 at *
    have d1 : decide (0 ≤ 2 * u - L) = true := decide_eq_true u1
    have d2 : decide (2 * u - L ≤ 1) = true := decide_eq_true u2
    have d3 : decide (L ≤ 2 * u) = true := decide_eq_true (by omega)
    have d4 : decide (2 * u ≤ 1 + L) = true := decide_eq_true (by omega)
    have d5 : decide (2 * u ≤ L + 1) = true := decide_eq_true (by omega)
    have p4 : L ≤ 2 * u := by omega
    have p5 : 2 * u ≤ L + 1 := by omega
    have zM := M2.out.size
    have hsp : p1 + p2 ≤ 1000000000 := by omega
    have hsp2 : p1 + p2 + p3 ≤ 1000000000 := by omega
    go_upto_region 5 with fail
    refine region_lane [] (List.range 56) [56] (by kernel_rfl) (by kernel_rfl) (fun _ _ _ _ _ h => h) ?_
    simp only [pick, List.map_nil]
    refine wpQuiet_nil ⟨rfl, ?_⟩
    rw [show List.range 56 = [0, 1, 2, 3, 4, 5, 6, 7, 8, 9, 10, 11, 12, 13, 14, 15, 16, 17, 18, 19, 20, 21, 22, 23, 24, 25, 26, 27, 28, 29, 30, 31, 32, 33, 34, 35, 36, 37, 38, 39, 40, 41, 42, 43, 44, 45, 46, 47, 48, 49, 50, 51, 52, 53, 54, 55] from rfl]
    simp only [List.map_cons, List.map_nil, List.getD_cons_zero, List.getD_cons_succ, List.drop_succ_cons, List.drop_zero]
    refine laneO_fixed (v := .agg (i64s ys).toArray) (by kernel_rfl) (fun w hw => .inl ⟨by rfl, flat_gives met_flat (.tmp 4) rfl W.heap.size rfl ys YL.out 24 (M2.out.under hw zM)⟩) ?_
    simp only [Act.put, List.setIfInBounds_toArray, List.set_cons_zero, List.set_cons_succ]
    refine laneO_run 3 (by kernel_rfl) ?_
    simp only [List.take_succ_cons, List.take_zero, List.drop_succ_cons, List.drop_zero]
    repeat (go_big_quiet_step (fail))
    refine wpQuiet_nil ?_
    refine laneO_call (v := .int .i64 (p1 + p2 + p3)) (by kernel_rfl) (by rfl) (fun C hC h0 => ?_) ?_
    focus (go_big_quiet_op; exact ⟨_, fun w hw => (hC1.out w).mono fun e w' ⟨he, hb⟩ => ⟨he, hC _ _ hw hb⟩, rfl⟩)
    simp only [Act.put, List.setIfInBounds_toArray, List.set_cons_zero, List.set_cons_succ]
    refine laneO_fixed (v := .agg (i64s ys).toArray) (by kernel_rfl) (fun w hw => .inl ⟨by rfl, flat_gives met_flat (.tmp 4) rfl W.heap.size rfl ys YL.out 24 (M2.out.under hw zM)⟩) ?_
    simp only [Act.put, List.setIfInBounds_toArray, List.set_cons_zero, List.set_cons_succ]
    refine laneO_run 1 (by kernel_rfl) ?_
    simp only [List.take_succ_cons, List.take_zero, List.drop_succ_cons, List.drop_zero]
    repeat (go_big_quiet_step (fail))
    refine wpQuiet_nil ?_
    refine laneO_call (v := .int .i64 (p1 + p2)) (by kernel_rfl) (by rfl) (fun C hC h0 => ?_) ?_
    focus (go_big_quiet_op; exact ⟨_, fun w hw => (hC2.out w).mono fun e w' ⟨he, hb⟩ => ⟨he, hC _ _ hw hb⟩, rfl⟩)
    simp only [Act.put, List.setIfInBounds_toArray, List.set_cons_zero, List.set_cons_succ]
    refine laneO_fixed (v := .agg (i64s ys).toArray) (by kernel_rfl) (fun w hw => .inl ⟨by rfl, flat_gives met_flat (.tmp 4) rfl W.heap.size rfl ys YL.out 24 (M2.out.under hw zM)⟩) ?_
    simp only [Act.put, List.setIfInBounds_toArray, List.set_cons_zero, List.set_cons_succ]
    refine laneO_run 1 (by kernel_rfl) ?_
    simp only [List.take_succ_cons, List.take_zero, List.drop_succ_cons, List.drop_zero]
    repeat (go_big_quiet_step (fail))
    refine wpQuiet_nil ?_
    refine laneO_call (v := .int .i64 p3) (by kernel_rfl) (by rfl) (fun C hC h0 => ?_) ?_
    focus (go_big_quiet_op; exact ⟨_, fun w hw => (C3.out w).mono fun e w' ⟨he, hb⟩ => ⟨he, hC _ _ hw hb⟩, rfl⟩)
    simp only [Act.put, List.setIfInBounds_toArray, List.set_cons_zero, List.set_cons_succ]
    refine laneO_run 3 (by kernel_rfl) ?_
    simp only [List.take_succ_cons, List.take_zero, List.drop_succ_cons, List.drop_zero]
    repeat (go_big_quiet_step (fail))
    refine wpQuiet_nil ?_
    refine laneO_fixed (v := .agg (i64s ys).toArray) (by kernel_rfl) (fun w hw => .inl ⟨by rfl, flat_gives met_flat (.tmp 4) rfl W.heap.size rfl ys YL.out 24 (M2.out.under hw zM)⟩) ?_
    simp only [Act.put, List.setIfInBounds_toArray, List.set_cons_zero, List.set_cons_succ]
    refine laneO_run 1 (by kernel_rfl) ?_
    simp only [List.take_succ_cons, List.take_zero, List.drop_succ_cons, List.drop_zero]
    repeat (go_big_quiet_step (fail))
    refine wpQuiet_nil ?_
    refine laneO_call (v := .int .i64 (p1 + p2)) (by kernel_rfl) (by rfl) (fun C hC h0 => ?_) ?_
    focus (go_big_quiet_op; exact ⟨_, fun w hw => (hC2.out w).mono fun e w' ⟨he, hb⟩ => ⟨he, hC _ _ hw hb⟩, rfl⟩)
    simp only [Act.put, List.setIfInBounds_toArray, List.set_cons_zero, List.set_cons_succ]
    refine laneO_fixed (v := .agg (i64s ys).toArray) (by kernel_rfl) (fun w hw => .inl ⟨by rfl, flat_gives met_flat (.tmp 4) rfl W.heap.size rfl ys YL.out 24 (M2.out.under hw zM)⟩) ?_
    simp only [Act.put, List.setIfInBounds_toArray, List.set_cons_zero, List.set_cons_succ]
    refine laneO_run 2 (by kernel_rfl) ?_
    simp only [List.take_succ_cons, List.take_zero, List.drop_succ_cons, List.drop_zero]
    repeat (go_big_quiet_step (fail))
    refine wpQuiet_nil ?_
    refine laneO_fixed (v := .int .i64 s.size) (by kernel_rfl) (fun w hw => .inl ⟨by rfl, gives_len (.tmp 44) 9 rfl Try.underlying9 s rfl⟩) ?_
    simp only [Act.put, List.setIfInBounds_toArray, List.set_cons_zero, List.set_cons_succ]
    refine laneO_run 2 (by kernel_rfl) ?_
    simp only [List.take_succ_cons, List.take_zero, List.drop_succ_cons, List.drop_zero]
    repeat (go_big_quiet_step (fail))
    refine wpQuiet_nil ?_
    refine laneO_call (v := .int .i64 p1) (by kernel_rfl) (by rfl) (fun C hC h0 => ?_) ?_
    focus (go_big_quiet_op; exact ⟨_, fun w hw => (C4.out w).mono fun e w' ⟨he, hb⟩ => ⟨he, hC _ _ hw hb⟩, rfl⟩)
    simp only [Act.put, List.setIfInBounds_toArray, List.set_cons_zero, List.set_cons_succ]
    refine laneO_fixed (v := .agg (i64s ys).toArray) (by kernel_rfl) (fun w hw => .inl ⟨by rfl, flat_gives met_flat (.tmp 4) rfl W.heap.size rfl ys YL.out 24 (M2.out.under hw zM)⟩) ?_
    simp only [Act.put, List.setIfInBounds_toArray, List.set_cons_zero, List.set_cons_succ]
    refine laneO_run 2 (by kernel_rfl) ?_
    simp only [List.take_succ_cons, List.take_zero, List.drop_succ_cons, List.drop_zero]
    repeat (go_big_quiet_step (fail))
    refine wpQuiet_nil ?_
    refine laneO_fixed (v := .int .i64 s.size) (by kernel_rfl) (fun w hw => .inl ⟨by rfl, gives_len (.tmp 51) 9 rfl Try.underlying9 s rfl⟩) ?_
    simp only [Act.put, List.setIfInBounds_toArray, List.set_cons_zero, List.set_cons_succ]
    refine laneO_run 2 (by kernel_rfl) ?_
    simp only [List.take_succ_cons, List.take_zero, List.drop_succ_cons, List.drop_zero]
    repeat (go_big_quiet_step (fail))
    refine wpQuiet_nil ?_
    refine laneO_call (v := .int .i64 p2) (by kernel_rfl) (by rfl) (fun C hC h0 => ?_) ?_
    focus (go_big_quiet_op; exact ⟨_, fun w hw => (C5.out w).mono fun e w' ⟨he, hb⟩ => ⟨he, hC _ _ hw hb⟩, rfl⟩)
    simp only [Act.put, List.setIfInBounds_toArray, List.set_cons_zero, List.set_cons_succ]
    refine laneO_run 18 (by kernel_rfl) ?_
    simp only [List.take_succ_cons, List.take_zero, List.drop_succ_cons, List.drop_zero]
    repeat (go_big_quiet_step (fail))
    refine wpQuiet_nil ?_
    refine laneO_fixed (v := .agg (i64s ys).toArray) (by kernel_rfl) (fun w hw => .inl ⟨by rfl, flat_gives met_flat (.tmp 4) rfl W.heap.size rfl ys YL.out 24 (M2.out.under hw zM)⟩) ?_
    simp only [Act.put, List.setIfInBounds_toArray, List.set_cons_zero, List.set_cons_succ]
    refine laneO_call (v := .int .i64 0) (by kernel_rfl) (by rfl) (fun C hC h0 => ?_) ?_
    focus (go_big_quiet_op; exact ⟨_, fun w hw => (C6.out w).mono fun e w' ⟨he, hb⟩ => ⟨he, hC _ _ hw hb⟩, rfl⟩)
    simp only [Act.put, List.setIfInBounds_toArray, List.set_cons_zero, List.set_cons_succ]
    refine laneO_run 3 (by kernel_rfl) ?_
    simp only [List.take_succ_cons, List.take_zero, List.drop_succ_cons, List.drop_zero]
    repeat (go_big_quiet_step (fail))
    refine wpQuiet_nil ?_
    refine laneO_call (v := .bool true) (by kernel_rfl) (by rfl) (fun C hC h0 => ?_) ?_
    focus (go_big_quiet_op; exact ⟨_, fun w hw => (awake_any w).mono fun e w' ⟨he, hb⟩ => ⟨he, hC _ _ hw hb⟩, rfl⟩)
    simp only [Act.put, List.setIfInBounds_toArray, List.set_cons_zero, List.set_cons_succ]
    refine laneO_run 1 (by kernel_rfl) ?_
    simp only [List.take_succ_cons, List.take_zero, List.drop_succ_cons, List.drop_zero]
    repeat (go_big_quiet_step (fail))
    refine wpQuiet_nil ?_
    refine laneO_end0 rfl rfl fun w3 hb0 => ?_
    have HB3 := Lib.hid (HB2.out.trans (Below.mono hb0 (by omega)))
    clear hb0
    go_wp2
    go_ret
    exact ⟨rfl, HB3.out⟩
end Go.Proofs.Ytaclelponplooaa
