import Derived.Test.YtfmcabgcckllcaaHeirAwake
import Derived.Test.YtfmcabgcckllcaaText
/- HeirTells answers true. -/
namespace Go.Proofs.Ytfmcabgcckllcaa
open Go Go.RowKit
set_option linter.unusedVariables false
set_option linter.unusedSimpArgs false
set_option maxRecDepth 20000
set_option maxHeartbeats 8000000

theorem heirTells_any (ps0 : List Int) (hp0 : ps0.length = 43) (ds0 : List Dc) (A0 : Option Addr) (c0 : Nat) (zs : List Int) (Az : Option Addr) (cz : Nat) (W : World) (hD : Row W W.heap.size A0 (i64s (dCells ds0))) (hmd0 : ds0.length ≤ 9223372036854775807) (hR : Row W W.heap.size Az (i64s zs)) (hm : zs.length ≤ 9223372036854775807) :
    Calls Try.prog 4 #[.agg (i64s ps0).toArray, .slice A0 ds0.length c0, .slice Az zs.length cz] W fun e w' => e = .returned (.bool true) ∧ Below W.heap.size W w' := by
  have PL0 := Lib.hid hp0
  have HD := Lib.hid hD
  have HR := Lib.hid hR
  clear hp0 hD hR
  have P0 : Hid (Whole (W.alloc (.cells (i64s ps0).toArray 27)) W.heap.size 27 (i64s ps0)) := Lib.hid (Whole.mk W 27 (i64s ps0).toArray)
  by_cases hbig : 60 < ds0.length
  · have hb2 : (60 : Int) < ds0.length := by omega
    go_enter Try.func4, Try.ntmps4
    go_wp2_with fail
    refine (awake_any _).mono ?_
    rintro e w1 ⟨rfl, b1⟩
    go_wp2
    go_ret
    exact ⟨rfl, ((Below.refl _ _).alloc (Nat.le_refl _) _).trans (b1.mono (by simp))⟩
  · have hb2 : ¬ (60 : Int) < ds0.length := by omega
    have hmd : ds0.length ≤ 4611686018427387904 := by omega
    go_enter Try.func4, Try.ntmps4
    go_wp2_with fail
    go_loopw [1, 7] (fun r i wr => ∃ (k : Nat) (ds : List Dc) (A : Option Addr) (c : Nat) (ps : List Int), k ≤ 2 ∧ i = .int .i64 k ∧ r = .slice A ds.length c ∧ ds.length ≤ 4611686018427387904 ∧ Row wr wr.heap.size A (i64s (dCells ds)) ∧ ps.length = 43 ∧ Whole wr W.heap.size 27 (i64s ps) ∧ Below W.heap.size W wr) (fun _ i _ => 2 - (intOf i).toNat)
    case atStart => exact ⟨0, ds0, A0, c0, ps0, by omega, rfl, rfl, hmd, (HD.out.alloc (Nat.le_refl _) _).more (by simp), PL0.out, P0.out, (Below.refl _ _).alloc (Nat.le_refl _) _⟩
    case round =>
      obtain ⟨k, ds, A, c, ps, hk, rfl, rfl, hdl, hrow, hpl, hP, hB⟩ := hrel
      have PL := Lib.hid hpl
      have PS := Lib.hid hP
      have HB := Lib.hid hB
      have RO := Lib.hid hrow
      have zr := hB.size
      have zP := hP.size
      clear hpl hP hB hrow
      by_cases hlt : k < 2
      · have hlt' : (k : Int) < 2 := by omega
        go_upto_region 6 with fail
        have RW := Lib.hid (fun (w : World) (hw : Behind wr w) => (RO.out.below hw).more hw.size)
        refine region_lane [] (List.range 21) [] (by kernel_rfl) (by kernel_rfl) (fun _ _ _ _ _ h => h) ?_
        simp only [pick, List.map_nil]
        refine wpQuiet_nil ⟨rfl, ?_⟩
        rw [show List.range 21 = [0, 1, 2, 3, 4, 5, 6, 7, 8, 9, 10, 11, 12, 13, 14, 15, 16, 17, 18, 19, 20] from rfl]
        simp only [List.map_cons, List.map_nil, List.getD_cons_zero, List.getD_cons_succ, List.drop_succ_cons, List.drop_zero]
        refine laneO_fixed (v := .agg (i64s ps).toArray) (by kernel_rfl) (fun w hw => .inl ⟨by rfl, gives_style (.tmp 3) rfl W.heap.size rfl ps PL.out (PS.out.under hw zP)⟩) ?_
        simp only [Act.put, List.setIfInBounds_toArray, List.set_cons_zero, List.set_cons_succ]
        refine laneO_run 1 (by kernel_rfl) ?_
        simp only [List.take_succ_cons, List.take_zero, List.drop_succ_cons, List.drop_zero]
        repeat (go_big_quiet_step (fail))
        refine wpQuiet_nil ?_
        refine laneO_call (v := .agg (i64s (ownZ ps ds)).toArray) (by kernel_rfl) (by rfl) (fun C hC h0 => ?_) ?_
        focus (go_big_quiet_op; exact ⟨_, fun w hw => (own_any ps PL.out ds A c w (RW.out w (h0 w hw)) (by omega)).mono fun e w' ⟨he, hb⟩ => ⟨he, hC _ _ hw hb⟩, rfl⟩)
        simp only [Act.put, List.setIfInBounds_toArray, List.set_cons_zero, List.set_cons_succ]
        refine laneO_fixed (v := .agg (i64s ps).toArray) (by kernel_rfl) (fun w hw => .inl ⟨by rfl, gives_style (.tmp 3) rfl W.heap.size rfl ps PL.out (PS.out.under hw zP)⟩) ?_
        simp only [Act.put, List.setIfInBounds_toArray, List.set_cons_zero, List.set_cons_succ]
        refine laneO_run 1 (by kernel_rfl) ?_
        simp only [List.take_succ_cons, List.take_zero, List.drop_succ_cons, List.drop_zero]
        repeat (go_big_quiet_step (fail))
        refine wpQuiet_nil ?_
        refine laneO_call (v := .agg (i64s (ownZ ps ds)).toArray) (by kernel_rfl) (by rfl) (fun C hC h0 => ?_) ?_
        focus (go_big_quiet_op; exact ⟨_, fun w hw => (rown_any ps PL.out ds A c w (RW.out w (h0 w hw)) (by omega)).mono fun e w' ⟨he, hb⟩ => ⟨he, hC _ _ hw hb⟩, rfl⟩)
        simp only [Act.put, List.setIfInBounds_toArray, List.set_cons_zero, List.set_cons_succ]
        refine laneO_fixed (v := .bool false) (by kernel_rfl) (fun w hw => .inl ⟨by rfl, gives_style_neq (.tmp 18) (.tmp 21) _ rfl (ownZ ps ds) (ownZ_length ps ds) rfl rfl⟩) ?_
        simp only [Act.put, List.setIfInBounds_toArray, List.set_cons_zero, List.set_cons_succ]
        refine laneO_run 2 (by kernel_rfl) ?_
        simp only [List.take_succ_cons, List.take_zero, List.drop_succ_cons, List.drop_zero]
        repeat (go_big_quiet_step (fail))
        refine wpQuiet_nil ?_
        refine laneO_call (v := .agg (i64s (rootZ ds)).toArray) (by kernel_rfl) (by rfl) (fun C hC h0 => ?_) ?_
        focus (go_big_quiet_op; exact ⟨_, fun w hw => (root_any ds A c w (RW.out w (h0 w hw)) (by omega)).mono fun e w' ⟨he, hb⟩ => ⟨he, hC _ _ hw hb⟩, rfl⟩)
        simp only [Act.put, List.setIfInBounds_toArray, List.set_cons_zero, List.set_cons_succ]
        refine laneO_run 1 (by kernel_rfl) ?_
        simp only [List.take_succ_cons, List.take_zero, List.drop_succ_cons, List.drop_zero]
        repeat (go_big_quiet_step (fail))
        refine wpQuiet_nil ?_
        refine laneO_call (v := .agg (i64s (rootZ ds)).toArray) (by kernel_rfl) (by rfl) (fun C hC h0 => ?_) ?_
        focus (go_big_quiet_op; exact ⟨_, fun w hw => (rroot_any ds A c w (RW.out w (h0 w hw)) (by omega)).mono fun e w' ⟨he, hb⟩ => ⟨he, hC _ _ hw hb⟩, rfl⟩)
        simp only [Act.put, List.setIfInBounds_toArray, List.set_cons_zero, List.set_cons_succ]
        refine laneO_fixed (v := .bool false) (by kernel_rfl) (fun w hw => .inl ⟨by rfl, gives_style_neq (.tmp 25) (.tmp 27) _ rfl (rootZ ds) (rootZ_length ds) rfl rfl⟩) ?_
        simp only [Act.put, List.setIfInBounds_toArray, List.set_cons_zero, List.set_cons_succ]
        refine laneO_run 2 (by kernel_rfl) ?_
        simp only [List.take_succ_cons, List.take_zero, List.drop_succ_cons, List.drop_zero]
        repeat (go_big_quiet_step (fail))
        refine wpQuiet_nil ?_
        refine laneO_fixed (v := .agg (i64s ps).toArray) (by kernel_rfl) (fun w hw => .inl ⟨by rfl, gives_style (.tmp 3) rfl W.heap.size rfl ps PL.out (PS.out.under hw zP)⟩) ?_
        simp only [Act.put, List.setIfInBounds_toArray, List.set_cons_zero, List.set_cons_succ]
        refine laneO_call (v := .agg (i64s (anonZ ps)).toArray) (by kernel_rfl) (by rfl) (fun C hC h0 => ?_) ?_
        focus (go_big_quiet_op; exact ⟨_, fun w hw => (anon_any ps PL.out w).mono fun e w' ⟨he, hb⟩ => ⟨he, hC _ _ hw hb⟩, rfl⟩)
        simp only [Act.put, List.setIfInBounds_toArray, List.set_cons_zero, List.set_cons_succ]
        refine laneO_fixed (v := .agg (i64s ps).toArray) (by kernel_rfl) (fun w hw => .inl ⟨by rfl, gives_style (.tmp 3) rfl W.heap.size rfl ps PL.out (PS.out.under hw zP)⟩) ?_
        simp only [Act.put, List.setIfInBounds_toArray, List.set_cons_zero, List.set_cons_succ]
        refine laneO_call (v := .agg (i64s (anonZ ps)).toArray) (by kernel_rfl) (by rfl) (fun C hC h0 => ?_) ?_
        focus (go_big_quiet_op; exact ⟨_, fun w hw => (ranon_any ps PL.out w).mono fun e w' ⟨he, hb⟩ => ⟨he, hC _ _ hw hb⟩, rfl⟩)
        simp only [Act.put, List.setIfInBounds_toArray, List.set_cons_zero, List.set_cons_succ]
        refine laneO_fixed (v := .bool false) (by kernel_rfl) (fun w hw => .inl ⟨by rfl, gives_style_neq (.tmp 32) (.tmp 34) _ rfl (anonZ ps) (anonZ_length ps) rfl rfl⟩) ?_
        simp only [Act.put, List.setIfInBounds_toArray, List.set_cons_zero, List.set_cons_succ]
        refine laneO_run 1 (by kernel_rfl) ?_
        simp only [List.take_succ_cons, List.take_zero, List.drop_succ_cons, List.drop_zero]
        repeat (go_big_quiet_step (fail))
        refine wpQuiet_nil ?_
        refine laneO_end0 rfl rfl fun w1 hb0 => ?_
        have PS1 := Lib.hid (PS.out.under hb0 zP)
        have HB1 := Lib.hid (HB.out.trans (Below.mono hb0 zr))
        have zw1 := HB1.out.size
        clear hb0
        go_wp2_with fail
        have HRw := Lib.hid ((HR.out.below HB1.out).more zw1)
        refine (text_any zs Az cz true w1 HRw.out hm).mono ?_
        rintro e w2 ⟨s, rfl, hs, b2⟩
        have PS2 := Lib.hid (PS1.out.under b2 PS1.out.size)
        have HB2 := Lib.hid (HB1.out.trans (b2.mono zw1))
        have zw2 := HB2.out.size
        clear b2 hs
        go_wp2_with fail
        refine (parse_any s w2).mono ?_
        rintro e w3 ⟨ds3, A3, c3, x3, y3, rfl, hrow3, hlen3, b3, hnew⟩
        have HN := Lib.hid hnew
        have PS3 := Lib.hid (PS2.out.under b3 PS2.out.size)
        have HB3 := Lib.hid (HB2.out.trans (b3.mono zw2))
        have R3 := Lib.hid hrow3
        have zw3 := HB3.out.size
        clear b3 hrow3 hnew
        go_wp2_with fail
        refine (rroot_any ds3 A3 c3 w3 R3.out hlen3).mono ?_
        rintro e w4 ⟨rfl, b4⟩
        have PS4 := Lib.hid (PS3.out.under b4 PS3.out.size)
        have HB4 := Lib.hid (HB3.out.trans (b4.mono zw3))
        have R4 := Lib.hid (R3.out.below b4)
        have zw4 := HB4.out.size
        have z34 := b4.size
        clear b4
        go_wp2_with (refine style_store (.tmp 3) (.tmp 45) rfl rfl W.heap.size rfl (rootZ ds3) (rootZ_length ds3) rfl ps ?_ PL.out ?_; (focus (exact PS4.out)); intro w5 h5 o5; have PS5 := Lib.hid h5; have HB5 := Lib.hid (HB4.out.trans (o5.below (by simp) zw4)); have OO := Lib.hid o5; clear h5 o5)
        go_roundw
        case rel => exact ⟨k + 1, ds3, A3, c3, rootZ ds3, by omega, by go_num, rfl, hlen3, (OO.out.rowAt R4.out z34 (fun a ea => by have := HN.out a ea; have := PS2.out.size; simp; omega)).more (by have := OO.out.size; omega), rootZ_length ds3, PS5.out, HB5.out⟩
        case measure => simp [intOf]; omega
      · have hlt' : ¬ (k : Int) < 2 := by omega
        go_wp2_with fail
        refine (awake_any _).mono ?_
        rintro e w1 ⟨rfl, b1⟩
        go_wp2
        go_ret
        exact ⟨rfl, HB.out.trans (b1.mono zr)⟩
end Go.Proofs.Ytfmcabgcckllcaa
