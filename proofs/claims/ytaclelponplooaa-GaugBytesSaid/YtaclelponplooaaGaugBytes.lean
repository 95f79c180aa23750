import Derived.Test.YtaclelponplooaaGaugLaw
/- GaugBytes answers true. -/
namespace Go.Proofs.Ytaclelponplooaa
open Go Go.RowKit
set_option linter.unusedVariables false
set_option linter.unusedSimpArgs false
set_option maxRecDepth 20000
set_option maxHeartbeats 4000000

theorem gaugBytes_any (zs : List Int) (hl : zs.length = 256) (s : ByteArray) (W : World) :
    Calls Try.prog 3 #[.agg (i64s zs).toArray, .string s] W fun e w' => e = .returned (.bool true) ∧ Below W.heap.size W w' := by
  have HL := Lib.hid hl
  have YL := Lib.hid (tameM_length zs false hl)
  have YB := Lib.hid (fun i (hi : i < 256) => tameM_in zs i (by rw [hl]; exact hi))
  have TA := Lib.hid (tame_any zs hl false)
  clear hl
  generalize tameM zs false = ys at *
  have M0 := Lib.hid (Whole.mk W 24 (i64s zs).toArray)
  have HB0 := Lib.hid ((Below.refl W.heap.size W).alloc (Nat.le_refl _) (.cells (i64s zs).toArray 24))
  have z0 := M0.out.size
  by_cases hbig : 1000 < s.size
  · have hb2 : (1000 : Int) < s.size := by omega
    go_enter Try.func3, Try.ntmps3
    go_wp2_with fail
    refine (awake_any _).mono ?_
    rintro e w1 ⟨rfl, b1⟩
    have B1 := Lib.hid (HB0.out.trans (b1.mono (by omega)))
    clear b1
    go_wp2
    go_ret
    exact ⟨rfl, B1.out⟩
  · have hb2 : ¬ (1000 : Int) < s.size := by omega
    go_enter Try.func3, Try.ntmps3
    go_wp2_with (first | (refine flat_load met_flat (.tmp 2) rfl rfl W.heap.size rfl zs HL.out 24 ?_ ?_; (focus (exact M0.out))))
    refine (TA.out _).mono ?_
    rintro e w1 ⟨rfl, b1⟩
    have M1 := Lib.hid (M0.out.under b1 z0)
    have HB1 := Lib.hid (HB0.out.trans (b1.mono (by omega)))
    have z1 := M1.out.size
    clear b1 M0 HB0 TA z0
    go_wp2_with (first
      | (refine flat_store met_flat (.tmp 2) (.tmp 13) rfl rfl W.heap.size rfl ys YL.out rfl 24 zs ?_ HL.out ?_; (focus (exact M1.out)); intro w2 h2 o2; have M2 := Lib.hid h2; have HB2 := Lib.hid (HB1.out.trans (o2.below (by simp) (by omega))); clear h2 o2 M1 HB1 z1))
    go_loopw [5, 6, 7] (fun t b i wr => ∃ (k : Nat) (u : ByteArray), k ≤ s.size ∧ i = .int .i64 k ∧ t = .int .i64 (wideL ys ((bytesOf s).take k)) ∧ b = .string u ∧ bytesOf u = ((bytesOf s).take k).reverse ∧ Whole wr W.heap.size 24 (i64s ys) ∧ Below W.heap.size W wr) (fun _ _ i _ => s.size - (intOf i).toNat)
    case atStart => exact ⟨0, ⟨#[]⟩, Nat.zero_le _, rfl, by simp [wideL], rfl, by simp [bytesOf], M2.out, HB2.out⟩
    case round =>
      obtain ⟨k, u, hk, rfl, rfl, rfl, hu, hM, hB⟩ := hrel
      have HM := Lib.hid hM
      have HB := Lib.hid hB
      have zM := hM.size
      have HU := Lib.hid hu
      have hus : u.size = k := by rw [← bytesOf_length, hu, List.length_reverse, List.length_take, bytesOf_length]; omega
      obtain ⟨b1, b2⟩ := wideL_bd ys ((bytesOf s).take k)
      have b3 : ((bytesOf s).take k).length ≤ 1000 := by rw [List.length_take, bytesOf_length]; omega
      clear hM hB hu
      by_cases hlt : k < s.size
      · have hs2 := Lib.hid (wideL_take ys s k hlt)
        have hby : (s[k].toNat : Int) < 256 := by have := s[k].toNat_lt; omega
        obtain ⟨y1, y2⟩ := YB.out s[k].toNat (by omega)
        have hz : advZ (ys.getD s[k].toNat 0) = ys.getD s[k].toNat 0 := by unfold advZ; omega
        have HW := wideZ_one ys s k hlt
        have hsz : (s.extract k (k + 1)).size = 1 := by rw [← bytesOf_length, bytesOf_one s k hlt]; rfl
        have C1 := Lib.hid (wide_any ys YL.out (s.extract k (k + 1)) (by omega))
        rw [HW, hz] at C1
        have HU2 := Lib.hid (show bytesOf (s.extract k (k + 1) ++ u) = ((bytesOf s).take (k + 1)).reverse by
          rw [bytesOf_append, bytesOf_one s k hlt, HU.out, List.take_succ_eq_append_getElem (by rw [bytesOf_length]; exact hlt), List.reverse_append, bytesOf_get s k hlt]; rfl)
        have hk1 : ∀ w : World, Behind wr w → w.cell? ⟨W.heap.size, s[k].toNat, none⟩ = some (.int .i64 (ys.getD s[k].toNat 0)) := fun w hw => (HM.out.under hw zM).num s[k].toNat (by rw [YL.out]; omega)
        have K0 : ∀ sw : Later wr.heap.size wr, sw.w.cell? ⟨W.heap.size, s[k].toNat, none⟩ = some (.int .i64 (ys.getD s[k].toNat 0)) := fun sw => hk1 sw.w sw.h
        have KB := Lib.hid hk1
        rw [hz] at hs2
        clear HW hz hk1
        generalize ys.getD s[k].toNat 0 = z at *
        generalize wideL ys ((bytesOf s).take k) = t at *
        have hki : (k : Int) < s.size := by omega
        go_upto_region 9 with fail
        refine region_lane [] (List.range 14) [] (by kernel_rfl) (by kernel_rfl) (fun _ _ _ _ _ h => h) ?_
        simp only [pick, List.map_nil]
        refine wpQuiet_nil ⟨rfl, ?_⟩
        rw [show List.range 14 = [0, 1, 2, 3, 4, 5, 6, 7, 8, 9, 10, 11, 12, 13] from rfl]
        simp only [List.map_cons, List.map_nil, List.getD_cons_zero, List.getD_cons_succ, List.drop_succ_cons, List.drop_zero]
        refine laneO_fixed (v := .agg (i64s ys).toArray) (by kernel_rfl) (fun w hw => .inl ⟨by rfl, flat_gives met_flat (.tmp 2) rfl W.heap.size rfl ys YL.out 24 (HM.out.under hw zM)⟩) ?_
        simp only [Act.put, List.setIfInBounds_toArray, List.set_cons_zero, List.set_cons_succ]
        refine laneO_run 5 (by kernel_rfl) ?_
        simp only [List.take_succ_cons, List.take_zero, List.drop_succ_cons, List.drop_zero]
        repeat (go_big_quiet_step (fail))
        refine wpQuiet_nil ?_
        refine laneO_call (v := .int .i64 z) (by kernel_rfl) (by rfl) (fun C hC h0 => ?_) ?_
        focus (go_big_quiet_op; exact ⟨_, fun w hw => (C1.out w).mono fun e w' ⟨he, hb⟩ => ⟨he, hC _ _ hw hb⟩, rfl⟩)
        simp only [Act.put, List.setIfInBounds_toArray, List.set_cons_zero, List.set_cons_succ]
        refine laneO_run 7 (by kernel_rfl) ?_
        simp only [List.take_succ_cons, List.take_zero, List.drop_succ_cons, List.drop_zero]
        repeat (go_big_quiet_step (fail))
        refine wpQuiet_nil ?_
        refine laneO_end0 rfl rfl fun w3 hb0 => ?_
        have HM3 := Lib.hid (HM.out.under hb0 zM)
        have HB3 := Lib.hid (HB.out.trans (Below.mono hb0 (by omega)))
        have c3 := KB.out w3 hb0
        have hsz2 : (s.extract k (k + 1) ++ u).size ≤ 2000 := by rw [ByteArray.size_append]; omega
        clear hb0 C1 K0 KB
        go_wp2
        go_roundw
        case rel => exact ⟨k + 1, _, by omega, by go_num, by rw [hs2.out], rfl, HU2.out, HM3.out, HB3.out⟩
        case measure => simp [intOf]; omega
      · obtain rfl : k = s.size := by omega
        have e1 : wideL ys ((bytesOf s).take s.size) = wideZ ys s := wideL_all ys s
        have e2 : wideZ ys u = wideZ ys s := by unfold wideZ; rw [HU.out, wideL_reverse, List.take_of_length_le (by rw [bytesOf_length]; omega)]
        have C1 := Lib.hid (wide_any ys YL.out s (by omega))
        have C2 := Lib.hid (wide_any ys YL.out u (by omega))
        rw [e2] at C2
        rw [e1] at b1 b2 ⊢
        clear e1 e2
        generalize wideZ ys s = v at *
        have MA0 := HM
        have HB0 := HB
        have zMA0 := zM
        have zB0 := HB0.out.size
        go_wp2_with (first | (refine flat_loadW met_flat (.tmp 2) rfl rfl W.heap.size rfl ys YL.out 24 ?_ ?_; (focus (exact MA0.out))))
        refine (C1.out _).mono ?_
        rintro e w1 ⟨rfl, hb⟩
        have MA1 := Lib.hid (MA0.out.under hb zMA0)
        have zMA1 := MA1.out.size
        have HB1 := Lib.hid (HB0.out.trans (Below.mono hb zB0))
        have zB1 := HB1.out.size
        clear hb MA0 zMA0 HB0 zB0
        go_wp2_with (first | (refine flat_loadW met_flat (.tmp 2) rfl rfl W.heap.size rfl ys YL.out 24 ?_ ?_; (focus (exact MA1.out))))
        refine (C2.out _).mono ?_
        rintro e w2 ⟨rfl, hb⟩
        have MA2 := Lib.hid (MA1.out.under hb zMA1)
        have zMA2 := MA2.out.size
        have HB2 := Lib.hid (HB1.out.trans (Below.mono hb zB1))
        have zB2 := HB2.out.size
        clear hb MA1 zMA1 HB1 zB1
        go_wp2_with fail
        refine (awake_any _).mono ?_
        rintro e w3 ⟨rfl, hb⟩
        have MA3 := Lib.hid (MA2.out.under hb zMA2)
        have zMA3 := MA3.out.size
        have HB3 := Lib.hid (HB2.out.trans (Below.mono hb zB2))
        have zB3 := HB3.out.size
        clear hb MA2 zMA2 HB2 zB2
        go_wp2
        go_ret
        exact ⟨rfl, HB3.out⟩
end Go.Proofs.Ytaclelponplooaa
