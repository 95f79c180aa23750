import Derived.Test.YtjhmdflagkenbaaWdLeafQ
/- wide.Edges, clamped, ahead. -/
namespace Go.Proofs.Ytjhmdflagkenbaa
open Go Go.RowKit
set_option linter.unusedVariables false
set_option linter.unusedSimpArgs false
set_option maxRecDepth 20000
set_option maxHeartbeats 4000000

theorem edges_any (st : List Int) (hl : st.length = 43) (hz : ∀ z ∈ st, I64 z) (W : World) :
    Calls Try.prog 13 #[.agg (i64s st).toArray] W fun e w' => e = .returned (.tuple #[.int .i64 (edgZ st 0), .int .i64 (edgZ st 1), .int .i64 (edgZ st 2), .int .i64 (edgZ st 3)]) ∧ Below W.heap.size W w' := by
  have P0 := Lib.hid (Whole.mk W 27 (i64s st).toArray)
  have B0 := Lib.hid ((Below.refl W.heap.size W).alloc (Nat.le_refl _) (.cells (i64s st).toArray 27))
  have E := Lib.hid (fun (i : Nat) (hi : i < 4) (w : World) (h : Whole w W.heap.size 27 (i64s st)) => edge_any st hl hz W.heap.size i hi w h)
  have Z0 : W.heap.size < (W.alloc (.cells (i64s st).toArray 27)).heap.size := P0.out.size
  clear hl hz
  go_enter Try.func13, Try.ntmps13
  go_upto_region 1 with fail
  generalize W.alloc _ = w0 at *
  go_wp2_with fail
  refine (E.out 0 (by omega) w0 P0.out).mono ?_
  rintro e w1 ⟨rfl, hb⟩
  have P1 := Lib.hid (P0.out.under hb Z0)
  have Z1 := P1.out.size
  have B1 := Lib.hid (B0.out.trans (hb.mono (by omega)))
  clear hb
  go_wp2_with fail
  refine (E.out 1 (by omega) w1 P1.out).mono ?_
  rintro e w2 ⟨rfl, hb⟩
  have P2 := Lib.hid (P1.out.under hb Z1)
  have Z2 := P2.out.size
  have B2 := Lib.hid (B1.out.trans (hb.mono (by omega)))
  clear hb
  go_wp2_with fail
  refine (E.out 2 (by omega) w2 P2.out).mono ?_
  rintro e w3 ⟨rfl, hb⟩
  have P3 := Lib.hid (P2.out.under hb Z2)
  have Z3 := P3.out.size
  have B3 := Lib.hid (B2.out.trans (hb.mono (by omega)))
  clear hb
  go_wp2_with fail
  refine (E.out 3 (by omega) w3 P3.out).mono ?_
  rintro e w4 ⟨rfl, hb⟩
  have B4 := Lib.hid (B3.out.trans (hb.mono (by omega)))
  clear hb
  go_wp2_with fail
  refine bodyPost_ret (v := .tuple #[.int .i64 (edgZ st 0), .int .i64 (edgZ st 1), .int .i64 (edgZ st 2), .int .i64 (edgZ st 3)]) (by simp [results, Try.results13, go_sem]) rfl ⟨rfl, B4.out⟩
theorem clamped_any (st : List Int) (hl : st.length = 43) (hz : ∀ z ∈ st, I64 z) (g : Nat) (high : Bool) (n base : Int) (hb : I64 base) (W : World) (hW : Whole W g 27 (i64s st)) :
    Calls Try.prog 20 #[.pointer (some ⟨g, 0, none⟩), .bool high, .int .i64 n, .int .i64 base] W fun e w' => e = .returned (.int .i64 (clampZ n (minZ st high base) (maxZ st high base))) ∧ Below W.heap.size W w' := by
  have HW := Lib.hid hW
  have HL := Lib.hid hl
  have HM := Lib.hid (fun w => min_any st hl hz high base hb w)
  have HX := Lib.hid (fun w => max_any st hl hz high base hb w)
  generalize minZ st high base = mn at *
  generalize maxZ st high base = mx at *
  have HC := Lib.hid (fun w => clamp_any n mn mx w)
  generalize clampZ n mn mx = r at *
  clear hW hl hz hb
  have YS := Lib.hid (fun w (hb : Behind W w) => HW.out.under hb HW.out.size)
  go_enter Try.func20, Try.ntmps20
  go_upto_region 1 with fail
  refine region_lane [] (List.range 14) [14] (by kernel_rfl) (by kernel_rfl) (fun _ _ _ _ _ h => h) ?_
  simp only [pick, List.map_nil]
  refine wpQuiet_nil ⟨rfl, ?_⟩
  rw [show List.range 14 = [0, 1, 2, 3, 4, 5, 6, 7, 8, 9, 10, 11, 12, 13] from rfl]
  simp only [List.map_cons, List.map_nil, List.getD_cons_zero, List.getD_cons_succ, List.drop_succ_cons, List.drop_zero]
  refine laneO_run 3 (by kernel_rfl) ?_
  simp only [List.take_succ_cons, List.take_zero, List.drop_succ_cons, List.drop_zero]
  repeat (go_big_quiet_step (fail))
  refine wpQuiet_nil ?_
  refine laneO_fixed (v := .agg (i64s st).toArray) (by kernel_rfl) (fun w hw => .inl ⟨by rfl, gives_style (.tmp 11) rfl g rfl st HL.out (YS.out w hw)⟩) ?_
  simp only [Act.put, List.setIfInBounds_toArray, List.set_cons_zero, List.set_cons_succ]
  refine laneO_run 2 (by kernel_rfl) ?_
  simp only [List.take_succ_cons, List.take_zero, List.drop_succ_cons, List.drop_zero]
  repeat (go_big_quiet_step (fail))
  refine wpQuiet_nil ?_
  refine laneO_call (v := (.int .i64 mn)) (by kernel_rfl) (by rfl) (fun C hC h0 => ?_) ?_
  focus (go_big_quiet_op; exact ⟨_, fun w hw => (HM.out w).mono fun e w' ⟨he, hb⟩ => ⟨he, hC _ _ hw hb⟩, rfl⟩)
  simp only [Act.put, List.setIfInBounds_toArray, List.set_cons_zero, List.set_cons_succ]
  refine laneO_run 2 (by kernel_rfl) ?_
  simp only [List.take_succ_cons, List.take_zero, List.drop_succ_cons, List.drop_zero]
  repeat (go_big_quiet_step (fail))
  refine wpQuiet_nil ?_
  refine laneO_fixed (v := .agg (i64s st).toArray) (by kernel_rfl) (fun w hw => .inl ⟨by rfl, gives_style (.tmp 17) rfl g rfl st HL.out (YS.out w hw)⟩) ?_
  simp only [Act.put, List.setIfInBounds_toArray, List.set_cons_zero, List.set_cons_succ]
  refine laneO_run 2 (by kernel_rfl) ?_
  simp only [List.take_succ_cons, List.take_zero, List.drop_succ_cons, List.drop_zero]
  repeat (go_big_quiet_step (fail))
  refine wpQuiet_nil ?_
  refine laneO_call (v := (.int .i64 mx)) (by kernel_rfl) (by rfl) (fun C hC h0 => ?_) ?_
  focus (go_big_quiet_op; exact ⟨_, fun w hw => (HX.out w).mono fun e w' ⟨he, hb⟩ => ⟨he, hC _ _ hw hb⟩, rfl⟩)
  simp only [Act.put, List.setIfInBounds_toArray, List.set_cons_zero, List.set_cons_succ]
  refine laneO_call (v := (.int .i64 r)) (by kernel_rfl) (by rfl) (fun C hC h0 => ?_) ?_
  focus (go_big_quiet_op; exact ⟨_, fun w hw => (HC.out w).mono fun e w' ⟨he, hb⟩ => ⟨he, hb ▸ hw⟩, rfl⟩)
  simp only [Act.put, List.setIfInBounds_toArray, List.set_cons_zero, List.set_cons_succ]
  refine laneO_end0 rfl rfl fun w2 hb0 => ?_
  clear YS HM HX HC
  go_wp2
  go_ret
  exact ⟨rfl, hb0⟩
theorem ahead_any (st : List Int) (hl : st.length = 43) (over : Int) (ho : Sm over) (g : Nat) (W : World) (hW : Whole W g 27 (i64s st)) :
    Calls Try.prog 21 #[.pointer (some ⟨g, 0, none⟩), totV over] W fun e w' => e = .returned (totV (wgetsZ st over)) ∧ Below W.heap.size W w' := by
  have HA := Lib.hid (fun w => above_any 0 over w)
  have HH := Lib.hid (fun w => half_any over ho.tot w)
  have gz := hW.size
  have B0 := Lib.hid ((((Below.refl W.heap.size W).alloc (Nat.le_refl _) (.cells #[.int .i64 (tH over), .int .u64 (tL over)] 48)).alloc (by simp) (.cells #[.int .i64 0, .int .u64 0] 48)).alloc (by simp; omega) (.cells #[.int .i64 0, .int .u64 0] 48))
  have D0 := Lib.hid (((hW.made (.cells #[.int .i64 (tH over), .int .u64 (tL over)] 48)).made (.cells #[.int .i64 0, .int .u64 0] 48)).made (.cells #[.int .i64 0, .int .u64 0] 48))
  have O0 := Lib.hid (((Whole.mk W 48 #[.int .i64 (tH over), .int .u64 (tL over)]).made (.cells #[.int .i64 0, .int .u64 0] 48)).made (.cells #[.int .i64 0, .int .u64 0] 48))
  have R0 := Lib.hid ((Whole.mk (W.alloc (.cells #[.int .i64 (tH over), .int .u64 (tL over)] 48)) 48 #[.int .i64 0, .int .u64 0]).made (.cells #[.int .i64 0, .int .u64 0] 48))
  have N0 := Lib.hid (Whole.mk ((W.alloc (.cells #[.int .i64 (tH over), .int .u64 (tL over)] 48)).alloc (.cells #[.int .i64 0, .int .u64 0] 48)) 48 #[.int .i64 0, .int .u64 0])
  simp only [World.size_alloc] at R0 N0
  clear hW
  have HG := Lib.hid (show wgetsZ st over = if over < 0 ∨ st.getD 29 0 ≠ 0 then 0 else if st.getD 25 0 = 0 then over / 2 else over from rfl)
  go_enter Try.func21, Try.ntmps21
  go_upto_region 2 with fail
  generalize ((W.alloc _).alloc _).alloc _ = w0 at *
  have n0 : w0.cell? ⟨W.heap.size + 2, 0, none⟩ = some (.int .i64 (tH 0)) := N0.out.cell 0
  have n1 : w0.cell? ⟨W.heap.size + 2, 1, none⟩ = some (.int .u64 (tL 0)) := N0.out.cell 1
  have o0 : w0.cell? ⟨W.heap.size, 0, none⟩ = some (.int .i64 (tH over)) := O0.out.cell 0
  have o1 : w0.cell? ⟨W.heap.size, 1, none⟩ = some (.int .u64 (tL over)) := O0.out.cell 1
  by_cases hv : over < 0
  · have hd : decide (over < 0) = true := by rw [decide_eq_true_eq]; exact hv
    have E := Lib.hid (show wgetsZ st over = 0 by rw [HG.out, if_pos (.inl hv)])
    have HA := Lib.hid (fun w => hd ▸ HA.out w)
    clear HG hv ho
    go_wp2_with fail
    refine (HA.out _).mono ?_
    rintro e w1 ⟨rfl, hb⟩
    have D1 := Lib.hid (D0.out.under hb D0.out.size)
    have O1 := Lib.hid (O0.out.under hb O0.out.size)
    have R1 := Lib.hid (R0.out.under hb R0.out.size)
    have N1 := Lib.hid (N0.out.under hb N0.out.size)
    have B1 := Lib.hid (B0.out.trans (hb.mono (by have := B0.out.size; omega)))
    have k29 := D1.out.num 29 (by omega)
    have k25 := D1.out.num 25 (by omega)
    have n0 : w1.cell? ⟨W.heap.size + 2, 0, none⟩ = some (.int .i64 (tH 0)) := N1.out.cell 0
    have n1 : w1.cell? ⟨W.heap.size + 2, 1, none⟩ = some (.int .u64 (tL 0)) := N1.out.cell 1
    have o0 : w1.cell? ⟨W.heap.size, 0, none⟩ = some (.int .i64 (tH over)) := O1.out.cell 0
    have o1 : w1.cell? ⟨W.heap.size, 1, none⟩ = some (.int .u64 (tL over)) := O1.out.cell 1
    clear hb D0 O0 R0 N0 B0
    generalize st.getD 29 0 = z29 at *
    generalize st.getD 25 0 = z25 at *
    have r0 := R1.out.cell 0
    have r1 := R1.out.cell 1
    have q0 := R1.out.free 0
    have q1 := R1.out.free 1
    simp only [List.getElem?_cons_zero, List.getElem?_cons_succ] at r0 r1
    have R9 := Lib.hid ((R1.out.put 0 (.int .i64 (tH (0)))).put 1 (.int .u64 (tL (0))))
    have B9 := Lib.hid ((B1.out.setCell (p := ⟨W.heap.size + 1, 0, none⟩) (by simp) (.int .i64 (tH (0)))).setCell (p := ⟨W.heap.size + 1, 1, none⟩) (by simp) (.int .u64 (tL (0))))
    simp only [List.set_cons_zero, List.set_cons_succ] at R9
    go_wp2_with fail
    exact cells_end (n := 2) ⟨⟨_, Try.underlying48, rfl⟩, by kernel_rfl⟩ rfl (W.heap.size + 1) rfl [.int .i64 (tH (0)), .int .u64 (tL (0))] rfl 48 R9.out rfl ⟨by rw [E.out], B9.out⟩
  · have hd : decide (over < 0) = false := by rw [decide_eq_false_iff_not]; exact hv
    have HA := Lib.hid (fun w => hd ▸ HA.out w)
    by_cases h9 : st.getD 29 0 = 0
    · have b9 : (st.getD 29 0 == 0) = true := by rw [beq_iff_eq]; exact h9
      by_cases h5 : st.getD 25 0 = 0
      · have b5 : (st.getD 25 0 == 0) = true := by rw [beq_iff_eq]; exact h5
        have E := Lib.hid (show wgetsZ st over = over / 2 by rw [HG.out, if_neg (by omega), if_pos h5])
        clear HG hv ho h9 h5
        go_wp2_with fail
        refine (HA.out _).mono ?_
        rintro e w1 ⟨rfl, hb⟩
        have D1 := Lib.hid (D0.out.under hb D0.out.size)
        have O1 := Lib.hid (O0.out.under hb O0.out.size)
        have R1 := Lib.hid (R0.out.under hb R0.out.size)
        have N1 := Lib.hid (N0.out.under hb N0.out.size)
        have B1 := Lib.hid (B0.out.trans (hb.mono (by have := B0.out.size; omega)))
        have k29 := D1.out.num 29 (by omega)
        have k25 := D1.out.num 25 (by omega)
        have n0 : w1.cell? ⟨W.heap.size + 2, 0, none⟩ = some (.int .i64 (tH 0)) := N1.out.cell 0
        have n1 : w1.cell? ⟨W.heap.size + 2, 1, none⟩ = some (.int .u64 (tL 0)) := N1.out.cell 1
        have o0 : w1.cell? ⟨W.heap.size, 0, none⟩ = some (.int .i64 (tH over)) := O1.out.cell 0
        have o1 : w1.cell? ⟨W.heap.size, 1, none⟩ = some (.int .u64 (tL over)) := O1.out.cell 1
        clear hb D0 O0 R0 N0 B0
        generalize st.getD 29 0 = z29 at *
        generalize st.getD 25 0 = z25 at *
        go_wp2_with fail
        refine (HH.out _).mono ?_
        rintro e w2 ⟨rfl, hb⟩
        have R2 := Lib.hid (R1.out.under hb R1.out.size)
        have B2 := Lib.hid (B1.out.trans (hb.mono (by have := B1.out.size; omega)))
        clear hb
        have r0 := R2.out.cell 0
        have r1 := R2.out.cell 1
        have q0 := R2.out.free 0
        have q1 := R2.out.free 1
        simp only [List.getElem?_cons_zero, List.getElem?_cons_succ] at r0 r1
        have R9 := Lib.hid ((R2.out.put 0 (.int .i64 (tH (over / 2)))).put 1 (.int .u64 (tL (over / 2))))
        have B9 := Lib.hid ((B2.out.setCell (p := ⟨W.heap.size + 1, 0, none⟩) (by simp) (.int .i64 (tH (over / 2)))).setCell (p := ⟨W.heap.size + 1, 1, none⟩) (by simp) (.int .u64 (tL (over / 2))))
        simp only [List.set_cons_zero, List.set_cons_succ] at R9
        go_wp2_with fail
        exact cells_end (n := 2) ⟨⟨_, Try.underlying48, rfl⟩, by kernel_rfl⟩ rfl (W.heap.size + 1) rfl [.int .i64 (tH (over / 2)), .int .u64 (tL (over / 2))] rfl 48 R9.out rfl ⟨by rw [E.out], B9.out⟩
      · have b5 : (st.getD 25 0 == 0) = false := by rw [beq_eq_false_iff_ne]; exact h5
        have E := Lib.hid (show wgetsZ st over = over by rw [HG.out, if_neg (by omega), if_neg h5])
        clear HG hv ho h9 h5
        go_wp2_with fail
        refine (HA.out _).mono ?_
        rintro e w1 ⟨rfl, hb⟩
        have D1 := Lib.hid (D0.out.under hb D0.out.size)
        have O1 := Lib.hid (O0.out.under hb O0.out.size)
        have R1 := Lib.hid (R0.out.under hb R0.out.size)
        have N1 := Lib.hid (N0.out.under hb N0.out.size)
        have B1 := Lib.hid (B0.out.trans (hb.mono (by have := B0.out.size; omega)))
        have k29 := D1.out.num 29 (by omega)
        have k25 := D1.out.num 25 (by omega)
        have n0 : w1.cell? ⟨W.heap.size + 2, 0, none⟩ = some (.int .i64 (tH 0)) := N1.out.cell 0
        have n1 : w1.cell? ⟨W.heap.size + 2, 1, none⟩ = some (.int .u64 (tL 0)) := N1.out.cell 1
        have o0 : w1.cell? ⟨W.heap.size, 0, none⟩ = some (.int .i64 (tH over)) := O1.out.cell 0
        have o1 : w1.cell? ⟨W.heap.size, 1, none⟩ = some (.int .u64 (tL over)) := O1.out.cell 1
        clear hb D0 O0 R0 N0 B0
        generalize st.getD 29 0 = z29 at *
        generalize st.getD 25 0 = z25 at *
        have r0 := R1.out.cell 0
        have r1 := R1.out.cell 1
        have q0 := R1.out.free 0
        have q1 := R1.out.free 1
        simp only [List.getElem?_cons_zero, List.getElem?_cons_succ] at r0 r1
        have R9 := Lib.hid ((R1.out.put 0 (.int .i64 (tH (over)))).put 1 (.int .u64 (tL (over))))
        have B9 := Lib.hid ((B1.out.setCell (p := ⟨W.heap.size + 1, 0, none⟩) (by simp) (.int .i64 (tH (over)))).setCell (p := ⟨W.heap.size + 1, 1, none⟩) (by simp) (.int .u64 (tL (over))))
        simp only [List.set_cons_zero, List.set_cons_succ] at R9
        go_wp2_with fail
        exact cells_end (n := 2) ⟨⟨_, Try.underlying48, rfl⟩, by kernel_rfl⟩ rfl (W.heap.size + 1) rfl [.int .i64 (tH (over)), .int .u64 (tL (over))] rfl 48 R9.out rfl ⟨by rw [E.out], B9.out⟩
    · have b9 : (st.getD 29 0 == 0) = false := by rw [beq_eq_false_iff_ne]; exact h9
      have E := Lib.hid (show wgetsZ st over = 0 by rw [HG.out, if_pos (.inr h9)])
      clear HG hv ho h9
      go_wp2_with fail
      refine (HA.out _).mono ?_
      rintro e w1 ⟨rfl, hb⟩
      have D1 := Lib.hid (D0.out.under hb D0.out.size)
      have O1 := Lib.hid (O0.out.under hb O0.out.size)
      have R1 := Lib.hid (R0.out.under hb R0.out.size)
      have N1 := Lib.hid (N0.out.under hb N0.out.size)
      have B1 := Lib.hid (B0.out.trans (hb.mono (by have := B0.out.size; omega)))
      have k29 := D1.out.num 29 (by omega)
      have k25 := D1.out.num 25 (by omega)
      have n0 : w1.cell? ⟨W.heap.size + 2, 0, none⟩ = some (.int .i64 (tH 0)) := N1.out.cell 0
      have n1 : w1.cell? ⟨W.heap.size + 2, 1, none⟩ = some (.int .u64 (tL 0)) := N1.out.cell 1
      have o0 : w1.cell? ⟨W.heap.size, 0, none⟩ = some (.int .i64 (tH over)) := O1.out.cell 0
      have o1 : w1.cell? ⟨W.heap.size, 1, none⟩ = some (.int .u64 (tL over)) := O1.out.cell 1
      clear hb D0 O0 R0 N0 B0
      generalize st.getD 29 0 = z29 at *
      generalize st.getD 25 0 = z25 at *
      have r0 := R1.out.cell 0
      have r1 := R1.out.cell 1
      have q0 := R1.out.free 0
      have q1 := R1.out.free 1
      simp only [List.getElem?_cons_zero, List.getElem?_cons_succ] at r0 r1
      have R9 := Lib.hid ((R1.out.put 0 (.int .i64 (tH (0)))).put 1 (.int .u64 (tL (0))))
      have B9 := Lib.hid ((B1.out.setCell (p := ⟨W.heap.size + 1, 0, none⟩) (by simp) (.int .i64 (tH (0)))).setCell (p := ⟨W.heap.size + 1, 1, none⟩) (by simp) (.int .u64 (tL (0))))
      simp only [List.set_cons_zero, List.set_cons_succ] at R9
      go_wp2_with fail
      exact cells_end (n := 2) ⟨⟨_, Try.underlying48, rfl⟩, by kernel_rfl⟩ rfl (W.heap.size + 1) rfl [.int .i64 (tH (0)), .int .u64 (tL (0))] rfl 48 R9.out rfl ⟨by rw [E.out], B9.out⟩
end Go.Proofs.Ytjhmdflagkenbaa
