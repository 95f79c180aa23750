import Derived.Test.YtjhmdflagkenbaaWdAwakeQ
import Derived.Test.YtjhmdflagkenbaaWdStyleQ
import Derived.Test.YtjhmdflagkenbaaAddsNumQ
import Derived.Test.YtjhmdflagkenbaaRefBndQ
import Derived.Test.YtjhmdflagkenbaaZQ
/- WideAdds answers true. -/
namespace Go.Proofs.Ytjhmdflagkenbaa
open Go Go.RowKit
set_option linter.unusedVariables false
set_option linter.unusedSimpArgs false
set_option maxRecDepth 20000
set_option maxHeartbeats 4000000

theorem wideAdds_any (zs : List Int) (A : Option Addr) (c : Nat) (b0 : Int) (W : World) (hR : Row W W.heap.size A (i64s zs)) (hm : zs.length ≤ 9223372036854775807) :
    Calls Try.prog 6 #[.slice A zs.length c, .int .i64 b0] W fun e w' => e = .returned (.bool true) ∧ Below W.heap.size W w' := by
  obtain ⟨base, hbs, lb⟩ := conv_lt b0 268435456 (by omega) (by omega)
  have HR := Lib.hid hR
  clear hR
  go_enter Try.func6, Try.ntmps6
  go_wp2_with fail
  refine (wstyle_any zs A c W HR.out hm).mono ?_
  rintro e w1 ⟨st, hG, rfl, hb⟩
  have G := Lib.hid hG
  have B1 := Lib.hid (Below.alloc hb hb.size (.cells (i64s zeros43).toArray 27))
  have Z1 := Lib.hid (Whole.mk w1 27 (i64s zeros43).toArray)
  have g1 : W.heap.size ≤ w1.heap.size := hb.size
  clear hG hb HR
  have I := Lib.hid (fun z hz => (G.out.in64 z hz : I64 z))
  have Ib : I64 base := by unfold I64; omega
  have HW := Lib.hid (fun w' => width_any st G.out.len I.out base Ib w')
  have HE := Lib.hid (fun w' => edges_any st G.out.len I.out w')
  have HM := Lib.hid (fun w' => rmin_any st G.out.len base w')
  have HX := Lib.hid (fun w' => rmax_any st G.out.len (G.out.kind 17 (by omega) (by omega) (by omega)) base w')
  have HS3 := Lib.hid (fun w' => side_any (st.getD 29 0) (st.getD 30 0) base (st_in I.out 30) Ib w')
  have HS1 := Lib.hid (fun w' => side_any (st.getD 25 0) (st.getD 26 0) base (st_in I.out 26) Ib w')
  have N := Lib.hid (adds_num st G.out base lb)
  have SL := Lib.hid G.out.len
  rw [show sidZ (st.getD 29 0) (st.getD 30 0) base = befZ st base from rfl] at HS3
  clear I Ib G
  generalize wleftZ st base = l at *
  generalize wwZ st base = w at *
  generalize wrightZ st base = r at *
  generalize edgZ st 0 = e0 at *
  generalize edgZ st 1 = e1 at *
  generalize edgZ st 2 = e2 at *
  generalize edgZ st 3 = e3 at *
  generalize minZ st false base = lo at *
  generalize maxZ st false base = hi at *
  have K9 : Hid (∃ k9, st.getD 9 0 = k9) := Lib.hid ⟨_, rfl⟩
  obtain ⟨k9, hk9⟩ := K9.out
  have HK := Lib.hid hk9
  clear hk9 K9
  have N5 := N.out.told
  have N6 := N.out.alike
  have NN := N.out
  clear N
  have M := Lib.hid (show _ ∧ _ ∧ _ ∧ _ ∧ _ ∧ _ ∧ _ ∧ _ ∧ _ ∧ _ ∧ _ from ⟨NN.sum, NN.low, NN.high, NN.pos, NN.bdl, NN.bdw, NN.bdr, NN.bde1, NN.bde3, NN.bdlo, NN.bdhi⟩)
  clear NN
  rw [HK.out] at N6
  have T5 := Lib.hid N5
  have T6 := Lib.hid N6
  clear N5 N6
  generalize befZ st base = bef at *
  generalize sidZ (st.getD 25 0) (st.getD 26 0) base = aft at *
  generalize sidB (st.getD 29 0) = t3 at *
  generalize sidB (st.getD 25 0) = t1 at *
  go_upto_region 2 with (refine style_store (.tmp 5) (.tmp 21) rfl rfl w1.heap.size rfl st SL.out rfl zeros43 ?_ rfl ?_; (focus (exact Z1.out)); intro w2 h2 o2; have S2 := Lib.hid h2; have B2 := Lib.hid (B1.out.trans (o2.below (by intro x hx; simp at hx; omega) B1.out.size)); clear h2 o2)
  generalize w1.heap.size = g at *
  clear Z1 B1
  go_wp2_with (refine style_load (.tmp 5) rfl rfl g rfl st SL.out ?_ ?_; (focus (exact S2.out)))
  refine (HW.out _).mono ?_
  rintro e w3 ⟨rfl, hb⟩
  have S4 := Lib.hid ((S2.out.under hb S2.out.size).made (.cells #[.int .i64 l, .int .i64 w, .int .i64 r] 29))
  have B4 := Lib.hid ((B2.out.trans (hb.mono B2.out.size)).alloc (by have := B2.out.size; have := hb.size; omega) (.cells #[.int .i64 l, .int .i64 w, .int .i64 r] 29))
  have R4 := Lib.hid (Whole.mk w3 29 #[.int .i64 l, .int .i64 w, .int .i64 r])
  clear hb HW
  go_upto_region 4 with fail
  generalize w3.alloc _ = w4 at *
  generalize w3.heap.size = q at *
  clear S2 B2
  go_wp2_with (refine style_load (.tmp 5) rfl rfl g rfl st SL.out ?_ ?_; (focus (exact S4.out)))
  refine (HE.out _).mono ?_
  rintro e w5 ⟨rfl, hb⟩
  have S5 := Lib.hid (S4.out.under hb S4.out.size)
  have R5 := Lib.hid (R4.out.under hb R4.out.size)
  have B5 := Lib.hid (B4.out.trans (hb.mono B4.out.size))
  clear hb HE S4 B4 R4
  go_upto_region 5 with fail
  have YS := Lib.hid (fun w (hb : Behind w5 w) => S5.out.under hb S5.out.size)
  refine region_lane [] [0, 1, 2, 3, 4, 5] [6, 7] (by kernel_rfl) (by kernel_rfl) (fun _ _ _ _ _ h => h) ?_
  simp only [pick, List.map_nil]
  refine wpQuiet_nil ⟨rfl, ?_⟩
  simp only [List.map_cons, List.map_nil, List.getD_cons_zero, List.getD_cons_succ, List.drop_succ_cons, List.drop_zero]
  refine laneO_fixed (v := .agg (i64s st).toArray) (by kernel_rfl) (fun w hw => .inl ⟨by rfl, gives_style (.tmp 5) rfl g rfl st SL.out (YS.out w hw)⟩) ?_
  simp only [Act.put, List.setIfInBounds_toArray, List.set_cons_zero, List.set_cons_succ]
  refine laneO_run 1 (by kernel_rfl) ?_
  simp only [List.take_succ_cons, List.take_zero, List.drop_succ_cons, List.drop_zero]
  repeat (go_big_quiet_step (fail))
  refine wpQuiet_nil ?_
  refine laneO_call (v := (.int .i64 lo)) (by kernel_rfl) (by rfl) (fun C hC h0 => ?_) ?_
  focus (go_big_quiet_op; exact ⟨_, fun w hw => (HM.out w).mono fun e w' ⟨he, hb⟩ => ⟨he, hC _ _ hw hb⟩, rfl⟩)
  simp only [Act.put, List.setIfInBounds_toArray, List.set_cons_zero, List.set_cons_succ]
  refine laneO_fixed (v := .agg (i64s st).toArray) (by kernel_rfl) (fun w hw => .inl ⟨by rfl, gives_style (.tmp 5) rfl g rfl st SL.out (YS.out w hw)⟩) ?_
  simp only [Act.put, List.setIfInBounds_toArray, List.set_cons_zero, List.set_cons_succ]
  refine laneO_run 1 (by kernel_rfl) ?_
  simp only [List.take_succ_cons, List.take_zero, List.drop_succ_cons, List.drop_zero]
  repeat (go_big_quiet_step (fail))
  refine wpQuiet_nil ?_
  refine laneO_call (v := (.int .i64 hi)) (by kernel_rfl) (by rfl) (fun C hC h0 => ?_) ?_
  focus (go_big_quiet_op; exact ⟨_, fun w hw => (HX.out w).mono fun e w' ⟨he, hb⟩ => ⟨he, hC _ _ hw hb⟩, rfl⟩)
  simp only [Act.put, List.setIfInBounds_toArray, List.set_cons_zero, List.set_cons_succ]
  refine laneO_end0 rfl rfl fun w6 hb0 => ?_
  have S6 := Lib.hid (S5.out.under hb0 S5.out.size)
  have R6 := Lib.hid (R5.out.under hb0 R5.out.size)
  have B6 := Lib.hid (B5.out.trans (Below.mono hb0 B5.out.size))
  clear hb0 YS HM HX S5 R5 B5
  have c0 := S6.out.num 29 (by have := SL.out; omega)
  have c1 := S6.out.num 30 (by have := SL.out; omega)
  go_wp2_with fail
  refine (HS3.out _).mono ?_
  rintro e w7 ⟨rfl, hb⟩
  have S7 := Lib.hid (S6.out.under hb S6.out.size)
  have R7 := Lib.hid (R6.out.under hb R6.out.size)
  have B7 := Lib.hid (B6.out.trans (hb.mono B6.out.size))
  clear hb HS3 c0 c1 S6 R6 B6
  have c0 := S7.out.num 25 (by have := SL.out; omega)
  have c1 := S7.out.num 26 (by have := SL.out; omega)
  go_wp2_with fail
  refine (HS1.out _).mono ?_
  rintro e w8 ⟨rfl, hb⟩
  have S8 := Lib.hid (S7.out.under hb S7.out.size)
  have R8 := Lib.hid (R7.out.under hb R7.out.size)
  have B8 := Lib.hid (B7.out.trans (hb.mono B7.out.size))
  clear hb HS1 c0 c1 S7 R7 B7
  have c9 := S8.out.num 9 (by have := SL.out; omega)
  rw [HK.out] at c9
  have r0 : w8.cell? ⟨q, 0, none⟩ = some (.int .i64 l) := R8.out.cell 0
  have r1 : w8.cell? ⟨q, 1, none⟩ = some (.int .i64 w) := R8.out.cell 1
  have r2 : w8.cell? ⟨q, 2, none⟩ = some (.int .i64 r) := R8.out.cell 2
  clear S8 R8
  go_upto_region 8 with fail
  obtain ⟨n1, n2, n3, n4, n7, n8, n9, n10, n11, n12, n13⟩ := M.out
  clear M
  go_cut [103] from 58 to 104 (fun v wx => v = .bool false ∧ wx = w8)
  case first =>
    have h1 : (l + e1 + e3 + w + r == base) = true := by rw [beq_iff_eq]; exact n1
    have h2 : decide (w < lo) = false := by rw [decide_eq_false_iff_not]; omega
    have h3 : decide (w < 0) = false := by rw [decide_eq_false_iff_not]; omega
    by_cases hh : 0 ≤ hi
    · have h4 := n3 hh
      have h5 : decide (0 ≤ hi) = true := by rw [decide_eq_true_eq]; exact hh
      cases t3
      · go_wp2_with fail
        all_goals (go_meet; refine ⟨?_, rfl⟩; first | rfl | (refine congrArg Value.bool (decide_eq_false ?_); omega))
      · have h6 : l = bef := T5.out rfl
        subst h6
        go_wp2_with fail
        all_goals (go_meet; refine ⟨?_, rfl⟩; first | rfl | (refine congrArg Value.bool (decide_eq_false ?_); omega))
    · have h5 : decide (0 ≤ hi) = false := by rw [decide_eq_false_iff_not]; exact hh
      cases t3
      · go_wp2_with fail
        all_goals (go_meet; refine ⟨?_, rfl⟩; first | rfl | (refine congrArg Value.bool (decide_eq_false ?_); omega))
      · have h6 : l = bef := T5.out rfl
        subst h6
        go_wp2_with fail
        all_goals (go_meet; refine ⟨?_, rfl⟩; first | rfl | (refine congrArg Value.bool (decide_eq_false ?_); omega))
  case rest =>
    obtain ⟨rfl, rfl⟩ := hcut
    cases t3
    · cases t1
      · by_cases hf : 0 ≤ base - w - e1 - e3
        · have hd : decide (0 ≤ base - w - e1 - e3) = true := by rw [decide_eq_true_eq]; exact hf
          by_cases hk : k9 = 0
          · have b9 : (k9 == 0) = true := by rw [beq_iff_eq]; exact hk
            go_wp2_with fail
            refine (wawake_any _).mono ?_
            rintro e w9 ⟨rfl, hb⟩
            have B9 := Lib.hid (B8.out.trans (hb.mono B8.out.size))
            go_wp2_with fail
            go_ret
            exact ⟨rfl, B9.out⟩
          · have b9 : (k9 == 0) = false := by rw [beq_eq_false_iff_ne]; exact hk
            obtain ⟨a1, a2⟩ := T6.out rfl rfl hf hk
            have d1 : decide (0 ≤ r - l) = true := by rw [decide_eq_true_eq]; exact a1
            have d2 : decide (r - l ≤ 1) = true := by rw [decide_eq_true_eq]; exact a2
            go_wp2_with fail
            refine (wawake_any _).mono ?_
            rintro e w9 ⟨rfl, hb⟩
            have B9 := Lib.hid (B8.out.trans (hb.mono B8.out.size))
            go_wp2_with fail
            go_ret
            exact ⟨rfl, B9.out⟩
        · have hd : decide (0 ≤ base - w - e1 - e3) = false := by rw [decide_eq_false_iff_not]; exact hf
          go_wp2_with fail
          refine (wawake_any _).mono ?_
          rintro e w9 ⟨rfl, hb⟩
          have B9 := Lib.hid (B8.out.trans (hb.mono B8.out.size))
          go_wp2_with fail
          go_ret
          exact ⟨rfl, B9.out⟩
      · skip
        go_wp2_with fail
        refine (wawake_any _).mono ?_
        rintro e w9 ⟨rfl, hb⟩
        have B9 := Lib.hid (B8.out.trans (hb.mono B8.out.size))
        go_wp2_with fail
        go_ret
        exact ⟨rfl, B9.out⟩
    · skip
      go_wp2_with fail
      refine (wawake_any _).mono ?_
      rintro e w9 ⟨rfl, hb⟩
      have B9 := Lib.hid (B8.out.trans (hb.mono B8.out.size))
      go_wp2_with fail
      go_ret
      exact ⟨rfl, B9.out⟩
end Go.Proofs.Ytjhmdflagkenbaa
