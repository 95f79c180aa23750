import Derived.Test.YtpbfdfpedpfemaaGreatDoorTreeFit
import Derived.Test.YtpbfdfpedpfemaaGreatDoorLaneC
/- tree.takesBehind. -/
namespace Go.Proofs.YtpbfdfpedpfemaaGreatDoor
open Go Go.RowKit
set_option linter.unusedVariables false
set_option linter.unusedSimpArgs false
set_option maxRecDepth 20000
set_option maxHeartbeats 1000000

theorem takes_any {W : World} {base t : Nat} {most : Int} {L : List Nd} (hT : Tree W base t most L) {last : Int} (hl : In64i last) (n : Nd) (sv : Value) (hU : n.tx = false → ∀ d ∈ n.sty, UntoldOK d) (h : StyAt W sv n.sty) (hd : n.dat.size ≤ 9223372036854775807) (hi : In64i n.id) (hp : In64i n.par) (hL : L.length ≤ 1000) :
    Calls Tryz.prog 38 #[.pointer (some ⟨t, 0, none⟩), .int .i64 last, .agg (nodeC n sv).toArray] W fun e w' => e = .returned (.bool (takesB L last n)) ∧ Below W.heap.size W w' := by
  have B0 := Lib.hid ((Below.refl W.heap.size W).alloc (Nat.le_refl _) (.cells (nodeC n sv).toArray 32))
  have P0 := Lib.hid (Whole.mk W 32 (nodeC n sv).toArray)
  have HC := Lib.hid (isFit_any n sv hU _ (h.below B0.out) hd)
  have T0 := Lib.hid (hT.behind B0.out)
  obtain ⟨A, c, rfl, -, hl2, -⟩ := h
  have F := Lib.hid (show takesB L last n = (decide (0 ≤ n.id ∧ n.id ≤ 1000) && !hasZ L n.id && fitB n && belowZ L last n.par && !txZ L n.par && decide (deepZ L n.par < 20)) from rfl)
  clear hU hT
  go_enter Tryz.func38, Tryz.ntmps38
  go_upto_region 1 with fail
  generalize W.alloc _ = w0 at *
  have c0 : w0.cell? ⟨W.heap.size, 0, none⟩ = some (.int .i64 n.id) := P0.out.cell 0
  have c1 : w0.cell? ⟨W.heap.size, 1, none⟩ = some (.int .i64 n.par) := P0.out.cell 1
  have c2 : w0.cell? ⟨W.heap.size, 2, none⟩ = some (.bool n.tx) := P0.out.cell 2
  have c3 : w0.cell? ⟨W.heap.size, 3, none⟩ = some (.string n.dat) := P0.out.cell 3
  have c4 : w0.cell? ⟨W.heap.size, 4, none⟩ = some (.slice A n.sty.length c) := P0.out.cell 4
  by_cases h0 : n.id < 0
  · have E := Lib.hid (show takesB L last n = false by rw [F.out, decide_eq_false (by omega : ¬ (0 ≤ n.id ∧ n.id ≤ 1000))]; simp)
    clear F
    go_wp2_with fail
    go_ret
    exact ⟨ret_bool E.out.symm, B0.out⟩
  by_cases h1 : 1000 < n.id
  · have E := Lib.hid (show takesB L last n = false by rw [F.out, decide_eq_false (by omega : ¬ (0 ≤ n.id ∧ n.id ≤ 1000))]; simp)
    clear F
    go_wp2_with fail
    go_ret
    exact ⟨ret_bool E.out.symm, B0.out⟩
  have F2 := Lib.hid (show takesB L last n = (!hasZ L n.id && fitB n && belowZ L last n.par && !txZ L n.par && decide (deepZ L n.par < 20)) by rw [F.out, decide_eq_true (by omega : 0 ≤ n.id ∧ n.id ≤ 1000), Bool.true_and])
  clear F
  have HH := Lib.hid (thas_any T0.out hi)
  cases hh : hasZ L n.id
  case true =>
    have E := Lib.hid (show takesB L last n = false by rw [F2.out, hh]; simp)
    rw [hh] at HH
    clear F2
    go_wp2_with fail
    refine HH.out.mono ?_
    rintro e w1 ⟨rfl, rfl⟩
    go_wp2_with fail
    go_ret
    exact ⟨ret_bool E.out.symm, B0.out⟩
  rw [hh] at HH
  cases hf : fitB n
  case false =>
    have E := Lib.hid (show takesB L last n = false by rw [F2.out, hf]; simp)
    rw [hf] at HC
    clear F2
    go_wp2_with fail
    refine HH.out.mono ?_
    rintro e w1 ⟨rfl, rfl⟩
    go_wp2_with fail
    refine HC.out.mono ?_
    rintro e w1 ⟨rfl, hb⟩
    have B1 := Lib.hid (B0.out.trans (hb.mono B0.out.size))
    go_wp2_with fail
    go_ret
    exact ⟨ret_bool E.out.symm, B1.out⟩
  rw [hf] at HC
  have F3 := Lib.hid (show takesB L last n = (belowZ L last n.par && !txZ L n.par && decide (deepZ L n.par < 20)) by rw [F2.out, hh, hf]; simp)
  clear F2
  go_wp2_with fail
  refine HH.out.mono ?_
  rintro e w1 ⟨rfl, rfl⟩
  go_wp2_with fail
  refine HC.out.mono ?_
  rintro e w1 ⟨rfl, hb⟩
  have B1 := Lib.hid (B0.out.trans (hb.mono B0.out.size))
  have P1 := Lib.hid (P0.out.under hb P0.out.size)
  have T1 := Lib.hid (T0.out.behind hb)
  clear hb HH HC c0 c1 c2 c3 c4 T0 P0 B0
  have c1 : w1.cell? ⟨W.heap.size, 1, none⟩ = some (.int .i64 n.par) := P1.out.cell 1
  have HB := Lib.hid (tbelow_any T1.out hl hp)
  cases hbl : belowZ L last n.par
  case false =>
    have E := Lib.hid (show takesB L last n = false by rw [F3.out, hbl]; simp)
    rw [hbl] at HB
    clear F3
    go_wp2_with fail
    refine HB.out.mono ?_
    rintro e w2 ⟨rfl, rfl⟩
    go_wp2_with fail
    go_ret
    exact ⟨ret_bool E.out.symm, B1.out⟩
  rw [hbl] at HB
  go_wp2_with fail
  refine HB.out.mono ?_
  rintro e w2 ⟨rfl, rfl⟩
  go_upto_region 5 with fail
  have TT := Lib.hid (fun w (hb : Behind w1 w) => T1.out.behind hb)
  have y0 : ∀ x : Later w1.heap.size w1, x.w.cell? ⟨W.heap.size, 1, none⟩ = some (.int .i64 n.par) := fun x => (P1.out.under x.h P1.out.size).cell 1
  have HX := Lib.hid (fun w (hb : Behind w1 w) => ntext_any (TT.out w hb) hp)
  cases htx : txZ L n.par
  case false =>
      rw [htx] at HX
      have E := Lib.hid (show takesB L last n = decide (deepZ L n.par < 20) by rw [F3.out, hbl, htx]; simp)
      refine region_lane [] (List.range 13) [13] (by kernel_rfl) (by kernel_rfl) (fun _ _ _ _ _ h => h) ?_
      simp only [pick, List.map_nil]
      refine wpQuiet_nil ⟨rfl, ?_⟩
      rw [show List.range 13 = [0, 1, 2, 3, 4, 5, 6, 7, 8, 9, 10, 11, 12] from rfl]
      simp only [List.map_cons, List.map_nil, List.getD_cons_zero, List.getD_cons_succ, List.drop_succ_cons, List.drop_zero]
      refine laneO_run 1 (by kernel_rfl) ?_
      simp only [List.take_succ_cons, List.take_zero, List.drop_succ_cons, List.drop_zero]
      repeat (go_big_quiet_step (fail))
      refine wpQuiet_nil ?_
      refine laneO_call (v := (.pointer (some ⟨t, 0, none⟩))) (by kernel_rfl) (by rfl) (fun C hC h0 => ?_) ?_
      focus (go_big_quiet_op; exact ⟨_, fun w hw => (held_t t w).mono fun e w' ⟨he, hb⟩ => ⟨he, hb ▸ hw⟩, rfl⟩)
      simp only [Act.put, List.setIfInBounds_toArray, List.set_cons_zero, List.set_cons_succ]
      refine laneO_run 2 (by kernel_rfl) ?_
      simp only [List.take_succ_cons, List.take_zero, List.drop_succ_cons, List.drop_zero]
      repeat (go_big_quiet_step (fail))
      refine wpQuiet_nil ?_
      refine laneO_call (v := (.bool false)) (by kernel_rfl) (by rfl) (fun C hC h0 => ?_) ?_
      focus (go_big_quiet_op; exact ⟨_, fun w hw => (HX.out w (h0 w hw)).mono fun e w' ⟨he, hb⟩ => ⟨he, hb ▸ hw⟩, rfl⟩)
      simp only [Act.put, List.setIfInBounds_toArray, List.set_cons_zero, List.set_cons_succ]
      refine laneO_run 5 (by kernel_rfl) ?_
      simp only [List.take_succ_cons, List.take_zero, List.drop_succ_cons, List.drop_zero]
      repeat (go_big_quiet_step (fail))
      refine wpQuiet_nil ?_
      refine laneO_call (v := (.int .i64 (deepZ L n.par))) (by kernel_rfl) (by rfl) (fun C hC h0 => ?_) ?_
      focus (go_big_quiet_op; exact ⟨_, fun w hw => (tdeep_any (TT.out w (h0 w hw)) hp hL).mono fun e w' ⟨he, hb⟩ => ⟨he, hb ▸ hw⟩, rfl⟩)
      simp only [Act.put, List.setIfInBounds_toArray, List.set_cons_zero, List.set_cons_succ]
      refine laneO_run 2 (by kernel_rfl) ?_
      simp only [List.take_succ_cons, List.take_zero, List.drop_succ_cons, List.drop_zero]
      repeat (go_big_quiet_step (fail))
      refine wpQuiet_nil ?_
      refine laneO_end0 rfl rfl fun w5 hb5 => ?_
      have B5 := Lib.hid (B1.out.trans (Below.mono hb5 B1.out.size))
      clear y0 TT HX
      go_wp2
      go_ret
      exact ⟨ret_bool E.out.symm, B5.out⟩
  case true =>
      rw [htx] at HX
      have E := Lib.hid (show takesB L last n = false by rw [F3.out, htx]; simp)
      refine region_lane [] (List.range 13) [13] (by kernel_rfl) (by kernel_rfl) (fun _ _ _ _ _ h => h) ?_
      simp only [pick, List.map_nil]
      refine wpQuiet_nil ⟨rfl, ?_⟩
      rw [show List.range 13 = [0, 1, 2, 3, 4, 5, 6, 7, 8, 9, 10, 11, 12] from rfl]
      simp only [List.map_cons, List.map_nil, List.getD_cons_zero, List.getD_cons_succ, List.drop_succ_cons, List.drop_zero]
      refine laneO_run 1 (by kernel_rfl) ?_
      simp only [List.take_succ_cons, List.take_zero, List.drop_succ_cons, List.drop_zero]
      repeat (go_big_quiet_step (fail))
      refine wpQuiet_nil ?_
      refine laneO_call (v := (.pointer (some ⟨t, 0, none⟩))) (by kernel_rfl) (by rfl) (fun C hC h0 => ?_) ?_
      focus (go_big_quiet_op; exact ⟨_, fun w hw => (held_t t w).mono fun e w' ⟨he, hb⟩ => ⟨he, hb ▸ hw⟩, rfl⟩)
      simp only [Act.put, List.setIfInBounds_toArray, List.set_cons_zero, List.set_cons_succ]
      refine laneO_run 2 (by kernel_rfl) ?_
      simp only [List.take_succ_cons, List.take_zero, List.drop_succ_cons, List.drop_zero]
      repeat (go_big_quiet_step (fail))
      refine wpQuiet_nil ?_
      refine laneO_call (v := (.bool true)) (by kernel_rfl) (by rfl) (fun C hC h0 => ?_) ?_
      focus (go_big_quiet_op; exact ⟨_, fun w hw => (HX.out w (h0 w hw)).mono fun e w' ⟨he, hb⟩ => ⟨he, hb ▸ hw⟩, rfl⟩)
      simp only [Act.put, List.setIfInBounds_toArray, List.set_cons_zero, List.set_cons_succ]
      refine laneO_run 2 (by kernel_rfl) ?_
      simp only [List.take_succ_cons, List.take_zero, List.drop_succ_cons, List.drop_zero]
      repeat (go_big_quiet_step (fail))
      refine wpQuiet_nil ?_
      refine laneO_skip (by kernel_rfl) (by rfl) ?_
      simp only [Act.put, List.setIfInBounds_toArray, List.set_cons_zero, List.set_cons_succ]
      refine laneO_skip (by kernel_rfl) (by rfl) ?_
      simp only [Act.put, List.setIfInBounds_toArray, List.set_cons_zero, List.set_cons_succ]
      refine laneO_skip (by kernel_rfl) (by rfl) ?_
      simp only [Act.put, List.setIfInBounds_toArray, List.set_cons_zero, List.set_cons_succ]
      refine laneO_skip (by kernel_rfl) (by rfl) ?_
      simp only [Act.put, List.setIfInBounds_toArray, List.set_cons_zero, List.set_cons_succ]
      refine laneO_skip (by kernel_rfl) (by rfl) ?_
      simp only [Act.put, List.setIfInBounds_toArray, List.set_cons_zero, List.set_cons_succ]
      refine laneO_run 1 (by kernel_rfl) ?_
      simp only [List.take_succ_cons, List.take_zero, List.drop_succ_cons, List.drop_zero]
      repeat (go_big_quiet_step (fail))
      refine wpQuiet_nil ?_
      refine laneO_end0 rfl rfl fun w5 hb5 => ?_
      have B5 := Lib.hid (B1.out.trans (Below.mono hb5 B1.out.size))
      clear y0 TT HX
      go_wp2
      go_ret
      exact ⟨ret_bool E.out.symm, B5.out⟩
end Go.Proofs.YtpbfdfpedpfemaaGreatDoor
