import Derived.Test.YtjhmdflagkenbaaWdNumQ
import Derived.Test.YtjhmdflagkenbaaExactOfQ
import Derived.Test.YtjhmdflagkenbaaSizeMaxQ
import Derived.Test.YtjhmdflagkenbaaZQ
/- wide.Side, edge. -/
namespace Go.Proofs.Ytjhmdflagkenbaa
open Go Go.RowKit
set_option linter.unusedVariables false
set_option linter.unusedSimpArgs false
set_option maxRecDepth 20000
set_option maxHeartbeats 4000000

theorem of_told {x : Value} {w : World} {n : Nat} {t : TypeId} (zs : List Int) (hx : madeT n t (i64s zs) x w) (hl : zs.length = n) (hn : n ≤ 1000) (hz : ∀ z ∈ zs, I64 z) :
    Calls Try.prog 17 #[x] w fun e w' => e = .returned (totV zs.sum) ∧ Below w.heap.size w w' := by
  obtain ⟨g, rfl, hg⟩ := hx
  subst hl
  exact of_any zs hz hn _ _ w (row_told hg)
theorem side_any (k n base : Int) (hn : I64 n) (hb : I64 base) (W : World) : Calls Try.prog 16 #[lenV k n, .int .i64 base] W fun e w' => e = .returned (.tuple #[.int .i64 (sidZ k n base), .bool (sidB k)]) ∧ Below W.heap.size W w' := by
  have B := Lib.hid ((Below.refl W.heap.size W).alloc (Nat.le_refl _) (.cells #[.int .i64 k, .int .i64 n] 23))
  by_cases h1 : k = 1
  · subst h1
    go_enter Try.func16, Try.ntmps16
    go_wp2
    refine bodyPost_ret (v := .tuple #[.int .i64 n, .bool true]) (by simp [results, Try.results16, go_sem]) rfl ⟨rfl, B.out⟩
  · have b1 : (k == 1) = false := by rw [beq_eq_false_iff_ne]; exact h1
    by_cases h2 : k = 2
    · subst h2
      have P := Lib.hid (fun w => pct_any base n w hb.1 hb.2 hn.1 hn.2)
      clear hb hn
      go_enter Try.func16, Try.ntmps16
      go_wp2_with fail
      refine (P.out _).mono ?_
      rintro e w' ⟨rfl, rfl⟩
      go_wp2
      refine bodyPost_ret (v := .tuple #[.int .i64 (pctZ base n), .bool true]) (by simp [results, Try.results16, go_sem]) rfl ⟨rfl, B.out⟩
    · have b2 : (k == 2) = false := by rw [beq_eq_false_iff_ne]; exact h2
      have E := Lib.hid (show sidZ k n base = 0 by unfold sidZ; rw [if_neg h1, if_neg h2])
      have F := Lib.hid (show sidB k = false by unfold sidB; rw [decide_eq_false_iff_not]; omega)
      clear h1 h2
      go_enter Try.func16, Try.ntmps16
      go_wp2
      refine bodyPost_ret (v := .tuple #[.int .i64 0, .bool false]) (by simp [results, Try.results16, go_sem]) rfl ⟨by rw [E.out, F.out], B.out⟩
theorem edge_0 (st : List Int) (hl : st.length = 43) (hz : ∀ z ∈ st, I64 z) (g : Nat) (W : World) (hW : Whole W g 27 (i64s st)) :
    Calls Try.prog 27 #[.pointer (some ⟨g, 0, none⟩), .int .i64 0] W fun e w' => e = .returned (.int .i64 (edgZ st 0)) ∧ Below W.heap.size W w' := by
  have HW := Lib.hid hW
  have I1 := st_in hz 31
  have I2 := st_in hz 35
  have HE := Lib.hid (show edgZ st 0 = heldT (st.getD 31 0 + st.getD 35 0) from rfl)
  have Y1 : ∀ t : Later W.heap.size W, t.w.cell? ⟨g, 31, none⟩ = some (.int .i64 (st.getD 31 0)) := fun t => (HW.out.under t.h HW.out.size).num 31 (by omega)
  have Y2 : ∀ t : Later W.heap.size W, t.w.cell? ⟨g, 35, none⟩ = some (.int .i64 (st.getD 35 0)) := fun t => (HW.out.under t.h HW.out.size).num 35 (by omega)
  clear hW hz
  generalize st.getD 31 0 = p at *
  generalize st.getD 35 0 = b at *
  generalize edgZ st 0 = r at *
  have S2 : Tot (p + b) := by unfold Tot I64 at *; omega
  have HO := Lib.hid (fun (x : Value) (w : World) (h : madeT 2 2 [.int .i64 p, .int .i64 b] x w) => of_told [p, b] h rfl (by omega) (by intro z hz; simp only [List.mem_cons, List.not_mem_nil, or_false] at hz; rcases hz with rfl | rfl <;> assumption))
  have HH := Lib.hid (fun w => held_all (p + b) S2 w)
  have SE : [p, b].sum = p + b := by simp
  rw [SE] at HO
  clear S2 SE I1 I2
  go_enter Try.func27, Try.ntmps27
  go_upto_region 1 with fail
  refine region_lane [] (List.range 15) [15] (by kernel_rfl) (by kernel_rfl) (fun _ _ _ _ _ h => h) ?_
  simp only [pick, List.map_nil]
  refine wpQuiet_nil ⟨rfl, ?_⟩
  rw [show List.range 15 = [0, 1, 2, 3, 4, 5, 6, 7, 8, 9, 10, 11, 12, 13, 14] from rfl]
  simp only [List.map_cons, List.map_nil, List.getD_cons_zero, List.getD_cons_succ, List.drop_succ_cons, List.drop_zero]
  refine laneO_run 12 (by kernel_rfl) ?_
  simp only [List.take_succ_cons, List.take_zero, List.drop_succ_cons, List.drop_zero]
  repeat (go_big_quiet_step (fail))
  refine wpQuiet_nil ?_
  refine laneO_told (madeT 2 2 [.int .i64 p, .int .i64 b]) (madeT_steady _ _ _) (by kernel_rfl) rfl (fun w hw => .inl ⟨by rfl, ?_⟩) ?_
  focus (unfold gives; simp [go_sem]; exact madeT_new 2 2 #[.int .i64 p, .int .i64 b] w)
  refine laneO_useCall (v := (totV (p + b))) rfl rfl (of_decide_eq_true (by rfl)) rfl (by rfl) (by rfl) rfl Try.func17 (by kernel_rfl) rfl (fun x w hw hx => HO.out x w hx) ?_
  simp only [Act.put, List.setIfInBounds_toArray, List.set_cons_zero, List.set_cons_succ]
  refine laneO_call (v := (.int .i64 (heldT (p + b)))) (by kernel_rfl) (by rfl) (fun C hC h0 => ?_) ?_
  focus (go_big_quiet_op; exact ⟨_, fun w hw => (HH.out w).mono fun e w' ⟨he, hb⟩ => ⟨he, hC _ _ hw hb⟩, rfl⟩)
  simp only [Act.put, List.setIfInBounds_toArray, List.set_cons_zero, List.set_cons_succ]
  refine laneO_end (by simp) (by rfl) rfl rfl fun w2 hb0 => ?_
  intro x hx
  clear hx
  simp only [fillAll, Act.put, List.setIfInBounds_toArray, List.set_cons_zero, List.set_cons_succ]
  clear Y1 Y2 HO HH
  go_wp2
  go_ret
  exact ⟨ret_int HE.out.symm, hb0⟩
theorem edge_1 (st : List Int) (hl : st.length = 43) (hz : ∀ z ∈ st, I64 z) (g : Nat) (W : World) (hW : Whole W g 27 (i64s st)) :
    Calls Try.prog 27 #[.pointer (some ⟨g, 0, none⟩), .int .i64 1] W fun e w' => e = .returned (.int .i64 (edgZ st 1)) ∧ Below W.heap.size W w' := by
  have HW := Lib.hid hW
  have I1 := st_in hz 32
  have I2 := st_in hz 36
  have HE := Lib.hid (show edgZ st 1 = heldT (st.getD 32 0 + st.getD 36 0) from rfl)
  have Y1 : ∀ t : Later W.heap.size W, t.w.cell? ⟨g, 32, none⟩ = some (.int .i64 (st.getD 32 0)) := fun t => (HW.out.under t.h HW.out.size).num 32 (by omega)
  have Y2 : ∀ t : Later W.heap.size W, t.w.cell? ⟨g, 36, none⟩ = some (.int .i64 (st.getD 36 0)) := fun t => (HW.out.under t.h HW.out.size).num 36 (by omega)
  clear hW hz
  generalize st.getD 32 0 = p at *
  generalize st.getD 36 0 = b at *
  generalize edgZ st 1 = r at *
  have S2 : Tot (p + b) := by unfold Tot I64 at *; omega
  have HO := Lib.hid (fun (x : Value) (w : World) (h : madeT 2 2 [.int .i64 p, .int .i64 b] x w) => of_told [p, b] h rfl (by omega) (by intro z hz; simp only [List.mem_cons, List.not_mem_nil, or_false] at hz; rcases hz with rfl | rfl <;> assumption))
  have HH := Lib.hid (fun w => held_all (p + b) S2 w)
  have SE : [p, b].sum = p + b := by simp
  rw [SE] at HO
  clear S2 SE I1 I2
  go_enter Try.func27, Try.ntmps27
  go_upto_region 1 with fail
  refine region_lane [] (List.range 15) [15] (by kernel_rfl) (by kernel_rfl) (fun _ _ _ _ _ h => h) ?_
  simp only [pick, List.map_nil]
  refine wpQuiet_nil ⟨rfl, ?_⟩
  rw [show List.range 15 = [0, 1, 2, 3, 4, 5, 6, 7, 8, 9, 10, 11, 12, 13, 14] from rfl]
  simp only [List.map_cons, List.map_nil, List.getD_cons_zero, List.getD_cons_succ, List.drop_succ_cons, List.drop_zero]
  refine laneO_run 12 (by kernel_rfl) ?_
  simp only [List.take_succ_cons, List.take_zero, List.drop_succ_cons, List.drop_zero]
  repeat (go_big_quiet_step (fail))
  refine wpQuiet_nil ?_
  refine laneO_told (madeT 2 2 [.int .i64 p, .int .i64 b]) (madeT_steady _ _ _) (by kernel_rfl) rfl (fun w hw => .inl ⟨by rfl, ?_⟩) ?_
  focus (unfold gives; simp [go_sem]; exact madeT_new 2 2 #[.int .i64 p, .int .i64 b] w)
  refine laneO_useCall (v := (totV (p + b))) rfl rfl (of_decide_eq_true (by rfl)) rfl (by rfl) (by rfl) rfl Try.func17 (by kernel_rfl) rfl (fun x w hw hx => HO.out x w hx) ?_
  simp only [Act.put, List.setIfInBounds_toArray, List.set_cons_zero, List.set_cons_succ]
  refine laneO_call (v := (.int .i64 (heldT (p + b)))) (by kernel_rfl) (by rfl) (fun C hC h0 => ?_) ?_
  focus (go_big_quiet_op; exact ⟨_, fun w hw => (HH.out w).mono fun e w' ⟨he, hb⟩ => ⟨he, hC _ _ hw hb⟩, rfl⟩)
  simp only [Act.put, List.setIfInBounds_toArray, List.set_cons_zero, List.set_cons_succ]
  refine laneO_end (by simp) (by rfl) rfl rfl fun w2 hb0 => ?_
  intro x hx
  clear hx
  simp only [fillAll, Act.put, List.setIfInBounds_toArray, List.set_cons_zero, List.set_cons_succ]
  clear Y1 Y2 HO HH
  go_wp2
  go_ret
  exact ⟨ret_int HE.out.symm, hb0⟩
theorem edge_2 (st : List Int) (hl : st.length = 43) (hz : ∀ z ∈ st, I64 z) (g : Nat) (W : World) (hW : Whole W g 27 (i64s st)) :
    Calls Try.prog 27 #[.pointer (some ⟨g, 0, none⟩), .int .i64 2] W fun e w' => e = .returned (.int .i64 (edgZ st 2)) ∧ Below W.heap.size W w' := by
  have HW := Lib.hid hW
  have I1 := st_in hz 33
  have I2 := st_in hz 37
  have HE := Lib.hid (show edgZ st 2 = heldT (st.getD 33 0 + st.getD 37 0) from rfl)
  have Y1 : ∀ t : Later W.heap.size W, t.w.cell? ⟨g, 33, none⟩ = some (.int .i64 (st.getD 33 0)) := fun t => (HW.out.under t.h HW.out.size).num 33 (by omega)
  have Y2 : ∀ t : Later W.heap.size W, t.w.cell? ⟨g, 37, none⟩ = some (.int .i64 (st.getD 37 0)) := fun t => (HW.out.under t.h HW.out.size).num 37 (by omega)
  clear hW hz
  generalize st.getD 33 0 = p at *
  generalize st.getD 37 0 = b at *
  generalize edgZ st 2 = r at *
  have S2 : Tot (p + b) := by unfold Tot I64 at *; omega
  have HO := Lib.hid (fun (x : Value) (w : World) (h : madeT 2 2 [.int .i64 p, .int .i64 b] x w) => of_told [p, b] h rfl (by omega) (by intro z hz; simp only [List.mem_cons, List.not_mem_nil, or_false] at hz; rcases hz with rfl | rfl <;> assumption))
  have HH := Lib.hid (fun w => held_all (p + b) S2 w)
  have SE : [p, b].sum = p + b := by simp
  rw [SE] at HO
  clear S2 SE I1 I2
  go_enter Try.func27, Try.ntmps27
  go_upto_region 1 with fail
  refine region_lane [] (List.range 15) [15] (by kernel_rfl) (by kernel_rfl) (fun _ _ _ _ _ h => h) ?_
  simp only [pick, List.map_nil]
  refine wpQuiet_nil ⟨rfl, ?_⟩
  rw [show List.range 15 = [0, 1, 2, 3, 4, 5, 6, 7, 8, 9, 10, 11, 12, 13, 14] from rfl]
  simp only [List.map_cons, List.map_nil, List.getD_cons_zero, List.getD_cons_succ, List.drop_succ_cons, List.drop_zero]
  refine laneO_run 12 (by kernel_rfl) ?_
  simp only [List.take_succ_cons, List.take_zero, List.drop_succ_cons, List.drop_zero]
  repeat (go_big_quiet_step (fail))
  refine wpQuiet_nil ?_
  refine laneO_told (madeT 2 2 [.int .i64 p, .int .i64 b]) (madeT_steady _ _ _) (by kernel_rfl) rfl (fun w hw => .inl ⟨by rfl, ?_⟩) ?_
  focus (unfold gives; simp [go_sem]; exact madeT_new 2 2 #[.int .i64 p, .int .i64 b] w)
  refine laneO_useCall (v := (totV (p + b))) rfl rfl (of_decide_eq_true (by rfl)) rfl (by rfl) (by rfl) rfl Try.func17 (by kernel_rfl) rfl (fun x w hw hx => HO.out x w hx) ?_
  simp only [Act.put, List.setIfInBounds_toArray, List.set_cons_zero, List.set_cons_succ]
  refine laneO_call (v := (.int .i64 (heldT (p + b)))) (by kernel_rfl) (by rfl) (fun C hC h0 => ?_) ?_
  focus (go_big_quiet_op; exact ⟨_, fun w hw => (HH.out w).mono fun e w' ⟨he, hb⟩ => ⟨he, hC _ _ hw hb⟩, rfl⟩)
  simp only [Act.put, List.setIfInBounds_toArray, List.set_cons_zero, List.set_cons_succ]
  refine laneO_end (by simp) (by rfl) rfl rfl fun w2 hb0 => ?_
  intro x hx
  clear hx
  simp only [fillAll, Act.put, List.setIfInBounds_toArray, List.set_cons_zero, List.set_cons_succ]
  clear Y1 Y2 HO HH
  go_wp2
  go_ret
  exact ⟨ret_int HE.out.symm, hb0⟩
theorem edge_3 (st : List Int) (hl : st.length = 43) (hz : ∀ z ∈ st, I64 z) (g : Nat) (W : World) (hW : Whole W g 27 (i64s st)) :
    Calls Try.prog 27 #[.pointer (some ⟨g, 0, none⟩), .int .i64 3] W fun e w' => e = .returned (.int .i64 (edgZ st 3)) ∧ Below W.heap.size W w' := by
  have HW := Lib.hid hW
  have I1 := st_in hz 34
  have I2 := st_in hz 38
  have HE := Lib.hid (show edgZ st 3 = heldT (st.getD 34 0 + st.getD 38 0) from rfl)
  have Y1 : ∀ t : Later W.heap.size W, t.w.cell? ⟨g, 34, none⟩ = some (.int .i64 (st.getD 34 0)) := fun t => (HW.out.under t.h HW.out.size).num 34 (by omega)
  have Y2 : ∀ t : Later W.heap.size W, t.w.cell? ⟨g, 38, none⟩ = some (.int .i64 (st.getD 38 0)) := fun t => (HW.out.under t.h HW.out.size).num 38 (by omega)
  clear hW hz
  generalize st.getD 34 0 = p at *
  generalize st.getD 38 0 = b at *
  generalize edgZ st 3 = r at *
  have S2 : Tot (p + b) := by unfold Tot I64 at *; omega
  have HO := Lib.hid (fun (x : Value) (w : World) (h : madeT 2 2 [.int .i64 p, .int .i64 b] x w) => of_told [p, b] h rfl (by omega) (by intro z hz; simp only [List.mem_cons, List.not_mem_nil, or_false] at hz; rcases hz with rfl | rfl <;> assumption))
  have HH := Lib.hid (fun w => held_all (p + b) S2 w)
  have SE : [p, b].sum = p + b := by simp
  rw [SE] at HO
  clear S2 SE I1 I2
  go_enter Try.func27, Try.ntmps27
  go_upto_region 1 with fail
  refine region_lane [] (List.range 15) [15] (by kernel_rfl) (by kernel_rfl) (fun _ _ _ _ _ h => h) ?_
  simp only [pick, List.map_nil]
  refine wpQuiet_nil ⟨rfl, ?_⟩
  rw [show List.range 15 = [0, 1, 2, 3, 4, 5, 6, 7, 8, 9, 10, 11, 12, 13, 14] from rfl]
  simp only [List.map_cons, List.map_nil, List.getD_cons_zero, List.getD_cons_succ, List.drop_succ_cons, List.drop_zero]
  refine laneO_run 12 (by kernel_rfl) ?_
  simp only [List.take_succ_cons, List.take_zero, List.drop_succ_cons, List.drop_zero]
  repeat (go_big_quiet_step (fail))
  refine wpQuiet_nil ?_
  refine laneO_told (madeT 2 2 [.int .i64 p, .int .i64 b]) (madeT_steady _ _ _) (by kernel_rfl) rfl (fun w hw => .inl ⟨by rfl, ?_⟩) ?_
  focus (unfold gives; simp [go_sem]; exact madeT_new 2 2 #[.int .i64 p, .int .i64 b] w)
  refine laneO_useCall (v := (totV (p + b))) rfl rfl (of_decide_eq_true (by rfl)) rfl (by rfl) (by rfl) rfl Try.func17 (by kernel_rfl) rfl (fun x w hw hx => HO.out x w hx) ?_
  simp only [Act.put, List.setIfInBounds_toArray, List.set_cons_zero, List.set_cons_succ]
  refine laneO_call (v := (.int .i64 (heldT (p + b)))) (by kernel_rfl) (by rfl) (fun C hC h0 => ?_) ?_
  focus (go_big_quiet_op; exact ⟨_, fun w hw => (HH.out w).mono fun e w' ⟨he, hb⟩ => ⟨he, hC _ _ hw hb⟩, rfl⟩)
  simp only [Act.put, List.setIfInBounds_toArray, List.set_cons_zero, List.set_cons_succ]
  refine laneO_end (by simp) (by rfl) rfl rfl fun w2 hb0 => ?_
  intro x hx
  clear hx
  simp only [fillAll, Act.put, List.setIfInBounds_toArray, List.set_cons_zero, List.set_cons_succ]
  clear Y1 Y2 HO HH
  go_wp2
  go_ret
  exact ⟨ret_int HE.out.symm, hb0⟩
theorem edge_any (st : List Int) (hl : st.length = 43) (hz : ∀ z ∈ st, I64 z) (g i : Nat) (hi : i < 4) (W : World) (hW : Whole W g 27 (i64s st)) :
    Calls Try.prog 27 #[.pointer (some ⟨g, 0, none⟩), .int .i64 i] W fun e w' => e = .returned (.int .i64 (edgZ st i)) ∧ Below W.heap.size W w' := by
  rcases (show i = 0 ∨ i = 1 ∨ i = 2 ∨ i = 3 by omega) with rfl | rfl | rfl | rfl
  · exact edge_0 st hl hz g W hW
  · exact edge_1 st hl hz g W hW
  · exact edge_2 st hl hz g W hW
  · exact edge_3 st hl hz g W hW
end Go.Proofs.Ytjhmdflagkenbaa
