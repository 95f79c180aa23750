import Derived.Test.YtncaichachipkaaWhitAddQ
/- whit.written's add. -/
namespace Go.Proofs.Ytncaichachipkaa
open Go Go.RowKit
set_option linter.unusedVariables false
set_option linter.unusedSimpArgs false
set_option maxRecDepth 20000
set_option maxHeartbeats 4000000

theorem add_break (W w0 : World) (lo : Nat) (zs : List Int) (A0 : Option Addr) (n0 c0 : Nat) (cur : List Gl) (rk rr ra rd gr ga gd : Int) (h : WAt W w0 lo zs A0 n0 c0 ⟨cur, ⟨rk, rr, ra, rd⟩⟩) (hn : n0 = cur.length) (hb : n0 ≤ 200000)  :
    Calls Try.prog 34 #[.pointer (some ⟨lo + 1, 0, none⟩), .agg #[.int .i64 4, .int .i64 gr, .int .i64 ga, .int .i64 gd]] w0 (WPost W lo zs A0 n0 c0 ⟨cur ++ [⟨4, gr, ga, gd⟩], gl0⟩ w0) := by
  have HN := Lib.hid hn
  have S1 := Lib.hid (AddSt.start h ⟨4, gr, ga, gd⟩)
  clear h hn
  go_enter Try.func34, Try.ntmps34
  go_upto_region 1 with fail
  have hgs : Hid (w0.heap.size = w0.heap.size) := Lib.hid rfl
  generalize w0.alloc (.cells #[.int .i64 4, .int .i64 gr, .int .i64 ga, .int .i64 gd] 81) = w1 at *
  generalize hgb : w0.heap.size = gb at S1
  obtain ⟨q0, q1, q2, q3⟩ := S1.out.gcells
  simp only at q0 q1 q2 q3
  have zg := S1.out.gl.size
  have z0 := S1.out.st.size
  obtain ⟨e0, e1, e2, e3, e4⟩ := S1.out.st.cells
  obtain ⟨f0, f1, f2, f3, f4⟩ := S1.out.st.frees
  simp only at e1 e2 e3 e4
  clear hgs
  go_upto_region 10 with fail
  have S2 := Lib.hid (S1.out.putRow gl0)
  clear e0 e1 e2 e3 e4 f0 f1 f2 f3 f4 q0 q1 q2 q3 zg z0
  generalize ((((w1.setCell ⟨lo + 1, 1, none⟩ (.int .i64 0)).setCell ⟨lo + 1, 2, none⟩ (.int .i64 0)).setCell ⟨lo + 1, 3, none⟩ (.int .i64 0)).setCell ⟨lo + 1, 4, none⟩ (.int .i64 0)) = w2 at *
  have T2 : Hid (AddSt W w0 w2 lo zs A0 n0 c0 A0 n0 c0 ⟨cur, gl0⟩ gb ⟨4, gr, ga, gd⟩) := Lib.hid S2.out
  clear S1 S2
  have Q := Lib.hid (fun t : Later w2.heap.size w2 => T2.out.behind t.h)
  have k0 : ∀ t : Later w2.heap.size w2, t.w.cell? ⟨lo + 1, 0, none⟩ = some (.slice A0 n0 c0) := fun t => (Q.out t).st.cells.1
  have q0 : ∀ t : Later w2.heap.size w2, t.w.cell? ⟨gb, 0, none⟩ = some (.int .i64 4) := fun t => (Q.out t).gcells.1
  have q1 : ∀ t : Later w2.heap.size w2, t.w.cell? ⟨gb, 1, none⟩ = some (.int .i64 gr) := fun t => (Q.out t).gcells.2.1
  have q2 : ∀ t : Later w2.heap.size w2, t.w.cell? ⟨gb, 2, none⟩ = some (.int .i64 ga) := fun t => (Q.out t).gcells.2.2.1
  have q3 : ∀ t : Later w2.heap.size w2, t.w.cell? ⟨gb, 3, none⟩ = some (.int .i64 gd) := fun t => (Q.out t).gcells.2.2.2
  refine region_lane [0, 1] [2, 3, 4, 5, 6] [7, 8, 9, 10] (by kernel_rfl) (by kernel_rfl) (fun _ _ _ _ _ h => h) ?_
  simp only [pick, List.map_cons, List.map_nil, List.getD_cons_zero, List.getD_cons_succ, List.drop_succ_cons, List.drop_zero]
  repeat (go_big_quiet_step (fail))
  refine wpQuiet_nil ?_
  refine ⟨rfl, ?_⟩
  refine laneO_run 4 (by kernel_rfl) ?_
  simp only [List.take_succ_cons, List.take_zero, List.drop_succ_cons, List.drop_zero]
  repeat (go_big_quiet_step (fail))
  refine wpQuiet_nil ?_
  refine laneO_told (madeT 1 81 [.int .i64 4, .int .i64 gr, .int .i64 ga, .int .i64 gd]) (madeT_steady _ _ _) (by kernel_rfl) rfl (fun w hw => .inl ⟨by rfl, ?_⟩) ?_
  · unfold gives
    simp [go_sem]
    exact madeT_new 1 81 #[.int .i64 4, .int .i64 gr, .int .i64 ga, .int .i64 gd] w
  refine laneO_end (by simp) rfl rfl rfl fun w3 hb0 => ?_
  rintro u ⟨g3, rfl, hg3⟩
  simp only [Act.put, List.setIfInBounds_toArray, List.set_cons_zero, List.set_cons_succ, fillAll]
  have U3 := Lib.hid (T2.out.behind hb0)
  clear k0 q0 q1 q2 q3 Q hb0
  refine wpList_pushOne (by rfl) (.tmp 52) (.tmp 54) _ rfl (lo + 1) 81 4 32 (.agg #[.int .i64 0, .int .i64 0, .int .i64 0, .int .i64 0]) Try.underlying75 gl_info rfl (by decide) n0 (.slice A0 n0 c0) _ rfl U3.out.st.row.own (by have := U3.out.st.size; omega) g3 [.int .i64 4, .int .i64 gr, .int .i64 ga, .int .i64 gd] rfl hg3 rfl (by simp [Value.oneCell']) (by unfold maxLen; omega) (by omega) ?_
  intro A3 c3 w3b h2 ho hk
  have S3 := Lib.hid (U3.out.pushed ⟨4, gr, ga, gd⟩ h2 ho hk)
  have z3 : lo + 1 < w3b.heap.size := by have := U3.out.st.size; have := ho.size; omega
  have X3 := ho.whole U3.out.st.obj fun e => U3.out.st.off (lo + 1) (by simpa using e) rfl
  have f0 : w3b.frozen? ⟨lo + 1, 0, none⟩ = false := X3.free 0
  have e0 : w3b.cell? ⟨lo + 1, 0, none⟩ = some (.slice A0 n0 c0) := X3.cell 0
  clear h2 ho hk U3 X3 hg3
  go_wp2
  exact bodyPost_end (v := .tuple #[]) (results_none (by kernel_rfl) _ _ _) rfl ⟨rfl, _, _, _, by rw [HN.out]; simp, S3.out.st, S3.out.only⟩
theorem add_ink0 (W w0 : World) (lo : Nat) (zs : List Int) (A0 : Option Addr) (n0 c0 : Nat) (cur : List Gl) (rr ra rd gr ga gd : Int) (h : WAt W w0 lo zs A0 n0 c0 ⟨cur, ⟨0, rr, ra, rd⟩⟩) (hn : n0 = cur.length) (hb : n0 ≤ 200000)  :
    Calls Try.prog 34 #[.pointer (some ⟨lo + 1, 0, none⟩), .agg #[.int .i64 1, .int .i64 gr, .int .i64 ga, .int .i64 gd]] w0 (WPost W lo zs A0 n0 c0 ⟨cur ++ [⟨1, gr, ga, gd⟩], gl0⟩ w0) := by
  have HN := Lib.hid hn
  have S1 := Lib.hid (AddSt.start h ⟨1, gr, ga, gd⟩)
  clear h hn
  go_enter Try.func34, Try.ntmps34
  go_upto_region 1 with fail
  have hgs : Hid (w0.heap.size = w0.heap.size) := Lib.hid rfl
  generalize w0.alloc (.cells #[.int .i64 1, .int .i64 gr, .int .i64 ga, .int .i64 gd] 81) = w1 at *
  generalize hgb : w0.heap.size = gb at S1
  obtain ⟨q0, q1, q2, q3⟩ := S1.out.gcells
  simp only at q0 q1 q2 q3
  have zg := S1.out.gl.size
  have z0 := S1.out.st.size
  obtain ⟨e0, e1, e2, e3, e4⟩ := S1.out.st.cells
  obtain ⟨f0, f1, f2, f3, f4⟩ := S1.out.st.frees
  simp only at e1 e2 e3 e4
  clear hgs
  go_upto_region 10 with fail
  have S2 := Lib.hid (S1.out.putRow gl0)
  clear e0 e1 e2 e3 e4 f0 f1 f2 f3 f4 q0 q1 q2 q3 zg z0
  generalize ((((w1.setCell ⟨lo + 1, 1, none⟩ (.int .i64 0)).setCell ⟨lo + 1, 2, none⟩ (.int .i64 0)).setCell ⟨lo + 1, 3, none⟩ (.int .i64 0)).setCell ⟨lo + 1, 4, none⟩ (.int .i64 0)) = w2 at *
  have T2 : Hid (AddSt W w0 w2 lo zs A0 n0 c0 A0 n0 c0 ⟨cur, gl0⟩ gb ⟨1, gr, ga, gd⟩) := Lib.hid S2.out
  clear S1 S2
  have Q := Lib.hid (fun t : Later w2.heap.size w2 => T2.out.behind t.h)
  have k0 : ∀ t : Later w2.heap.size w2, t.w.cell? ⟨lo + 1, 0, none⟩ = some (.slice A0 n0 c0) := fun t => (Q.out t).st.cells.1
  have q0 : ∀ t : Later w2.heap.size w2, t.w.cell? ⟨gb, 0, none⟩ = some (.int .i64 1) := fun t => (Q.out t).gcells.1
  have q1 : ∀ t : Later w2.heap.size w2, t.w.cell? ⟨gb, 1, none⟩ = some (.int .i64 gr) := fun t => (Q.out t).gcells.2.1
  have q2 : ∀ t : Later w2.heap.size w2, t.w.cell? ⟨gb, 2, none⟩ = some (.int .i64 ga) := fun t => (Q.out t).gcells.2.2.1
  have q3 : ∀ t : Later w2.heap.size w2, t.w.cell? ⟨gb, 3, none⟩ = some (.int .i64 gd) := fun t => (Q.out t).gcells.2.2.2
  refine region_lane [0, 1] [2, 3, 4, 5, 6] [7, 8, 9, 10] (by kernel_rfl) (by kernel_rfl) (fun _ _ _ _ _ h => h) ?_
  simp only [pick, List.map_cons, List.map_nil, List.getD_cons_zero, List.getD_cons_succ, List.drop_succ_cons, List.drop_zero]
  repeat (go_big_quiet_step (fail))
  refine wpQuiet_nil ?_
  refine ⟨rfl, ?_⟩
  refine laneO_run 4 (by kernel_rfl) ?_
  simp only [List.take_succ_cons, List.take_zero, List.drop_succ_cons, List.drop_zero]
  repeat (go_big_quiet_step (fail))
  refine wpQuiet_nil ?_
  refine laneO_told (madeT 1 81 [.int .i64 1, .int .i64 gr, .int .i64 ga, .int .i64 gd]) (madeT_steady _ _ _) (by kernel_rfl) rfl (fun w hw => .inl ⟨by rfl, ?_⟩) ?_
  · unfold gives
    simp [go_sem]
    exact madeT_new 1 81 #[.int .i64 1, .int .i64 gr, .int .i64 ga, .int .i64 gd] w
  refine laneO_end (by simp) rfl rfl rfl fun w3 hb0 => ?_
  rintro u ⟨g3, rfl, hg3⟩
  simp only [Act.put, List.setIfInBounds_toArray, List.set_cons_zero, List.set_cons_succ, fillAll]
  have U3 := Lib.hid (T2.out.behind hb0)
  clear k0 q0 q1 q2 q3 Q hb0
  refine wpList_pushOne (by rfl) (.tmp 52) (.tmp 54) _ rfl (lo + 1) 81 4 32 (.agg #[.int .i64 0, .int .i64 0, .int .i64 0, .int .i64 0]) Try.underlying75 gl_info rfl (by decide) n0 (.slice A0 n0 c0) _ rfl U3.out.st.row.own (by have := U3.out.st.size; omega) g3 [.int .i64 1, .int .i64 gr, .int .i64 ga, .int .i64 gd] rfl hg3 rfl (by simp [Value.oneCell']) (by unfold maxLen; omega) (by omega) ?_
  intro A3 c3 w3b h2 ho hk
  have S3 := Lib.hid (U3.out.pushed ⟨1, gr, ga, gd⟩ h2 ho hk)
  have z3 : lo + 1 < w3b.heap.size := by have := U3.out.st.size; have := ho.size; omega
  have X3 := ho.whole U3.out.st.obj fun e => U3.out.st.off (lo + 1) (by simpa using e) rfl
  have f0 : w3b.frozen? ⟨lo + 1, 0, none⟩ = false := X3.free 0
  have e0 : w3b.cell? ⟨lo + 1, 0, none⟩ = some (.slice A0 n0 c0) := X3.cell 0
  clear h2 ho hk U3 X3 hg3
  go_wp2
  exact bodyPost_end (v := .tuple #[]) (results_none (by kernel_rfl) _ _ _) rfl ⟨rfl, _, _, _, by rw [HN.out]; simp, S3.out.st, S3.out.only⟩
theorem add_ink1 (W w0 : World) (lo : Nat) (zs : List Int) (A0 : Option Addr) (n0 c0 : Nat) (cur : List Gl) (rk rr ra rd gr ga gd : Int) (h : WAt W w0 lo zs A0 n0 c0 ⟨cur, ⟨rk, rr, ra, rd⟩⟩) (hn : n0 = cur.length) (hb : n0 ≤ 200000) (hr : (rk == 0) = false) (hl : onL cur = false) :
    Calls Try.prog 34 #[.pointer (some ⟨lo + 1, 0, none⟩), .agg #[.int .i64 1, .int .i64 gr, .int .i64 ga, .int .i64 gd]] w0 (WPost W lo zs A0 n0 c0 ⟨cur ++ [⟨1, gr, ga, gd⟩], gl0⟩ w0) := by
  have HL := Lib.hid hl
  clear hl
  have HN := Lib.hid hn
  have S1 := Lib.hid (AddSt.start h ⟨1, gr, ga, gd⟩)
  clear h hn
  go_enter Try.func34, Try.ntmps34
  go_upto_region 1 with fail
  have hgs : Hid (w0.heap.size = w0.heap.size) := Lib.hid rfl
  generalize w0.alloc (.cells #[.int .i64 1, .int .i64 gr, .int .i64 ga, .int .i64 gd] 81) = w1 at *
  generalize hgb : w0.heap.size = gb at S1
  obtain ⟨q0, q1, q2, q3⟩ := S1.out.gcells
  simp only at q0 q1 q2 q3
  have zg := S1.out.gl.size
  have z0 := S1.out.st.size
  obtain ⟨e0, e1, e2, e3, e4⟩ := S1.out.st.cells
  obtain ⟨f0, f1, f2, f3, f4⟩ := S1.out.st.frees
  simp only at e1 e2 e3 e4
  clear hgs
  have hr2 : ¬ rk = 0 := by simpa using hr
  have CL := Lib.hid (wonline_any W w1 lo zs A0 n0 c0 _ S1.out.st HN.out hb)
  rw [HL.out] at CL
  go_wp2_with fail
  refine CL.out.mono ?_
  rintro e w' ⟨rfl, rfl⟩
  clear CL
  go_upto_region 10 with fail
  have S2 := Lib.hid (S1.out.putRow gl0)
  clear e0 e1 e2 e3 e4 f0 f1 f2 f3 f4 q0 q1 q2 q3 zg z0
  generalize ((((w1.setCell ⟨lo + 1, 1, none⟩ (.int .i64 0)).setCell ⟨lo + 1, 2, none⟩ (.int .i64 0)).setCell ⟨lo + 1, 3, none⟩ (.int .i64 0)).setCell ⟨lo + 1, 4, none⟩ (.int .i64 0)) = w2 at *
  have T2 : Hid (AddSt W w0 w2 lo zs A0 n0 c0 A0 n0 c0 ⟨cur, gl0⟩ gb ⟨1, gr, ga, gd⟩) := Lib.hid S2.out
  clear S1 S2
  have Q := Lib.hid (fun t : Later w2.heap.size w2 => T2.out.behind t.h)
  have k0 : ∀ t : Later w2.heap.size w2, t.w.cell? ⟨lo + 1, 0, none⟩ = some (.slice A0 n0 c0) := fun t => (Q.out t).st.cells.1
  have q0 : ∀ t : Later w2.heap.size w2, t.w.cell? ⟨gb, 0, none⟩ = some (.int .i64 1) := fun t => (Q.out t).gcells.1
  have q1 : ∀ t : Later w2.heap.size w2, t.w.cell? ⟨gb, 1, none⟩ = some (.int .i64 gr) := fun t => (Q.out t).gcells.2.1
  have q2 : ∀ t : Later w2.heap.size w2, t.w.cell? ⟨gb, 2, none⟩ = some (.int .i64 ga) := fun t => (Q.out t).gcells.2.2.1
  have q3 : ∀ t : Later w2.heap.size w2, t.w.cell? ⟨gb, 3, none⟩ = some (.int .i64 gd) := fun t => (Q.out t).gcells.2.2.2
  refine region_lane [0, 1] [2, 3, 4, 5, 6] [7, 8, 9, 10] (by kernel_rfl) (by kernel_rfl) (fun _ _ _ _ _ h => h) ?_
  simp only [pick, List.map_cons, List.map_nil, List.getD_cons_zero, List.getD_cons_succ, List.drop_succ_cons, List.drop_zero]
  repeat (go_big_quiet_step (fail))
  refine wpQuiet_nil ?_
  refine ⟨rfl, ?_⟩
  refine laneO_run 4 (by kernel_rfl) ?_
  simp only [List.take_succ_cons, List.take_zero, List.drop_succ_cons, List.drop_zero]
  repeat (go_big_quiet_step (fail))
  refine wpQuiet_nil ?_
  refine laneO_told (madeT 1 81 [.int .i64 1, .int .i64 gr, .int .i64 ga, .int .i64 gd]) (madeT_steady _ _ _) (by kernel_rfl) rfl (fun w hw => .inl ⟨by rfl, ?_⟩) ?_
  · unfold gives
    simp [go_sem]
    exact madeT_new 1 81 #[.int .i64 1, .int .i64 gr, .int .i64 ga, .int .i64 gd] w
  refine laneO_end (by simp) rfl rfl rfl fun w3 hb0 => ?_
  rintro u ⟨g3, rfl, hg3⟩
  simp only [Act.put, List.setIfInBounds_toArray, List.set_cons_zero, List.set_cons_succ, fillAll]
  have U3 := Lib.hid (T2.out.behind hb0)
  clear k0 q0 q1 q2 q3 Q hb0
  refine wpList_pushOne (by rfl) (.tmp 52) (.tmp 54) _ rfl (lo + 1) 81 4 32 (.agg #[.int .i64 0, .int .i64 0, .int .i64 0, .int .i64 0]) Try.underlying75 gl_info rfl (by decide) n0 (.slice A0 n0 c0) _ rfl U3.out.st.row.own (by have := U3.out.st.size; omega) g3 [.int .i64 1, .int .i64 gr, .int .i64 ga, .int .i64 gd] rfl hg3 rfl (by simp [Value.oneCell']) (by unfold maxLen; omega) (by omega) ?_
  intro A3 c3 w3b h2 ho hk
  have S3 := Lib.hid (U3.out.pushed ⟨1, gr, ga, gd⟩ h2 ho hk)
  have z3 : lo + 1 < w3b.heap.size := by have := U3.out.st.size; have := ho.size; omega
  have X3 := ho.whole U3.out.st.obj fun e => U3.out.st.off (lo + 1) (by simpa using e) rfl
  have f0 : w3b.frozen? ⟨lo + 1, 0, none⟩ = false := X3.free 0
  have e0 : w3b.cell? ⟨lo + 1, 0, none⟩ = some (.slice A0 n0 c0) := X3.cell 0
  clear h2 ho hk U3 X3 hg3
  go_wp2
  exact bodyPost_end (v := .tuple #[]) (results_none (by kernel_rfl) _ _ _) rfl ⟨rfl, _, _, _, by rw [HN.out]; simp, S3.out.st, S3.out.only⟩
theorem add_s0 (W w0 : World) (lo : Nat) (zs : List Int) (A0 : Option Addr) (n0 c0 : Nat) (cur : List Gl) (rr ra rd gr ga gd : Int) (h : WAt W w0 lo zs A0 n0 c0 ⟨cur, ⟨0, rr, ra, rd⟩⟩) (hn : n0 = cur.length) (hb : n0 ≤ 200000)  :
    Calls Try.prog 34 #[.pointer (some ⟨lo + 1, 0, none⟩), .agg #[.int .i64 2, .int .i64 gr, .int .i64 ga, .int .i64 gd]] w0 (WPost W lo zs A0 n0 c0 ⟨cur, ⟨2, gr, ga, gd⟩⟩ w0) := by
  have HN := Lib.hid hn
  have S1 := Lib.hid (AddSt.start h ⟨2, gr, ga, gd⟩)
  clear h hn
  go_enter Try.func34, Try.ntmps34
  go_upto_region 1 with fail
  have hgs : Hid (w0.heap.size = w0.heap.size) := Lib.hid rfl
  generalize w0.alloc (.cells #[.int .i64 2, .int .i64 gr, .int .i64 ga, .int .i64 gd] 81) = w1 at *
  generalize hgb : w0.heap.size = gb at S1
  obtain ⟨q0, q1, q2, q3⟩ := S1.out.gcells
  simp only at q0 q1 q2 q3
  have zg := S1.out.gl.size
  have z0 := S1.out.st.size
  obtain ⟨e0, e1, e2, e3, e4⟩ := S1.out.st.cells
  obtain ⟨f0, f1, f2, f3, f4⟩ := S1.out.st.frees
  simp only at e1 e2 e3 e4
  clear hgs
  have S2 := Lib.hid (S1.out.putRow ⟨2, gr, ga, gd⟩)
  go_wp2
  exact bodyPost_end (v := .tuple #[]) (results_none (by kernel_rfl) _ _ _) rfl ⟨rfl, _, _, _, HN.out, S2.out.st, S2.out.only⟩
theorem add_s1 (W w0 : World) (lo : Nat) (zs : List Int) (A0 : Option Addr) (n0 c0 : Nat) (cur : List Gl) (rk rr ra rd gr ga gd : Int) (h : WAt W w0 lo zs A0 n0 c0 ⟨cur, ⟨rk, rr, ra, rd⟩⟩) (hn : n0 = cur.length) (hb : n0 ≤ 200000) (hr : (rk == 0) = false) :
    Calls Try.prog 34 #[.pointer (some ⟨lo + 1, 0, none⟩), .agg #[.int .i64 2, .int .i64 gr, .int .i64 ga, .int .i64 gd]] w0 (WPost W lo zs A0 n0 c0 ⟨cur, ⟨rk, rr, ra, rd⟩⟩ w0) := by
  have HN := Lib.hid hn
  have S1 := Lib.hid (AddSt.start h ⟨2, gr, ga, gd⟩)
  clear h hn
  go_enter Try.func34, Try.ntmps34
  go_upto_region 1 with fail
  have hgs : Hid (w0.heap.size = w0.heap.size) := Lib.hid rfl
  generalize w0.alloc (.cells #[.int .i64 2, .int .i64 gr, .int .i64 ga, .int .i64 gd] 81) = w1 at *
  generalize hgb : w0.heap.size = gb at S1
  obtain ⟨q0, q1, q2, q3⟩ := S1.out.gcells
  simp only at q0 q1 q2 q3
  have zg := S1.out.gl.size
  have z0 := S1.out.st.size
  obtain ⟨e0, e1, e2, e3, e4⟩ := S1.out.st.cells
  obtain ⟨f0, f1, f2, f3, f4⟩ := S1.out.st.frees
  simp only at e1 e2 e3 e4
  clear hgs
  have hr2 : ¬ rk = 0 := by simpa using hr
  go_wp2
  exact bodyPost_end (v := .tuple #[]) (results_none (by kernel_rfl) _ _ _) rfl ⟨rfl, _, _, _, HN.out, S1.out.st, S1.out.only⟩
theorem add_h0 (W w0 : World) (lo : Nat) (zs : List Int) (A0 : Option Addr) (n0 c0 : Nat) (cur : List Gl) (rr ra rd gr ga gd : Int) (h : WAt W w0 lo zs A0 n0 c0 ⟨cur, ⟨0, rr, ra, rd⟩⟩) (hn : n0 = cur.length) (hb : n0 ≤ 200000)  :
    Calls Try.prog 34 #[.pointer (some ⟨lo + 1, 0, none⟩), .agg #[.int .i64 3, .int .i64 gr, .int .i64 ga, .int .i64 gd]] w0 (WPost W lo zs A0 n0 c0 ⟨cur, ⟨3, gr, ga, gd⟩⟩ w0) := by
  have HN := Lib.hid hn
  have S1 := Lib.hid (AddSt.start h ⟨3, gr, ga, gd⟩)
  clear h hn
  go_enter Try.func34, Try.ntmps34
  go_upto_region 1 with fail
  have hgs : Hid (w0.heap.size = w0.heap.size) := Lib.hid rfl
  generalize w0.alloc (.cells #[.int .i64 3, .int .i64 gr, .int .i64 ga, .int .i64 gd] 81) = w1 at *
  generalize hgb : w0.heap.size = gb at S1
  obtain ⟨q0, q1, q2, q3⟩ := S1.out.gcells
  simp only at q0 q1 q2 q3
  have zg := S1.out.gl.size
  have z0 := S1.out.st.size
  obtain ⟨e0, e1, e2, e3, e4⟩ := S1.out.st.cells
  obtain ⟨f0, f1, f2, f3, f4⟩ := S1.out.st.frees
  simp only at e1 e2 e3 e4
  clear hgs
  have S2 := Lib.hid (S1.out.putRow ⟨3, gr, ga, gd⟩)
  go_wp2
  exact bodyPost_end (v := .tuple #[]) (results_none (by kernel_rfl) _ _ _) rfl ⟨rfl, _, _, _, HN.out, S2.out.st, S2.out.only⟩
theorem add_h1 (W w0 : World) (lo : Nat) (zs : List Int) (A0 : Option Addr) (n0 c0 : Nat) (cur : List Gl) (rk rr ra rd gr ga gd : Int) (h : WAt W w0 lo zs A0 n0 c0 ⟨cur, ⟨rk, rr, ra, rd⟩⟩) (hn : n0 = cur.length) (hb : n0 ≤ 200000) (hr : (rk == 0) = false) :
    Calls Try.prog 34 #[.pointer (some ⟨lo + 1, 0, none⟩), .agg #[.int .i64 3, .int .i64 gr, .int .i64 ga, .int .i64 gd]] w0 (WPost W lo zs A0 n0 c0 ⟨cur, ⟨rk, rr, ra, rd⟩⟩ w0) := by
  have HN := Lib.hid hn
  have S1 := Lib.hid (AddSt.start h ⟨3, gr, ga, gd⟩)
  clear h hn
  go_enter Try.func34, Try.ntmps34
  go_upto_region 1 with fail
  have hgs : Hid (w0.heap.size = w0.heap.size) := Lib.hid rfl
  generalize w0.alloc (.cells #[.int .i64 3, .int .i64 gr, .int .i64 ga, .int .i64 gd] 81) = w1 at *
  generalize hgb : w0.heap.size = gb at S1
  obtain ⟨q0, q1, q2, q3⟩ := S1.out.gcells
  simp only at q0 q1 q2 q3
  have zg := S1.out.gl.size
  have z0 := S1.out.st.size
  obtain ⟨e0, e1, e2, e3, e4⟩ := S1.out.st.cells
  obtain ⟨f0, f1, f2, f3, f4⟩ := S1.out.st.frees
  simp only at e1 e2 e3 e4
  clear hgs
  have hr2 : ¬ rk = 0 := by simpa using hr
  go_wp2
  exact bodyPost_end (v := .tuple #[]) (results_none (by kernel_rfl) _ _ _) rfl ⟨rfl, _, _, _, HN.out, S1.out.st, S1.out.only⟩
theorem add_ink2 (W w0 : World) (lo : Nat) (zs : List Int) (A0 : Option Addr) (n0 c0 : Nat) (cur : List Gl) (rk rr ra rd gr ga gd : Int) (h : WAt W w0 lo zs A0 n0 c0 ⟨cur, ⟨rk, rr, ra, rd⟩⟩) (hn : n0 = cur.length) (hb : n0 ≤ 200000) (hr : (rk == 0) = false) (hl : onL cur = true) :
    Calls Try.prog 34 #[.pointer (some ⟨lo + 1, 0, none⟩), .agg #[.int .i64 1, .int .i64 gr, .int .i64 ga, .int .i64 gd]] w0 (WPost W lo zs A0 n0 c0 ⟨cur ++ [⟨rk, rr, ra, rd⟩] ++ [⟨1, gr, ga, gd⟩], gl0⟩ w0) := by
  have HL := Lib.hid hl
  clear hl
  have HN := Lib.hid hn
  have S1 := Lib.hid (AddSt.start h ⟨1, gr, ga, gd⟩)
  clear h hn
  go_enter Try.func34, Try.ntmps34
  go_upto_region 1 with fail
  have hgs : Hid (w0.heap.size = w0.heap.size) := Lib.hid rfl
  generalize w0.alloc (.cells #[.int .i64 1, .int .i64 gr, .int .i64 ga, .int .i64 gd] 81) = w1 at *
  generalize hgb : w0.heap.size = gb at S1
  obtain ⟨q0, q1, q2, q3⟩ := S1.out.gcells
  simp only at q0 q1 q2 q3
  have zg := S1.out.gl.size
  have z0 := S1.out.st.size
  obtain ⟨e0, e1, e2, e3, e4⟩ := S1.out.st.cells
  obtain ⟨f0, f1, f2, f3, f4⟩ := S1.out.st.frees
  simp only at e1 e2 e3 e4
  clear hgs
  have hr2 : ¬ rk = 0 := by simpa using hr
  have CL := Lib.hid (wonline_any W w1 lo zs A0 n0 c0 _ S1.out.st HN.out hb)
  rw [HL.out] at CL
  go_wp2_with fail
  refine CL.out.mono ?_
  rintro e w' ⟨rfl, rfl⟩
  clear CL
  go_upto_region 8 with fail
  clear e0 e1 e2 e3 e4 f0 f1 f2 f3 f4 q0 q1 q2 q3
  have Q := Lib.hid (fun t : Later w1.heap.size w1 => S1.out.behind t.h)
  have k0 : ∀ t : Later w1.heap.size w1, t.w.cell? ⟨lo + 1, 0, none⟩ = some (.slice A0 n0 c0) := fun t => (Q.out t).st.cells.1
  have q0 : ∀ t : Later w1.heap.size w1, t.w.cell? ⟨lo + 1, 1, none⟩ = some (.int .i64 rk) := fun t => (Q.out t).st.cells.2.1
  have q1 : ∀ t : Later w1.heap.size w1, t.w.cell? ⟨lo + 1, 2, none⟩ = some (.int .i64 rr) := fun t => (Q.out t).st.cells.2.2.1
  have q2 : ∀ t : Later w1.heap.size w1, t.w.cell? ⟨lo + 1, 3, none⟩ = some (.int .i64 ra) := fun t => (Q.out t).st.cells.2.2.2.1
  have q3 : ∀ t : Later w1.heap.size w1, t.w.cell? ⟨lo + 1, 4, none⟩ = some (.int .i64 rd) := fun t => (Q.out t).st.cells.2.2.2.2
  clear z0 zg
  refine region_lane [0, 1, 5] [2, 3, 4, 6, 7, 8, 9] [10, 11, 12, 13] (by kernel_rfl) (by kernel_rfl) (fun _ _ _ _ _ h => h) ?_
  simp only [pick, List.map_cons, List.map_nil, List.getD_cons_zero, List.getD_cons_succ, List.drop_succ_cons, List.drop_zero]
  repeat (go_big_quiet_step (fail))
  refine wpQuiet_nil ?_
  refine ⟨rfl, ?_⟩
  refine laneO_run 6 (by kernel_rfl) ?_
  simp only [List.take_succ_cons, List.take_zero, List.drop_succ_cons, List.drop_zero]
  repeat (go_big_quiet_step (fail))
  refine wpQuiet_nil ?_
  refine laneO_told (madeT 1 81 [.int .i64 rk, .int .i64 rr, .int .i64 ra, .int .i64 rd]) (madeT_steady _ _ _) (by kernel_rfl) rfl (fun w hw => .inl ⟨by rfl, ?_⟩) ?_
  · unfold gives
    simp [go_sem]
    exact madeT_new 1 81 #[.int .i64 rk, .int .i64 rr, .int .i64 ra, .int .i64 rd] w
  refine laneO_end (by simp) rfl rfl rfl fun w2 hb0 => ?_
  rintro u ⟨g2, rfl, hg2⟩
  simp only [Act.put, List.setIfInBounds_toArray, List.set_cons_zero, List.set_cons_succ, fillAll]
  have U2 := Lib.hid (S1.out.behind hb0)
  clear k0 q0 q1 q2 q3 Q hb0
  refine wpList_pushOne (by rfl) (.tmp 35) (.tmp 40) _ rfl (lo + 1) 81 4 32 (.agg #[.int .i64 0, .int .i64 0, .int .i64 0, .int .i64 0]) Try.underlying75 gl_info rfl (by decide) n0 (.slice A0 n0 c0) _ rfl U2.out.st.row.own (by have := U2.out.st.size; omega) g2 [.int .i64 rk, .int .i64 rr, .int .i64 ra, .int .i64 rd] rfl hg2 rfl (by simp [Value.oneCell']) (by unfold maxLen; omega) (by omega) ?_
  intro A2 c2 w2b h2 ho hk
  have S2 := Lib.hid (U2.out.pushed ⟨rk, rr, ra, rd⟩ h2 ho hk)
  have z2 : lo + 1 < w2b.heap.size := by have := U2.out.st.size; have := ho.size; omega
  have X2 := ho.whole U2.out.st.obj fun e => U2.out.st.off (lo + 1) (by simpa using e) rfl
  have f0 : w2b.frozen? ⟨lo + 1, 0, none⟩ = false := X2.free 0
  have e0 : w2b.cell? ⟨lo + 1, 0, none⟩ = some (.slice A0 n0 c0) := X2.cell 0
  clear h2 ho hk U2 X2 hg2
  clear S1
  have hgb2 : lo + 1 < gb := S2.out.far
  go_upto_region 9 with fail
  generalize w2b.setCell ⟨lo + 1, 0, none⟩ (.slice A2 (n0 + 1) c2) = w2c at *
  clear e0 f0 z2
  have S3 : Hid (AddSt W w0 w2c lo zs A0 n0 c0 A2 (n0 + 1) c2 ⟨cur ++ [⟨rk, rr, ra, rd⟩], ⟨rk, rr, ra, rd⟩⟩ gb ⟨1, gr, ga, gd⟩) := Lib.hid S2.out
  clear S2
  obtain ⟨q0, q1, q2, q3⟩ := S3.out.gcells
  simp only at q0 q1 q2 q3
  have zg := S3.out.gl.size
  have z0 := S3.out.st.size
  obtain ⟨e0, e1, e2, e3, e4⟩ := S3.out.st.cells
  obtain ⟨f0, f1, f2, f3, f4⟩ := S3.out.st.frees
  simp only at e1 e2 e3 e4
  go_upto_region 10 with fail
  have S4 := Lib.hid (S3.out.putRow gl0)
  clear e0 e1 e2 e3 e4 f0 f1 f2 f3 f4 q0 q1 q2 q3 zg z0
  generalize ((((w2c.setCell ⟨lo + 1, 1, none⟩ (.int .i64 0)).setCell ⟨lo + 1, 2, none⟩ (.int .i64 0)).setCell ⟨lo + 1, 3, none⟩ (.int .i64 0)).setCell ⟨lo + 1, 4, none⟩ (.int .i64 0)) = w4 at *
  have T4 : Hid (AddSt W w0 w4 lo zs A0 n0 c0 A2 (n0 + 1) c2 ⟨cur ++ [⟨rk, rr, ra, rd⟩], gl0⟩ gb ⟨1, gr, ga, gd⟩) := Lib.hid S4.out
  clear S3 S4
  have Q := Lib.hid (fun t : Later w4.heap.size w4 => T4.out.behind t.h)
  have k0 : ∀ t : Later w4.heap.size w4, t.w.cell? ⟨lo + 1, 0, none⟩ = some (.slice A2 (n0 + 1) c2) := fun t => (Q.out t).st.cells.1
  have q0 : ∀ t : Later w4.heap.size w4, t.w.cell? ⟨gb, 0, none⟩ = some (.int .i64 1) := fun t => (Q.out t).gcells.1
  have q1 : ∀ t : Later w4.heap.size w4, t.w.cell? ⟨gb, 1, none⟩ = some (.int .i64 gr) := fun t => (Q.out t).gcells.2.1
  have q2 : ∀ t : Later w4.heap.size w4, t.w.cell? ⟨gb, 2, none⟩ = some (.int .i64 ga) := fun t => (Q.out t).gcells.2.2.1
  have q3 : ∀ t : Later w4.heap.size w4, t.w.cell? ⟨gb, 3, none⟩ = some (.int .i64 gd) := fun t => (Q.out t).gcells.2.2.2
  refine region_lane [0, 1] [2, 3, 4, 5, 6] [7, 8, 9, 10] (by kernel_rfl) (by kernel_rfl) (fun _ _ _ _ _ h => h) ?_
  simp only [pick, List.map_cons, List.map_nil, List.getD_cons_zero, List.getD_cons_succ, List.drop_succ_cons, List.drop_zero]
  repeat (go_big_quiet_step (fail))
  refine wpQuiet_nil ?_
  refine ⟨rfl, ?_⟩
  refine laneO_run 4 (by kernel_rfl) ?_
  simp only [List.take_succ_cons, List.take_zero, List.drop_succ_cons, List.drop_zero]
  repeat (go_big_quiet_step (fail))
  refine wpQuiet_nil ?_
  refine laneO_told (madeT 1 81 [.int .i64 1, .int .i64 gr, .int .i64 ga, .int .i64 gd]) (madeT_steady _ _ _) (by kernel_rfl) rfl (fun w hw => .inl ⟨by rfl, ?_⟩) ?_
  · unfold gives
    simp [go_sem]
    exact madeT_new 1 81 #[.int .i64 1, .int .i64 gr, .int .i64 ga, .int .i64 gd] w
  refine laneO_end (by simp) rfl rfl rfl fun w5 hb0 => ?_
  rintro u ⟨g5, rfl, hg5⟩
  simp only [Act.put, List.setIfInBounds_toArray, List.set_cons_zero, List.set_cons_succ, fillAll]
  have U5 := Lib.hid (T4.out.behind hb0)
  clear k0 q0 q1 q2 q3 Q hb0
  refine wpList_pushOne (by rfl) (.tmp 52) (.tmp 54) _ rfl (lo + 1) 81 4 32 (.agg #[.int .i64 0, .int .i64 0, .int .i64 0, .int .i64 0]) Try.underlying75 gl_info rfl (by decide) (n0 + 1) (.slice A2 (n0 + 1) c2) _ rfl U5.out.st.row.own (by have := U5.out.st.size; omega) g5 [.int .i64 1, .int .i64 gr, .int .i64 ga, .int .i64 gd] rfl hg5 rfl (by simp [Value.oneCell']) (by unfold maxLen; omega) (by omega) ?_
  intro A5 c5 w5b h2 ho hk
  have S5 := Lib.hid (U5.out.pushed ⟨1, gr, ga, gd⟩ h2 ho hk)
  have z5 : lo + 1 < w5b.heap.size := by have := U5.out.st.size; have := ho.size; omega
  have X5 := ho.whole U5.out.st.obj fun e => U5.out.st.off (lo + 1) (by simpa using e) rfl
  have f0 : w5b.frozen? ⟨lo + 1, 0, none⟩ = false := X5.free 0
  have e0 : w5b.cell? ⟨lo + 1, 0, none⟩ = some (.slice A2 (n0 + 1) c2) := X5.cell 0
  clear h2 ho hk U5 X5 hg5
  rw [show cur ++ [⟨rk, rr, ra, rd⟩] ++ [(⟨1, gr, ga, gd⟩ : Gl)] = cur ++ [⟨rk, rr, ra, rd⟩, ⟨1, gr, ga, gd⟩] by simp] at S5
  go_wp2
  exact bodyPost_end (v := .tuple #[]) (results_none (by kernel_rfl) _ _ _) rfl ⟨rfl, _, _, _, by rw [HN.out]; simp, S5.out.st, S5.out.only⟩
theorem add_any (W w0 : World) (lo : Nat) (zs : List Int) (A0 : Option Addr) (n0 c0 : Nat) (s : Wr) (g : Gl) (h : WAt W w0 lo zs A0 n0 c0 s) (ho : OkW s) (hk : g.kind = 1 ∨ g.kind = 2 ∨ g.kind = 3 ∨ g.kind = 4) (hn : n0 = s.cur.length) (hb : n0 ≤ 200000) :
    Calls Try.prog 34 #[.pointer (some ⟨lo + 1, 0, none⟩), glV g] w0 (WPost W lo zs A0 n0 c0 (addW s g) w0) := by
  obtain ⟨cur, rk, rr, ra, rd⟩ := s
  obtain ⟨k, gr, ga, gd⟩ := g
  unfold glV
  simp only at hk hn
  by_cases h0 : rk = 0
  · subst h0
    have e : (⟨0, rr, ra, rd⟩ : Gl) = gl0 := by
      rcases ho with e | e
      · exact e
      · simp [isB] at e
    rcases hk with rfl | rfl | rfl | rfl
    · simpa [addW, isB] using add_ink0 W w0 lo zs A0 n0 c0 cur rr ra rd gr ga gd h hn hb
    · simpa [addW, isB] using add_s0 W w0 lo zs A0 n0 c0 cur rr ra rd gr ga gd h hn hb
    · simpa [addW, isB] using add_h0 W w0 lo zs A0 n0 c0 cur rr ra rd gr ga gd h hn hb
    · simpa [addW, isB] using add_break W w0 lo zs A0 n0 c0 cur 0 rr ra rd gr ga gd h hn hb
  · have hr : (rk == 0) = false := by simpa using h0
    rcases hk with rfl | rfl | rfl | rfl
    · cases hl : onL cur with
      | true => simpa [addW, isB, h0, hl] using add_ink2 W w0 lo zs A0 n0 c0 cur rk rr ra rd gr ga gd h hn hb hr hl
      | false => simpa [addW, isB, h0, hl] using add_ink1 W w0 lo zs A0 n0 c0 cur rk rr ra rd gr ga gd h hn hb hr hl
    · simpa [addW, isB, h0] using add_s1 W w0 lo zs A0 n0 c0 cur rk rr ra rd gr ga gd h hn hb hr
    · simpa [addW, isB, h0] using add_h1 W w0 lo zs A0 n0 c0 cur rk rr ra rd gr ga gd h hn hb hr
    · simpa [addW, isB, h0] using add_break W w0 lo zs A0 n0 c0 cur rk rr ra rd gr ga gd h hn hb
end Go.Proofs.Ytncaichachipkaa
