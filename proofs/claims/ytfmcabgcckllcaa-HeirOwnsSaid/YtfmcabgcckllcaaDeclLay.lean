import Derived.Test.YtfmcabgcckllcaaStyleMem
/- decl: one declaration laid over a style in memory. -/
namespace Go.Proofs.Ytfmcabgcckllcaa
open Go Go.RowKit
set_option linter.unusedVariables false
set_option linter.unusedSimpArgs false
set_option maxRecDepth 20000
set_option maxHeartbeats 4000000

def LayPost (W : World) (g : Nat) (zs : List Int) (e : Ending) (w' : World) : Prop := e = .returned (.tuple #[]) ∧ Whole w' g 27 (i64s zs) ∧ Only [g] W w'
theorem layPost_one (W : World) (g : Nat) (zs : List Int) (hw : Whole W g 27 (i64s zs)) (i : Nat) (v : Int) (o : Obj) : LayPost W g (zs.set i v) (.returned (.tuple #[])) ((W.setCell ⟨g, i, none⟩ (.int .i64 v)).alloc o) :=
  ⟨rfl, by rw [i64s_set]; exact (hw.put i _).made o, ((Only.refl [g] W).setCell _ (.inl (by simp)) _).alloc o⟩
theorem layPost_two (W : World) (g : Nat) (zs : List Int) (hw : Whole W g 27 (i64s zs)) (i : Nat) (u v : Int) (o : Obj) : LayPost W g ((zs.set i u).set (i + 1) v) (.returned (.tuple #[])) (((W.setCell ⟨g, i, none⟩ (.int .i64 u)).setCell ⟨g, i + 1, none⟩ (.int .i64 v)).alloc o) :=
  ⟨rfl, by rw [i64s_set, i64s_set]; exact ((hw.put i _).put (i + 1) _).made o, (((Only.refl [g] W).setCell _ (.inl (by simp)) _).setCell _ (.inl (by simp)) _).alloc o⟩
theorem layPost_far (W w2 : World) (g : Nat) (zs : List Int) (hw : Whole w2 g 27 (i64s zs)) (hb : Below W.heap.size W w2) (i : Nat) (v : Int) : LayPost W g (zs.set i v) (.returned (.tuple #[])) (w2.setCell ⟨g, i, none⟩ (.int .i64 v)) :=
  ⟨rfl, by rw [i64s_set]; exact hw.put i _, (Only.of_below hb : Only [g] W w2).setCell _ (.inl (by simp)) _⟩
theorem layPost_far2 (W w2 : World) (g : Nat) (zs : List Int) (hw : Whole w2 g 27 (i64s zs)) (hb : Below W.heap.size W w2) (i : Nat) (u v : Int) : LayPost W g ((zs.set i u).set (i + 1) v) (.returned (.tuple #[])) ((w2.setCell ⟨g, i, none⟩ (.int .i64 u)).setCell ⟨g, i + 1, none⟩ (.int .i64 v)) :=
  ⟨rfl, by rw [i64s_set, i64s_set]; exact (hw.put i _).put (i + 1) _, ((Only.of_below hb : Only [g] W w2).setCell _ (.inl (by simp)) _).setCell _ (.inl (by simp)) _⟩
theorem layLen2 (zs : List Int) (hz : zs.length = 43) (g : Nat) (W : World) (hw : Whole W g 27 (i64s zs)) (w k n : Int) :
    Calls Try.prog 36 #[.pointer (some ⟨g, 0, none⟩), .int .i64 2, .agg #[.int .i64 k, .int .i64 n]] W fun e w' => LayPost W g (laidZ zs 2 w k n) e w' := by
  have hg := hw.size
  obtain ⟨z0, h0⟩ := i64s_get zs 9 (by rw [hz]; decide)
  have c0 : W.cell? ⟨g, 9, none⟩ = some (.int .i64 z0) := (hw.cell 9).trans h0
  have f0 := hw.free 9
  obtain ⟨z1, h1⟩ := i64s_get zs 10 (by rw [hz]; decide)
  have c1 : W.cell? ⟨g, 10, none⟩ = some (.int .i64 z1) := (hw.cell 10).trans h1
  have f1 := hw.free 10
  have HZ := Lib.hid hz
  have HW := Lib.hid hw
  clear hz hw h0 h1
  go_enter Try.func36, Try.ntmps36
  go_wp2
  go_end0
  exact layPost_two W g zs HW.out 9 k n _
theorem layLen3 (zs : List Int) (hz : zs.length = 43) (g : Nat) (W : World) (hw : Whole W g 27 (i64s zs)) (w k n : Int) :
    Calls Try.prog 36 #[.pointer (some ⟨g, 0, none⟩), .int .i64 3, .agg #[.int .i64 k, .int .i64 n]] W fun e w' => LayPost W g (laidZ zs 3 w k n) e w' := by
  have hg := hw.size
  obtain ⟨z0, h0⟩ := i64s_get zs 11 (by rw [hz]; decide)
  have c0 : W.cell? ⟨g, 11, none⟩ = some (.int .i64 z0) := (hw.cell 11).trans h0
  have f0 := hw.free 11
  obtain ⟨z1, h1⟩ := i64s_get zs 12 (by rw [hz]; decide)
  have c1 : W.cell? ⟨g, 12, none⟩ = some (.int .i64 z1) := (hw.cell 12).trans h1
  have f1 := hw.free 12
  have HZ := Lib.hid hz
  have HW := Lib.hid hw
  clear hz hw h0 h1
  go_enter Try.func36, Try.ntmps36
  go_wp2
  go_end0
  exact layPost_two W g zs HW.out 11 k n _
theorem layLen4 (zs : List Int) (hz : zs.length = 43) (g : Nat) (W : World) (hw : Whole W g 27 (i64s zs)) (w k n : Int) :
    Calls Try.prog 36 #[.pointer (some ⟨g, 0, none⟩), .int .i64 4, .agg #[.int .i64 k, .int .i64 n]] W fun e w' => LayPost W g (laidZ zs 4 w k n) e w' := by
  have hg := hw.size
  obtain ⟨z0, h0⟩ := i64s_get zs 13 (by rw [hz]; decide)
  have c0 : W.cell? ⟨g, 13, none⟩ = some (.int .i64 z0) := (hw.cell 13).trans h0
  have f0 := hw.free 13
  obtain ⟨z1, h1⟩ := i64s_get zs 14 (by rw [hz]; decide)
  have c1 : W.cell? ⟨g, 14, none⟩ = some (.int .i64 z1) := (hw.cell 14).trans h1
  have f1 := hw.free 14
  have HZ := Lib.hid hz
  have HW := Lib.hid hw
  clear hz hw h0 h1
  go_enter Try.func36, Try.ntmps36
  go_wp2
  go_end0
  exact layPost_two W g zs HW.out 13 k n _
theorem layLen5 (zs : List Int) (hz : zs.length = 43) (g : Nat) (W : World) (hw : Whole W g 27 (i64s zs)) (w k n : Int) :
    Calls Try.prog 36 #[.pointer (some ⟨g, 0, none⟩), .int .i64 5, .agg #[.int .i64 k, .int .i64 n]] W fun e w' => LayPost W g (laidZ zs 5 w k n) e w' := by
  have hg := hw.size
  obtain ⟨z0, h0⟩ := i64s_get zs 15 (by rw [hz]; decide)
  have c0 : W.cell? ⟨g, 15, none⟩ = some (.int .i64 z0) := (hw.cell 15).trans h0
  have f0 := hw.free 15
  obtain ⟨z1, h1⟩ := i64s_get zs 16 (by rw [hz]; decide)
  have c1 : W.cell? ⟨g, 16, none⟩ = some (.int .i64 z1) := (hw.cell 16).trans h1
  have f1 := hw.free 16
  have HZ := Lib.hid hz
  have HW := Lib.hid hw
  clear hz hw h0 h1
  go_enter Try.func36, Try.ntmps36
  go_wp2
  go_end0
  exact layPost_two W g zs HW.out 15 k n _
theorem layLen6 (zs : List Int) (hz : zs.length = 43) (g : Nat) (W : World) (hw : Whole W g 27 (i64s zs)) (w k n : Int) :
    Calls Try.prog 36 #[.pointer (some ⟨g, 0, none⟩), .int .i64 6, .agg #[.int .i64 k, .int .i64 n]] W fun e w' => LayPost W g (laidZ zs 6 w k n) e w' := by
  have hg := hw.size
  obtain ⟨z0, h0⟩ := i64s_get zs 17 (by rw [hz]; decide)
  have c0 : W.cell? ⟨g, 17, none⟩ = some (.int .i64 z0) := (hw.cell 17).trans h0
  have f0 := hw.free 17
  obtain ⟨z1, h1⟩ := i64s_get zs 18 (by rw [hz]; decide)
  have c1 : W.cell? ⟨g, 18, none⟩ = some (.int .i64 z1) := (hw.cell 18).trans h1
  have f1 := hw.free 18
  have HZ := Lib.hid hz
  have HW := Lib.hid hw
  clear hz hw h0 h1
  go_enter Try.func36, Try.ntmps36
  go_wp2
  go_end0
  exact layPost_two W g zs HW.out 17 k n _
theorem layLen7 (zs : List Int) (hz : zs.length = 43) (g : Nat) (W : World) (hw : Whole W g 27 (i64s zs)) (w k n : Int) :
    Calls Try.prog 36 #[.pointer (some ⟨g, 0, none⟩), .int .i64 7, .agg #[.int .i64 k, .int .i64 n]] W fun e w' => LayPost W g (laidZ zs 7 w k n) e w' := by
  have hg := hw.size
  obtain ⟨z0, h0⟩ := i64s_get zs 19 (by rw [hz]; decide)
  have c0 : W.cell? ⟨g, 19, none⟩ = some (.int .i64 z0) := (hw.cell 19).trans h0
  have f0 := hw.free 19
  obtain ⟨z1, h1⟩ := i64s_get zs 20 (by rw [hz]; decide)
  have c1 : W.cell? ⟨g, 20, none⟩ = some (.int .i64 z1) := (hw.cell 20).trans h1
  have f1 := hw.free 20
  have HZ := Lib.hid hz
  have HW := Lib.hid hw
  clear hz hw h0 h1
  go_enter Try.func36, Try.ntmps36
  go_wp2
  go_end0
  exact layPost_two W g zs HW.out 19 k n _
theorem layLen8 (zs : List Int) (hz : zs.length = 43) (g : Nat) (W : World) (hw : Whole W g 27 (i64s zs)) (w k n : Int) :
    Calls Try.prog 36 #[.pointer (some ⟨g, 0, none⟩), .int .i64 8, .agg #[.int .i64 k, .int .i64 n]] W fun e w' => LayPost W g (laidZ zs 8 w k n) e w' := by
  have hg := hw.size
  have HZ := Lib.hid hz
  have HW := Lib.hid hw
  clear hz hw
  go_enter Try.func36, Try.ntmps36
  go_upto_region 18 with fail
  have hb1 : Below W.heap.size W (W.alloc (.cells #[.int .i64 k, .int .i64 n] 23)) := (Below.refl _ _).alloc (Nat.le_refl _) _
  have E := Whole.mk W 23 #[.int .i64 k, .int .i64 n]
  have HW1 := Lib.hid (HW.out.under hb1 hg)
  have HB1 := Lib.hid hb1
  clear hb1
  generalize W.alloc (.cells #[.int .i64 k, .int .i64 n] 23) = W1 at *
  have K0 : ∀ s : Later W1.heap.size W1, s.w.cell? ⟨W.heap.size, 0, none⟩ = some (.int .i64 k) := fun s => (E.under s.h E.size).cell 0
  have K1 : ∀ s : Later W1.heap.size W1, s.w.cell? ⟨W.heap.size, 1, none⟩ = some (.int .i64 n) := fun s => (E.under s.h E.size).cell 1
  have HG := Lib.hid hg
  have HE := Lib.hid E.size
  clear E
  refine region_lane [0, 1, 2] [3, 4, 5, 6] [7] (by kernel_rfl) (by kernel_rfl) (fun _ _ _ _ _ h => h) ?_
  simp only [pick, List.map_cons, List.map_nil, List.getD_cons_zero, List.getD_cons_succ, List.drop_succ_cons, List.drop_zero]
  repeat (go_big_quiet_step (fail))
  refine wpQuiet_nil ?_
  refine ⟨rfl, ?_⟩
  refine laneO_run 4 (by kernel_rfl) ?_
  simp only [List.take_succ_cons, List.take_zero, List.drop_succ_cons, List.drop_zero]
  repeat (go_big_quiet_step (fail))
  refine wpQuiet_nil ?_
  refine laneO_end0 rfl rfl fun w2 hb0 => ?_
  have hb2 : Below W1.heap.size W1 w2 := hb0
  have hz := HZ.out
  have hw2 := HW1.out.under hb2 HW1.out.size
  have HB2 := Lib.hid (HB1.out.trans (hb2.mono HB1.out.size))
  obtain ⟨z0, h0⟩ := i64s_get zs 23 (by rw [hz]; decide)
  have c0 : w2.cell? ⟨g, 23, none⟩ = some (.int .i64 z0) := (hw2.cell 23).trans h0
  have f0 := hw2.free 23
  obtain ⟨z1, h1⟩ := i64s_get zs 24 (by rw [hz]; decide)
  have c1 : w2.cell? ⟨g, 24, none⟩ = some (.int .i64 z1) := (hw2.cell 24).trans h1
  have f1 := hw2.free 24
  have HW2 := Lib.hid hw2
  have hg2 : g < w2.heap.size := hw2.size
  clear hz hb0 hb2 K0 K1 hw2 h0 h1 hg
  go_wp2
  go_end0
  exact layPost_far2 W w2 g zs HW2.out HB2.out 23 k n
theorem layLen9 (zs : List Int) (hz : zs.length = 43) (g : Nat) (W : World) (hw : Whole W g 27 (i64s zs)) (w k n : Int) :
    Calls Try.prog 36 #[.pointer (some ⟨g, 0, none⟩), .int .i64 9, .agg #[.int .i64 k, .int .i64 n]] W fun e w' => LayPost W g (laidZ zs 9 w k n) e w' := by
  have hg := hw.size
  have HZ := Lib.hid hz
  have HW := Lib.hid hw
  clear hz hw
  go_enter Try.func36, Try.ntmps36
  go_upto_region 18 with fail
  have hb1 : Below W.heap.size W (W.alloc (.cells #[.int .i64 k, .int .i64 n] 23)) := (Below.refl _ _).alloc (Nat.le_refl _) _
  have E := Whole.mk W 23 #[.int .i64 k, .int .i64 n]
  have HW1 := Lib.hid (HW.out.under hb1 hg)
  have HB1 := Lib.hid hb1
  clear hb1
  generalize W.alloc (.cells #[.int .i64 k, .int .i64 n] 23) = W1 at *
  have K0 : ∀ s : Later W1.heap.size W1, s.w.cell? ⟨W.heap.size, 0, none⟩ = some (.int .i64 k) := fun s => (E.under s.h E.size).cell 0
  have K1 : ∀ s : Later W1.heap.size W1, s.w.cell? ⟨W.heap.size, 1, none⟩ = some (.int .i64 n) := fun s => (E.under s.h E.size).cell 1
  have HG := Lib.hid hg
  have HE := Lib.hid E.size
  clear E
  refine region_lane [0, 1, 2] [3, 4, 5, 6] [7] (by kernel_rfl) (by kernel_rfl) (fun _ _ _ _ _ h => h) ?_
  simp only [pick, List.map_cons, List.map_nil, List.getD_cons_zero, List.getD_cons_succ, List.drop_succ_cons, List.drop_zero]
  repeat (go_big_quiet_step (fail))
  refine wpQuiet_nil ?_
  refine ⟨rfl, ?_⟩
  refine laneO_run 4 (by kernel_rfl) ?_
  simp only [List.take_succ_cons, List.take_zero, List.drop_succ_cons, List.drop_zero]
  repeat (go_big_quiet_step (fail))
  refine wpQuiet_nil ?_
  refine laneO_end0 rfl rfl fun w2 hb0 => ?_
  have hb2 : Below W1.heap.size W1 w2 := hb0
  have hz := HZ.out
  have hw2 := HW1.out.under hb2 HW1.out.size
  have HB2 := Lib.hid (HB1.out.trans (hb2.mono HB1.out.size))
  obtain ⟨z0, h0⟩ := i64s_get zs 25 (by rw [hz]; decide)
  have c0 : w2.cell? ⟨g, 25, none⟩ = some (.int .i64 z0) := (hw2.cell 25).trans h0
  have f0 := hw2.free 25
  obtain ⟨z1, h1⟩ := i64s_get zs 26 (by rw [hz]; decide)
  have c1 : w2.cell? ⟨g, 26, none⟩ = some (.int .i64 z1) := (hw2.cell 26).trans h1
  have f1 := hw2.free 26
  have HW2 := Lib.hid hw2
  have hg2 : g < w2.heap.size := hw2.size
  clear hz hb0 hb2 K0 K1 hw2 h0 h1 hg
  go_wp2
  go_end0
  exact layPost_far2 W w2 g zs HW2.out HB2.out 25 k n
theorem layLen10 (zs : List Int) (hz : zs.length = 43) (g : Nat) (W : World) (hw : Whole W g 27 (i64s zs)) (w k n : Int) :
    Calls Try.prog 36 #[.pointer (some ⟨g, 0, none⟩), .int .i64 10, .agg #[.int .i64 k, .int .i64 n]] W fun e w' => LayPost W g (laidZ zs 10 w k n) e w' := by
  have hg := hw.size
  have HZ := Lib.hid hz
  have HW := Lib.hid hw
  clear hz hw
  go_enter Try.func36, Try.ntmps36
  go_upto_region 18 with fail
  have hb1 : Below W.heap.size W (W.alloc (.cells #[.int .i64 k, .int .i64 n] 23)) := (Below.refl _ _).alloc (Nat.le_refl _) _
  have E := Whole.mk W 23 #[.int .i64 k, .int .i64 n]
  have HW1 := Lib.hid (HW.out.under hb1 hg)
  have HB1 := Lib.hid hb1
  clear hb1
  generalize W.alloc (.cells #[.int .i64 k, .int .i64 n] 23) = W1 at *
  have K0 : ∀ s : Later W1.heap.size W1, s.w.cell? ⟨W.heap.size, 0, none⟩ = some (.int .i64 k) := fun s => (E.under s.h E.size).cell 0
  have K1 : ∀ s : Later W1.heap.size W1, s.w.cell? ⟨W.heap.size, 1, none⟩ = some (.int .i64 n) := fun s => (E.under s.h E.size).cell 1
  have HG := Lib.hid hg
  have HE := Lib.hid E.size
  clear E
  refine region_lane [0, 1, 2] [3, 4, 5, 6] [7] (by kernel_rfl) (by kernel_rfl) (fun _ _ _ _ _ h => h) ?_
  simp only [pick, List.map_cons, List.map_nil, List.getD_cons_zero, List.getD_cons_succ, List.drop_succ_cons, List.drop_zero]
  repeat (go_big_quiet_step (fail))
  refine wpQuiet_nil ?_
  refine ⟨rfl, ?_⟩
  refine laneO_run 4 (by kernel_rfl) ?_
  simp only [List.take_succ_cons, List.take_zero, List.drop_succ_cons, List.drop_zero]
  repeat (go_big_quiet_step (fail))
  refine wpQuiet_nil ?_
  refine laneO_end0 rfl rfl fun w2 hb0 => ?_
  have hb2 : Below W1.heap.size W1 w2 := hb0
  have hz := HZ.out
  have hw2 := HW1.out.under hb2 HW1.out.size
  have HB2 := Lib.hid (HB1.out.trans (hb2.mono HB1.out.size))
  obtain ⟨z0, h0⟩ := i64s_get zs 27 (by rw [hz]; decide)
  have c0 : w2.cell? ⟨g, 27, none⟩ = some (.int .i64 z0) := (hw2.cell 27).trans h0
  have f0 := hw2.free 27
  obtain ⟨z1, h1⟩ := i64s_get zs 28 (by rw [hz]; decide)
  have c1 : w2.cell? ⟨g, 28, none⟩ = some (.int .i64 z1) := (hw2.cell 28).trans h1
  have f1 := hw2.free 28
  have HW2 := Lib.hid hw2
  have hg2 : g < w2.heap.size := hw2.size
  clear hz hb0 hb2 K0 K1 hw2 h0 h1 hg
  go_wp2
  go_end0
  exact layPost_far2 W w2 g zs HW2.out HB2.out 27 k n
theorem layLen11 (zs : List Int) (hz : zs.length = 43) (g : Nat) (W : World) (hw : Whole W g 27 (i64s zs)) (w k n : Int) :
    Calls Try.prog 36 #[.pointer (some ⟨g, 0, none⟩), .int .i64 11, .agg #[.int .i64 k, .int .i64 n]] W fun e w' => LayPost W g (laidZ zs 11 w k n) e w' := by
  have hg := hw.size
  have HZ := Lib.hid hz
  have HW := Lib.hid hw
  clear hz hw
  go_enter Try.func36, Try.ntmps36
  go_upto_region 18 with fail
  have hb1 : Below W.heap.size W (W.alloc (.cells #[.int .i64 k, .int .i64 n] 23)) := (Below.refl _ _).alloc (Nat.le_refl _) _
  have E := Whole.mk W 23 #[.int .i64 k, .int .i64 n]
  have HW1 := Lib.hid (HW.out.under hb1 hg)
  have HB1 := Lib.hid hb1
  clear hb1
  generalize W.alloc (.cells #[.int .i64 k, .int .i64 n] 23) = W1 at *
  have K0 : ∀ s : Later W1.heap.size W1, s.w.cell? ⟨W.heap.size, 0, none⟩ = some (.int .i64 k) := fun s => (E.under s.h E.size).cell 0
  have K1 : ∀ s : Later W1.heap.size W1, s.w.cell? ⟨W.heap.size, 1, none⟩ = some (.int .i64 n) := fun s => (E.under s.h E.size).cell 1
  have HG := Lib.hid hg
  have HE := Lib.hid E.size
  clear E
  refine region_lane [0, 1, 2] [3, 4, 5, 6] [7] (by kernel_rfl) (by kernel_rfl) (fun _ _ _ _ _ h => h) ?_
  simp only [pick, List.map_cons, List.map_nil, List.getD_cons_zero, List.getD_cons_succ, List.drop_succ_cons, List.drop_zero]
  repeat (go_big_quiet_step (fail))
  refine wpQuiet_nil ?_
  refine ⟨rfl, ?_⟩
  refine laneO_run 4 (by kernel_rfl) ?_
  simp only [List.take_succ_cons, List.take_zero, List.drop_succ_cons, List.drop_zero]
  repeat (go_big_quiet_step (fail))
  refine wpQuiet_nil ?_
  refine laneO_end0 rfl rfl fun w2 hb0 => ?_
  have hb2 : Below W1.heap.size W1 w2 := hb0
  have hz := HZ.out
  have hw2 := HW1.out.under hb2 HW1.out.size
  have HB2 := Lib.hid (HB1.out.trans (hb2.mono HB1.out.size))
  obtain ⟨z0, h0⟩ := i64s_get zs 29 (by rw [hz]; decide)
  have c0 : w2.cell? ⟨g, 29, none⟩ = some (.int .i64 z0) := (hw2.cell 29).trans h0
  have f0 := hw2.free 29
  obtain ⟨z1, h1⟩ := i64s_get zs 30 (by rw [hz]; decide)
  have c1 : w2.cell? ⟨g, 30, none⟩ = some (.int .i64 z1) := (hw2.cell 30).trans h1
  have f1 := hw2.free 30
  have HW2 := Lib.hid hw2
  have hg2 : g < w2.heap.size := hw2.size
  clear hz hb0 hb2 K0 K1 hw2 h0 h1 hg
  go_wp2
  go_end0
  exact layPost_far2 W w2 g zs HW2.out HB2.out 29 k n
theorem layLen12 (zs : List Int) (hz : zs.length = 43) (g : Nat) (W : World) (hw : Whole W g 27 (i64s zs)) (w k n : Int) :
    Calls Try.prog 36 #[.pointer (some ⟨g, 0, none⟩), .int .i64 12, .agg #[.int .i64 k, .int .i64 n]] W fun e w' => LayPost W g (laidZ zs 12 w k n) e w' := by
  have hg := hw.size
  have HZ := Lib.hid hz
  have HW := Lib.hid hw
  clear hz hw
  go_enter Try.func36, Try.ntmps36
  go_upto_region 23 with fail
  have hb1 : Below W.heap.size W (W.alloc (.cells #[.int .i64 k, .int .i64 n] 23)) := (Below.refl _ _).alloc (Nat.le_refl _) _
  have E := Whole.mk W 23 #[.int .i64 k, .int .i64 n]
  have HW1 := Lib.hid (HW.out.under hb1 hg)
  have HB1 := Lib.hid hb1
  clear hb1
  generalize W.alloc (.cells #[.int .i64 k, .int .i64 n] 23) = W1 at *
  have K0 : ∀ s : Later W1.heap.size W1, s.w.cell? ⟨W.heap.size, 0, none⟩ = some (.int .i64 k) := fun s => (E.under s.h E.size).cell 0
  have K1 : ∀ s : Later W1.heap.size W1, s.w.cell? ⟨W.heap.size, 1, none⟩ = some (.int .i64 n) := fun s => (E.under s.h E.size).cell 1
  have HG := Lib.hid hg
  have HE := Lib.hid E.size
  clear E
  refine region_lane [0, 1, 2, 3] [4, 5, 6, 7] [8] (by kernel_rfl) (by kernel_rfl) (fun _ _ _ _ _ h => h) ?_
  simp only [pick, List.map_cons, List.map_nil, List.getD_cons_zero, List.getD_cons_succ, List.drop_succ_cons, List.drop_zero]
  repeat (go_big_quiet_step (fail))
  refine wpQuiet_nil ?_
  refine ⟨rfl, ?_⟩
  refine laneO_run 4 (by kernel_rfl) ?_
  simp only [List.take_succ_cons, List.take_zero, List.drop_succ_cons, List.drop_zero]
  repeat (go_big_quiet_step (fail))
  refine wpQuiet_nil ?_
  refine laneO_end0 rfl rfl fun w2 hb0 => ?_
  have hb2 : Below W1.heap.size W1 w2 := hb0
  have hz := HZ.out
  have hw2 := HW1.out.under hb2 HW1.out.size
  have HB2 := Lib.hid (HB1.out.trans (hb2.mono HB1.out.size))
  obtain ⟨z0, h0⟩ := i64s_get zs 31 (by rw [hz]; decide)
  have c0 : w2.cell? ⟨g, 31, none⟩ = some (.int .i64 z0) := (hw2.cell 31).trans h0
  have f0 := hw2.free 31
  have HW2 := Lib.hid hw2
  have hg2 : g < w2.heap.size := hw2.size
  clear hz hb0 hb2 K0 K1 hw2 h0  hg
  go_wp2
  go_end0
  exact layPost_far W w2 g zs HW2.out HB2.out 31 n
theorem layLen13 (zs : List Int) (hz : zs.length = 43) (g : Nat) (W : World) (hw : Whole W g 27 (i64s zs)) (w k n : Int) :
    Calls Try.prog 36 #[.pointer (some ⟨g, 0, none⟩), .int .i64 13, .agg #[.int .i64 k, .int .i64 n]] W fun e w' => LayPost W g (laidZ zs 13 w k n) e w' := by
  have hg := hw.size
  have HZ := Lib.hid hz
  have HW := Lib.hid hw
  clear hz hw
  go_enter Try.func36, Try.ntmps36
  go_upto_region 23 with fail
  have hb1 : Below W.heap.size W (W.alloc (.cells #[.int .i64 k, .int .i64 n] 23)) := (Below.refl _ _).alloc (Nat.le_refl _) _
  have E := Whole.mk W 23 #[.int .i64 k, .int .i64 n]
  have HW1 := Lib.hid (HW.out.under hb1 hg)
  have HB1 := Lib.hid hb1
  clear hb1
  generalize W.alloc (.cells #[.int .i64 k, .int .i64 n] 23) = W1 at *
  have K0 : ∀ s : Later W1.heap.size W1, s.w.cell? ⟨W.heap.size, 0, none⟩ = some (.int .i64 k) := fun s => (E.under s.h E.size).cell 0
  have K1 : ∀ s : Later W1.heap.size W1, s.w.cell? ⟨W.heap.size, 1, none⟩ = some (.int .i64 n) := fun s => (E.under s.h E.size).cell 1
  have HG := Lib.hid hg
  have HE := Lib.hid E.size
  clear E
  refine region_lane [0, 1, 2, 3] [4, 5, 6, 7] [8] (by kernel_rfl) (by kernel_rfl) (fun _ _ _ _ _ h => h) ?_
  simp only [pick, List.map_cons, List.map_nil, List.getD_cons_zero, List.getD_cons_succ, List.drop_succ_cons, List.drop_zero]
  repeat (go_big_quiet_step (fail))
  refine wpQuiet_nil ?_
  refine ⟨rfl, ?_⟩
  refine laneO_run 4 (by kernel_rfl) ?_
  simp only [List.take_succ_cons, List.take_zero, List.drop_succ_cons, List.drop_zero]
  repeat (go_big_quiet_step (fail))
  refine wpQuiet_nil ?_
  refine laneO_end0 rfl rfl fun w2 hb0 => ?_
  have hb2 : Below W1.heap.size W1 w2 := hb0
  have hz := HZ.out
  have hw2 := HW1.out.under hb2 HW1.out.size
  have HB2 := Lib.hid (HB1.out.trans (hb2.mono HB1.out.size))
  obtain ⟨z0, h0⟩ := i64s_get zs 32 (by rw [hz]; decide)
  have c0 : w2.cell? ⟨g, 32, none⟩ = some (.int .i64 z0) := (hw2.cell 32).trans h0
  have f0 := hw2.free 32
  have HW2 := Lib.hid hw2
  have hg2 : g < w2.heap.size := hw2.size
  clear hz hb0 hb2 K0 K1 hw2 h0  hg
  go_wp2
  go_end0
  exact layPost_far W w2 g zs HW2.out HB2.out 32 n
theorem layLen14 (zs : List Int) (hz : zs.length = 43) (g : Nat) (W : World) (hw : Whole W g 27 (i64s zs)) (w k n : Int) :
    Calls Try.prog 36 #[.pointer (some ⟨g, 0, none⟩), .int .i64 14, .agg #[.int .i64 k, .int .i64 n]] W fun e w' => LayPost W g (laidZ zs 14 w k n) e w' := by
  have hg := hw.size
  have HZ := Lib.hid hz
  have HW := Lib.hid hw
  clear hz hw
  go_enter Try.func36, Try.ntmps36
  go_upto_region 23 with fail
  have hb1 : Below W.heap.size W (W.alloc (.cells #[.int .i64 k, .int .i64 n] 23)) := (Below.refl _ _).alloc (Nat.le_refl _) _
  have E := Whole.mk W 23 #[.int .i64 k, .int .i64 n]
  have HW1 := Lib.hid (HW.out.under hb1 hg)
  have HB1 := Lib.hid hb1
  clear hb1
  generalize W.alloc (.cells #[.int .i64 k, .int .i64 n] 23) = W1 at *
  have K0 : ∀ s : Later W1.heap.size W1, s.w.cell? ⟨W.heap.size, 0, none⟩ = some (.int .i64 k) := fun s => (E.under s.h E.size).cell 0
  have K1 : ∀ s : Later W1.heap.size W1, s.w.cell? ⟨W.heap.size, 1, none⟩ = some (.int .i64 n) := fun s => (E.under s.h E.size).cell 1
  have HG := Lib.hid hg
  have HE := Lib.hid E.size
  clear E
  refine region_lane [0, 1, 2, 3] [4, 5, 6, 7] [8] (by kernel_rfl) (by kernel_rfl) (fun _ _ _ _ _ h => h) ?_
  simp only [pick, List.map_cons, List.map_nil, List.getD_cons_zero, List.getD_cons_succ, List.drop_succ_cons, List.drop_zero]
  repeat (go_big_quiet_step (fail))
  refine wpQuiet_nil ?_
  refine ⟨rfl, ?_⟩
  refine laneO_run 4 (by kernel_rfl) ?_
  simp only [List.take_succ_cons, List.take_zero, List.drop_succ_cons, List.drop_zero]
  repeat (go_big_quiet_step (fail))
  refine wpQuiet_nil ?_
  refine laneO_end0 rfl rfl fun w2 hb0 => ?_
  have hb2 : Below W1.heap.size W1 w2 := hb0
  have hz := HZ.out
  have hw2 := HW1.out.under hb2 HW1.out.size
  have HB2 := Lib.hid (HB1.out.trans (hb2.mono HB1.out.size))
  obtain ⟨z0, h0⟩ := i64s_get zs 33 (by rw [hz]; decide)
  have c0 : w2.cell? ⟨g, 33, none⟩ = some (.int .i64 z0) := (hw2.cell 33).trans h0
  have f0 := hw2.free 33
  have HW2 := Lib.hid hw2
  have hg2 : g < w2.heap.size := hw2.size
  clear hz hb0 hb2 K0 K1 hw2 h0  hg
  go_wp2
  go_end0
  exact layPost_far W w2 g zs HW2.out HB2.out 33 n
theorem layLen15 (zs : List Int) (hz : zs.length = 43) (g : Nat) (W : World) (hw : Whole W g 27 (i64s zs)) (w k n : Int) :
    Calls Try.prog 36 #[.pointer (some ⟨g, 0, none⟩), .int .i64 15, .agg #[.int .i64 k, .int .i64 n]] W fun e w' => LayPost W g (laidZ zs 15 w k n) e w' := by
  have hg := hw.size
  have HZ := Lib.hid hz
  have HW := Lib.hid hw
  clear hz hw
  go_enter Try.func36, Try.ntmps36
  go_upto_region 23 with fail
  have hb1 : Below W.heap.size W (W.alloc (.cells #[.int .i64 k, .int .i64 n] 23)) := (Below.refl _ _).alloc (Nat.le_refl _) _
  have E := Whole.mk W 23 #[.int .i64 k, .int .i64 n]
  have HW1 := Lib.hid (HW.out.under hb1 hg)
  have HB1 := Lib.hid hb1
  clear hb1
  generalize W.alloc (.cells #[.int .i64 k, .int .i64 n] 23) = W1 at *
  have K0 : ∀ s : Later W1.heap.size W1, s.w.cell? ⟨W.heap.size, 0, none⟩ = some (.int .i64 k) := fun s => (E.under s.h E.size).cell 0
  have K1 : ∀ s : Later W1.heap.size W1, s.w.cell? ⟨W.heap.size, 1, none⟩ = some (.int .i64 n) := fun s => (E.under s.h E.size).cell 1
  have HG := Lib.hid hg
  have HE := Lib.hid E.size
  clear E
  refine region_lane [0, 1, 2, 3] [4, 5, 6, 7] [8] (by kernel_rfl) (by kernel_rfl) (fun _ _ _ _ _ h => h) ?_
  simp only [pick, List.map_cons, List.map_nil, List.getD_cons_zero, List.getD_cons_succ, List.drop_succ_cons, List.drop_zero]
  repeat (go_big_quiet_step (fail))
  refine wpQuiet_nil ?_
  refine ⟨rfl, ?_⟩
  refine laneO_run 4 (by kernel_rfl) ?_
  simp only [List.take_succ_cons, List.take_zero, List.drop_succ_cons, List.drop_zero]
  repeat (go_big_quiet_step (fail))
  refine wpQuiet_nil ?_
  refine laneO_end0 rfl rfl fun w2 hb0 => ?_
  have hb2 : Below W1.heap.size W1 w2 := hb0
  have hz := HZ.out
  have hw2 := HW1.out.under hb2 HW1.out.size
  have HB2 := Lib.hid (HB1.out.trans (hb2.mono HB1.out.size))
  obtain ⟨z0, h0⟩ := i64s_get zs 34 (by rw [hz]; decide)
  have c0 : w2.cell? ⟨g, 34, none⟩ = some (.int .i64 z0) := (hw2.cell 34).trans h0
  have f0 := hw2.free 34
  have HW2 := Lib.hid hw2
  have hg2 : g < w2.heap.size := hw2.size
  clear hz hb0 hb2 K0 K1 hw2 h0  hg
  go_wp2
  go_end0
  exact layPost_far W w2 g zs HW2.out HB2.out 34 n
theorem layLen16 (zs : List Int) (hz : zs.length = 43) (g : Nat) (W : World) (hw : Whole W g 27 (i64s zs)) (w k n : Int) :
    Calls Try.prog 36 #[.pointer (some ⟨g, 0, none⟩), .int .i64 16, .agg #[.int .i64 k, .int .i64 n]] W fun e w' => LayPost W g (laidZ zs 16 w k n) e w' := by
  have hg := hw.size
  have HZ := Lib.hid hz
  have HW := Lib.hid hw
  clear hz hw
  go_enter Try.func36, Try.ntmps36
  go_upto_region 28 with fail
  have hb1 : Below W.heap.size W (W.alloc (.cells #[.int .i64 k, .int .i64 n] 23)) := (Below.refl _ _).alloc (Nat.le_refl _) _
  have E := Whole.mk W 23 #[.int .i64 k, .int .i64 n]
  have HW1 := Lib.hid (HW.out.under hb1 hg)
  have HB1 := Lib.hid hb1
  clear hb1
  generalize W.alloc (.cells #[.int .i64 k, .int .i64 n] 23) = W1 at *
  have K0 : ∀ s : Later W1.heap.size W1, s.w.cell? ⟨W.heap.size, 0, none⟩ = some (.int .i64 k) := fun s => (E.under s.h E.size).cell 0
  have K1 : ∀ s : Later W1.heap.size W1, s.w.cell? ⟨W.heap.size, 1, none⟩ = some (.int .i64 n) := fun s => (E.under s.h E.size).cell 1
  have HG := Lib.hid hg
  have HE := Lib.hid E.size
  clear E
  refine region_lane [0, 1, 2, 3] [4, 5, 6, 7] [8] (by kernel_rfl) (by kernel_rfl) (fun _ _ _ _ _ h => h) ?_
  simp only [pick, List.map_cons, List.map_nil, List.getD_cons_zero, List.getD_cons_succ, List.drop_succ_cons, List.drop_zero]
  repeat (go_big_quiet_step (fail))
  refine wpQuiet_nil ?_
  refine ⟨rfl, ?_⟩
  refine laneO_run 4 (by kernel_rfl) ?_
  simp only [List.take_succ_cons, List.take_zero, List.drop_succ_cons, List.drop_zero]
  repeat (go_big_quiet_step (fail))
  refine wpQuiet_nil ?_
  refine laneO_end0 rfl rfl fun w2 hb0 => ?_
  have hb2 : Below W1.heap.size W1 w2 := hb0
  have hz := HZ.out
  have hw2 := HW1.out.under hb2 HW1.out.size
  have HB2 := Lib.hid (HB1.out.trans (hb2.mono HB1.out.size))
  obtain ⟨z0, h0⟩ := i64s_get zs 35 (by rw [hz]; decide)
  have c0 : w2.cell? ⟨g, 35, none⟩ = some (.int .i64 z0) := (hw2.cell 35).trans h0
  have f0 := hw2.free 35
  have HW2 := Lib.hid hw2
  have hg2 : g < w2.heap.size := hw2.size
  clear hz hb0 hb2 K0 K1 hw2 h0  hg
  go_wp2
  go_end0
  exact layPost_far W w2 g zs HW2.out HB2.out 35 n
theorem layLen17 (zs : List Int) (hz : zs.length = 43) (g : Nat) (W : World) (hw : Whole W g 27 (i64s zs)) (w k n : Int) :
    Calls Try.prog 36 #[.pointer (some ⟨g, 0, none⟩), .int .i64 17, .agg #[.int .i64 k, .int .i64 n]] W fun e w' => LayPost W g (laidZ zs 17 w k n) e w' := by
  have hg := hw.size
  have HZ := Lib.hid hz
  have HW := Lib.hid hw
  clear hz hw
  go_enter Try.func36, Try.ntmps36
  go_upto_region 28 with fail
  have hb1 : Below W.heap.size W (W.alloc (.cells #[.int .i64 k, .int .i64 n] 23)) := (Below.refl _ _).alloc (Nat.le_refl _) _
  have E := Whole.mk W 23 #[.int .i64 k, .int .i64 n]
  have HW1 := Lib.hid (HW.out.under hb1 hg)
  have HB1 := Lib.hid hb1
  clear hb1
  generalize W.alloc (.cells #[.int .i64 k, .int .i64 n] 23) = W1 at *
  have K0 : ∀ s : Later W1.heap.size W1, s.w.cell? ⟨W.heap.size, 0, none⟩ = some (.int .i64 k) := fun s => (E.under s.h E.size).cell 0
  have K1 : ∀ s : Later W1.heap.size W1, s.w.cell? ⟨W.heap.size, 1, none⟩ = some (.int .i64 n) := fun s => (E.under s.h E.size).cell 1
  have HG := Lib.hid hg
  have HE := Lib.hid E.size
  clear E
  refine region_lane [0, 1, 2, 3] [4, 5, 6, 7] [8] (by kernel_rfl) (by kernel_rfl) (fun _ _ _ _ _ h => h) ?_
  simp only [pick, List.map_cons, List.map_nil, List.getD_cons_zero, List.getD_cons_succ, List.drop_succ_cons, List.drop_zero]
  repeat (go_big_quiet_step (fail))
  refine wpQuiet_nil ?_
  refine ⟨rfl, ?_⟩
  refine laneO_run 4 (by kernel_rfl) ?_
  simp only [List.take_succ_cons, List.take_zero, List.drop_succ_cons, List.drop_zero]
  repeat (go_big_quiet_step (fail))
  refine wpQuiet_nil ?_
  refine laneO_end0 rfl rfl fun w2 hb0 => ?_
  have hb2 : Below W1.heap.size W1 w2 := hb0
  have hz := HZ.out
  have hw2 := HW1.out.under hb2 HW1.out.size
  have HB2 := Lib.hid (HB1.out.trans (hb2.mono HB1.out.size))
  obtain ⟨z0, h0⟩ := i64s_get zs 36 (by rw [hz]; decide)
  have c0 : w2.cell? ⟨g, 36, none⟩ = some (.int .i64 z0) := (hw2.cell 36).trans h0
  have f0 := hw2.free 36
  have HW2 := Lib.hid hw2
  have hg2 : g < w2.heap.size := hw2.size
  clear hz hb0 hb2 K0 K1 hw2 h0  hg
  go_wp2
  go_end0
  exact layPost_far W w2 g zs HW2.out HB2.out 36 n
theorem layLen18 (zs : List Int) (hz : zs.length = 43) (g : Nat) (W : World) (hw : Whole W g 27 (i64s zs)) (w k n : Int) :
    Calls Try.prog 36 #[.pointer (some ⟨g, 0, none⟩), .int .i64 18, .agg #[.int .i64 k, .int .i64 n]] W fun e w' => LayPost W g (laidZ zs 18 w k n) e w' := by
  have hg := hw.size
  have HZ := Lib.hid hz
  have HW := Lib.hid hw
  clear hz hw
  go_enter Try.func36, Try.ntmps36
  go_upto_region 28 with fail
  have hb1 : Below W.heap.size W (W.alloc (.cells #[.int .i64 k, .int .i64 n] 23)) := (Below.refl _ _).alloc (Nat.le_refl _) _
  have E := Whole.mk W 23 #[.int .i64 k, .int .i64 n]
  have HW1 := Lib.hid (HW.out.under hb1 hg)
  have HB1 := Lib.hid hb1
  clear hb1
  generalize W.alloc (.cells #[.int .i64 k, .int .i64 n] 23) = W1 at *
  have K0 : ∀ s : Later W1.heap.size W1, s.w.cell? ⟨W.heap.size, 0, none⟩ = some (.int .i64 k) := fun s => (E.under s.h E.size).cell 0
  have K1 : ∀ s : Later W1.heap.size W1, s.w.cell? ⟨W.heap.size, 1, none⟩ = some (.int .i64 n) := fun s => (E.under s.h E.size).cell 1
  have HG := Lib.hid hg
  have HE := Lib.hid E.size
  clear E
  refine region_lane [0, 1, 2, 3] [4, 5, 6, 7] [8] (by kernel_rfl) (by kernel_rfl) (fun _ _ _ _ _ h => h) ?_
  simp only [pick, List.map_cons, List.map_nil, List.getD_cons_zero, List.getD_cons_succ, List.drop_succ_cons, List.drop_zero]
  repeat (go_big_quiet_step (fail))
  refine wpQuiet_nil ?_
  refine ⟨rfl, ?_⟩
  refine laneO_run 4 (by kernel_rfl) ?_
  simp only [List.take_succ_cons, List.take_zero, List.drop_succ_cons, List.drop_zero]
  repeat (go_big_quiet_step (fail))
  refine wpQuiet_nil ?_
  refine laneO_end0 rfl rfl fun w2 hb0 => ?_
  have hb2 : Below W1.heap.size W1 w2 := hb0
  have hz := HZ.out
  have hw2 := HW1.out.under hb2 HW1.out.size
  have HB2 := Lib.hid (HB1.out.trans (hb2.mono HB1.out.size))
  obtain ⟨z0, h0⟩ := i64s_get zs 37 (by rw [hz]; decide)
  have c0 : w2.cell? ⟨g, 37, none⟩ = some (.int .i64 z0) := (hw2.cell 37).trans h0
  have f0 := hw2.free 37
  have HW2 := Lib.hid hw2
  have hg2 : g < w2.heap.size := hw2.size
  clear hz hb0 hb2 K0 K1 hw2 h0  hg
  go_wp2
  go_end0
  exact layPost_far W w2 g zs HW2.out HB2.out 37 n
theorem layLen19 (zs : List Int) (hz : zs.length = 43) (g : Nat) (W : World) (hw : Whole W g 27 (i64s zs)) (w k n : Int) :
    Calls Try.prog 36 #[.pointer (some ⟨g, 0, none⟩), .int .i64 19, .agg #[.int .i64 k, .int .i64 n]] W fun e w' => LayPost W g (laidZ zs 19 w k n) e w' := by
  have hg := hw.size
  have HZ := Lib.hid hz
  have HW := Lib.hid hw
  clear hz hw
  go_enter Try.func36, Try.ntmps36
  go_upto_region 28 with fail
  have hb1 : Below W.heap.size W (W.alloc (.cells #[.int .i64 k, .int .i64 n] 23)) := (Below.refl _ _).alloc (Nat.le_refl _) _
  have E := Whole.mk W 23 #[.int .i64 k, .int .i64 n]
  have HW1 := Lib.hid (HW.out.under hb1 hg)
  have HB1 := Lib.hid hb1
  clear hb1
  generalize W.alloc (.cells #[.int .i64 k, .int .i64 n] 23) = W1 at *
  have K0 : ∀ s : Later W1.heap.size W1, s.w.cell? ⟨W.heap.size, 0, none⟩ = some (.int .i64 k) := fun s => (E.under s.h E.size).cell 0
  have K1 : ∀ s : Later W1.heap.size W1, s.w.cell? ⟨W.heap.size, 1, none⟩ = some (.int .i64 n) := fun s => (E.under s.h E.size).cell 1
  have HG := Lib.hid hg
  have HE := Lib.hid E.size
  clear E
  refine region_lane [0, 1, 2, 3] [4, 5, 6, 7] [8] (by kernel_rfl) (by kernel_rfl) (fun _ _ _ _ _ h => h) ?_
  simp only [pick, List.map_cons, List.map_nil, List.getD_cons_zero, List.getD_cons_succ, List.drop_succ_cons, List.drop_zero]
  repeat (go_big_quiet_step (fail))
  refine wpQuiet_nil ?_
  refine ⟨rfl, ?_⟩
  refine laneO_run 4 (by kernel_rfl) ?_
  simp only [List.take_succ_cons, List.take_zero, List.drop_succ_cons, List.drop_zero]
  repeat (go_big_quiet_step (fail))
  refine wpQuiet_nil ?_
  refine laneO_end0 rfl rfl fun w2 hb0 => ?_
  have hb2 : Below W1.heap.size W1 w2 := hb0
  have hz := HZ.out
  have hw2 := HW1.out.under hb2 HW1.out.size
  have HB2 := Lib.hid (HB1.out.trans (hb2.mono HB1.out.size))
  obtain ⟨z0, h0⟩ := i64s_get zs 38 (by rw [hz]; decide)
  have c0 : w2.cell? ⟨g, 38, none⟩ = some (.int .i64 z0) := (hw2.cell 38).trans h0
  have f0 := hw2.free 38
  have HW2 := Lib.hid hw2
  have hg2 : g < w2.heap.size := hw2.size
  clear hz hb0 hb2 K0 K1 hw2 h0  hg
  go_wp2
  go_end0
  exact layPost_far W w2 g zs HW2.out HB2.out 38 n
theorem layLen22 (zs : List Int) (hz : zs.length = 43) (g : Nat) (W : World) (hw : Whole W g 27 (i64s zs)) (w k n : Int) :
    Calls Try.prog 36 #[.pointer (some ⟨g, 0, none⟩), .int .i64 22, .agg #[.int .i64 k, .int .i64 n]] W fun e w' => LayPost W g (laidZ zs 22 w k n) e w' := by
  have hg := hw.size
  obtain ⟨z0, h0⟩ := i64s_get zs 21 (by rw [hz]; decide)
  have c0 : W.cell? ⟨g, 21, none⟩ = some (.int .i64 z0) := (hw.cell 21).trans h0
  have f0 := hw.free 21
  obtain ⟨z1, h1⟩ := i64s_get zs 22 (by rw [hz]; decide)
  have c1 : W.cell? ⟨g, 22, none⟩ = some (.int .i64 z1) := (hw.cell 22).trans h1
  have f1 := hw.free 22
  have HZ := Lib.hid hz
  have HW := Lib.hid hw
  clear hz hw h0 h1
  go_enter Try.func36, Try.ntmps36
  go_wp2
  go_end0
  exact layPost_two W g zs HW.out 21 k n _
theorem layLen31 (zs : List Int) (hz : zs.length = 43) (g : Nat) (W : World) (hw : Whole W g 27 (i64s zs)) (w k n : Int) :
    Calls Try.prog 36 #[.pointer (some ⟨g, 0, none⟩), .int .i64 31, .agg #[.int .i64 k, .int .i64 n]] W fun e w' => LayPost W g (laidZ zs 31 w k n) e w' := by
  have hg := hw.size
  obtain ⟨z0, h0⟩ := i64s_get zs 42 (by rw [hz]; decide)
  have c0 : W.cell? ⟨g, 42, none⟩ = some (.int .i64 z0) := (hw.cell 42).trans h0
  have f0 := hw.free 42
  have HZ := Lib.hid hz
  have HW := Lib.hid hw
  clear hz hw h0 
  go_enter Try.func36, Try.ntmps36
  go_wp2
  go_end0
  exact layPost_one W g zs HW.out 42 n _
theorem lay1 (zs : List Int) (hz : zs.length = 43) (g : Nat) (W : World) (hw : Whole W g 27 (i64s zs)) (w k n : Int) :
    Calls Try.prog 29 #[.pointer (some ⟨g, 0, none⟩), .agg #[.int .i64 1, .int .i64 w, .int .i64 k, .int .i64 n]] W fun e w' => LayPost W g (laidZ zs 1 w k n) e w' := by
  have hg := hw.size
  obtain ⟨z0, h0⟩ := i64s_get zs 0 (by rw [hz]; decide)
  have c0 : W.cell? ⟨g, 0, none⟩ = some (.int .i64 z0) := (hw.cell 0).trans h0
  have f0 := hw.free 0
  have HW := Lib.hid hw
  clear hz hw h0
  go_enter Try.func29, Try.ntmps29
  go_wp2
  go_end0
  exact layPost_one W g zs HW.out 0 w _
theorem lay2 (zs : List Int) (hz : zs.length = 43) (g : Nat) (W : World) (hw : Whole W g 27 (i64s zs)) (w k n : Int) :
    Calls Try.prog 29 #[.pointer (some ⟨g, 0, none⟩), .agg #[.int .i64 2, .int .i64 w, .int .i64 k, .int .i64 n]] W fun e w' => LayPost W g (laidZ zs 2 w k n) e w' := by
  have hg := hw.size
  have HZ := Lib.hid hz
  have HW := Lib.hid hw
  clear hz hw
  go_enter Try.func29, Try.ntmps29
  go_wp2_with (go_at_call 36; refine (layLen2 zs HZ.out g _ (HW.out.made _) w k n).mono ?_; rintro e w1 ⟨rfl, h1, o1⟩; have H1 := Lib.hid h1; have O1 := Lib.hid o1; clear h1 o1)
  go_end0
  exact ⟨rfl, H1.out, (((Only.refl [g] W).alloc _).trans O1.out (fun x hx => .inl hx))⟩
theorem lay3 (zs : List Int) (hz : zs.length = 43) (g : Nat) (W : World) (hw : Whole W g 27 (i64s zs)) (w k n : Int) :
    Calls Try.prog 29 #[.pointer (some ⟨g, 0, none⟩), .agg #[.int .i64 3, .int .i64 w, .int .i64 k, .int .i64 n]] W fun e w' => LayPost W g (laidZ zs 3 w k n) e w' := by
  have hg := hw.size
  have HZ := Lib.hid hz
  have HW := Lib.hid hw
  clear hz hw
  go_enter Try.func29, Try.ntmps29
  go_wp2_with (go_at_call 36; refine (layLen3 zs HZ.out g _ (HW.out.made _) w k n).mono ?_; rintro e w1 ⟨rfl, h1, o1⟩; have H1 := Lib.hid h1; have O1 := Lib.hid o1; clear h1 o1)
  go_end0
  exact ⟨rfl, H1.out, (((Only.refl [g] W).alloc _).trans O1.out (fun x hx => .inl hx))⟩
theorem lay4 (zs : List Int) (hz : zs.length = 43) (g : Nat) (W : World) (hw : Whole W g 27 (i64s zs)) (w k n : Int) :
    Calls Try.prog 29 #[.pointer (some ⟨g, 0, none⟩), .agg #[.int .i64 4, .int .i64 w, .int .i64 k, .int .i64 n]] W fun e w' => LayPost W g (laidZ zs 4 w k n) e w' := by
  have hg := hw.size
  have HZ := Lib.hid hz
  have HW := Lib.hid hw
  clear hz hw
  go_enter Try.func29, Try.ntmps29
  go_wp2_with (go_at_call 36; refine (layLen4 zs HZ.out g _ (HW.out.made _) w k n).mono ?_; rintro e w1 ⟨rfl, h1, o1⟩; have H1 := Lib.hid h1; have O1 := Lib.hid o1; clear h1 o1)
  go_end0
  exact ⟨rfl, H1.out, (((Only.refl [g] W).alloc _).trans O1.out (fun x hx => .inl hx))⟩
theorem lay5 (zs : List Int) (hz : zs.length = 43) (g : Nat) (W : World) (hw : Whole W g 27 (i64s zs)) (w k n : Int) :
    Calls Try.prog 29 #[.pointer (some ⟨g, 0, none⟩), .agg #[.int .i64 5, .int .i64 w, .int .i64 k, .int .i64 n]] W fun e w' => LayPost W g (laidZ zs 5 w k n) e w' := by
  have hg := hw.size
  have HZ := Lib.hid hz
  have HW := Lib.hid hw
  clear hz hw
  go_enter Try.func29, Try.ntmps29
  go_wp2_with (go_at_call 36; refine (layLen5 zs HZ.out g _ (HW.out.made _) w k n).mono ?_; rintro e w1 ⟨rfl, h1, o1⟩; have H1 := Lib.hid h1; have O1 := Lib.hid o1; clear h1 o1)
  go_end0
  exact ⟨rfl, H1.out, (((Only.refl [g] W).alloc _).trans O1.out (fun x hx => .inl hx))⟩
theorem lay6 (zs : List Int) (hz : zs.length = 43) (g : Nat) (W : World) (hw : Whole W g 27 (i64s zs)) (w k n : Int) :
    Calls Try.prog 29 #[.pointer (some ⟨g, 0, none⟩), .agg #[.int .i64 6, .int .i64 w, .int .i64 k, .int .i64 n]] W fun e w' => LayPost W g (laidZ zs 6 w k n) e w' := by
  have hg := hw.size
  have HZ := Lib.hid hz
  have HW := Lib.hid hw
  clear hz hw
  go_enter Try.func29, Try.ntmps29
  go_wp2_with (go_at_call 36; refine (layLen6 zs HZ.out g _ (HW.out.made _) w k n).mono ?_; rintro e w1 ⟨rfl, h1, o1⟩; have H1 := Lib.hid h1; have O1 := Lib.hid o1; clear h1 o1)
  go_end0
  exact ⟨rfl, H1.out, (((Only.refl [g] W).alloc _).trans O1.out (fun x hx => .inl hx))⟩
theorem lay7 (zs : List Int) (hz : zs.length = 43) (g : Nat) (W : World) (hw : Whole W g 27 (i64s zs)) (w k n : Int) :
    Calls Try.prog 29 #[.pointer (some ⟨g, 0, none⟩), .agg #[.int .i64 7, .int .i64 w, .int .i64 k, .int .i64 n]] W fun e w' => LayPost W g (laidZ zs 7 w k n) e w' := by
  have hg := hw.size
  have HZ := Lib.hid hz
  have HW := Lib.hid hw
  clear hz hw
  go_enter Try.func29, Try.ntmps29
  go_wp2_with (go_at_call 36; refine (layLen7 zs HZ.out g _ (HW.out.made _) w k n).mono ?_; rintro e w1 ⟨rfl, h1, o1⟩; have H1 := Lib.hid h1; have O1 := Lib.hid o1; clear h1 o1)
  go_end0
  exact ⟨rfl, H1.out, (((Only.refl [g] W).alloc _).trans O1.out (fun x hx => .inl hx))⟩
theorem lay8 (zs : List Int) (hz : zs.length = 43) (g : Nat) (W : World) (hw : Whole W g 27 (i64s zs)) (w k n : Int) :
    Calls Try.prog 29 #[.pointer (some ⟨g, 0, none⟩), .agg #[.int .i64 8, .int .i64 w, .int .i64 k, .int .i64 n]] W fun e w' => LayPost W g (laidZ zs 8 w k n) e w' := by
  have hg := hw.size
  have HZ := Lib.hid hz
  have HW := Lib.hid hw
  clear hz hw
  go_enter Try.func29, Try.ntmps29
  go_wp2_with (go_at_call 36; refine (layLen8 zs HZ.out g _ (HW.out.made _) w k n).mono ?_; rintro e w1 ⟨rfl, h1, o1⟩; have H1 := Lib.hid h1; have O1 := Lib.hid o1; clear h1 o1)
  go_end0
  exact ⟨rfl, H1.out, (((Only.refl [g] W).alloc _).trans O1.out (fun x hx => .inl hx))⟩
theorem lay9 (zs : List Int) (hz : zs.length = 43) (g : Nat) (W : World) (hw : Whole W g 27 (i64s zs)) (w k n : Int) :
    Calls Try.prog 29 #[.pointer (some ⟨g, 0, none⟩), .agg #[.int .i64 9, .int .i64 w, .int .i64 k, .int .i64 n]] W fun e w' => LayPost W g (laidZ zs 9 w k n) e w' := by
  have hg := hw.size
  have HZ := Lib.hid hz
  have HW := Lib.hid hw
  clear hz hw
  go_enter Try.func29, Try.ntmps29
  go_wp2_with (go_at_call 36; refine (layLen9 zs HZ.out g _ (HW.out.made _) w k n).mono ?_; rintro e w1 ⟨rfl, h1, o1⟩; have H1 := Lib.hid h1; have O1 := Lib.hid o1; clear h1 o1)
  go_end0
  exact ⟨rfl, H1.out, (((Only.refl [g] W).alloc _).trans O1.out (fun x hx => .inl hx))⟩
theorem lay10 (zs : List Int) (hz : zs.length = 43) (g : Nat) (W : World) (hw : Whole W g 27 (i64s zs)) (w k n : Int) :
    Calls Try.prog 29 #[.pointer (some ⟨g, 0, none⟩), .agg #[.int .i64 10, .int .i64 w, .int .i64 k, .int .i64 n]] W fun e w' => LayPost W g (laidZ zs 10 w k n) e w' := by
  have hg := hw.size
  have HZ := Lib.hid hz
  have HW := Lib.hid hw
  clear hz hw
  go_enter Try.func29, Try.ntmps29
  go_wp2_with (go_at_call 36; refine (layLen10 zs HZ.out g _ (HW.out.made _) w k n).mono ?_; rintro e w1 ⟨rfl, h1, o1⟩; have H1 := Lib.hid h1; have O1 := Lib.hid o1; clear h1 o1)
  go_end0
  exact ⟨rfl, H1.out, (((Only.refl [g] W).alloc _).trans O1.out (fun x hx => .inl hx))⟩
theorem lay11 (zs : List Int) (hz : zs.length = 43) (g : Nat) (W : World) (hw : Whole W g 27 (i64s zs)) (w k n : Int) :
    Calls Try.prog 29 #[.pointer (some ⟨g, 0, none⟩), .agg #[.int .i64 11, .int .i64 w, .int .i64 k, .int .i64 n]] W fun e w' => LayPost W g (laidZ zs 11 w k n) e w' := by
  have hg := hw.size
  have HZ := Lib.hid hz
  have HW := Lib.hid hw
  clear hz hw
  go_enter Try.func29, Try.ntmps29
  go_wp2_with (go_at_call 36; refine (layLen11 zs HZ.out g _ (HW.out.made _) w k n).mono ?_; rintro e w1 ⟨rfl, h1, o1⟩; have H1 := Lib.hid h1; have O1 := Lib.hid o1; clear h1 o1)
  go_end0
  exact ⟨rfl, H1.out, (((Only.refl [g] W).alloc _).trans O1.out (fun x hx => .inl hx))⟩
theorem lay12 (zs : List Int) (hz : zs.length = 43) (g : Nat) (W : World) (hw : Whole W g 27 (i64s zs)) (w k n : Int) :
    Calls Try.prog 29 #[.pointer (some ⟨g, 0, none⟩), .agg #[.int .i64 12, .int .i64 w, .int .i64 k, .int .i64 n]] W fun e w' => LayPost W g (laidZ zs 12 w k n) e w' := by
  have hg := hw.size
  have HZ := Lib.hid hz
  have HW := Lib.hid hw
  clear hz hw
  go_enter Try.func29, Try.ntmps29
  go_wp2_with (go_at_call 36; refine (layLen12 zs HZ.out g _ (HW.out.made _) w k n).mono ?_; rintro e w1 ⟨rfl, h1, o1⟩; have H1 := Lib.hid h1; have O1 := Lib.hid o1; clear h1 o1)
  go_end0
  exact ⟨rfl, H1.out, (((Only.refl [g] W).alloc _).trans O1.out (fun x hx => .inl hx))⟩
theorem lay13 (zs : List Int) (hz : zs.length = 43) (g : Nat) (W : World) (hw : Whole W g 27 (i64s zs)) (w k n : Int) :
    Calls Try.prog 29 #[.pointer (some ⟨g, 0, none⟩), .agg #[.int .i64 13, .int .i64 w, .int .i64 k, .int .i64 n]] W fun e w' => LayPost W g (laidZ zs 13 w k n) e w' := by
  have hg := hw.size
  have HZ := Lib.hid hz
  have HW := Lib.hid hw
  clear hz hw
  go_enter Try.func29, Try.ntmps29
  go_wp2_with (go_at_call 36; refine (layLen13 zs HZ.out g _ (HW.out.made _) w k n).mono ?_; rintro e w1 ⟨rfl, h1, o1⟩; have H1 := Lib.hid h1; have O1 := Lib.hid o1; clear h1 o1)
  go_end0
  exact ⟨rfl, H1.out, (((Only.refl [g] W).alloc _).trans O1.out (fun x hx => .inl hx))⟩
theorem lay14 (zs : List Int) (hz : zs.length = 43) (g : Nat) (W : World) (hw : Whole W g 27 (i64s zs)) (w k n : Int) :
    Calls Try.prog 29 #[.pointer (some ⟨g, 0, none⟩), .agg #[.int .i64 14, .int .i64 w, .int .i64 k, .int .i64 n]] W fun e w' => LayPost W g (laidZ zs 14 w k n) e w' := by
  have hg := hw.size
  have HZ := Lib.hid hz
  have HW := Lib.hid hw
  clear hz hw
  go_enter Try.func29, Try.ntmps29
  go_wp2_with (go_at_call 36; refine (layLen14 zs HZ.out g _ (HW.out.made _) w k n).mono ?_; rintro e w1 ⟨rfl, h1, o1⟩; have H1 := Lib.hid h1; have O1 := Lib.hid o1; clear h1 o1)
  go_end0
  exact ⟨rfl, H1.out, (((Only.refl [g] W).alloc _).trans O1.out (fun x hx => .inl hx))⟩
theorem lay15 (zs : List Int) (hz : zs.length = 43) (g : Nat) (W : World) (hw : Whole W g 27 (i64s zs)) (w k n : Int) :
    Calls Try.prog 29 #[.pointer (some ⟨g, 0, none⟩), .agg #[.int .i64 15, .int .i64 w, .int .i64 k, .int .i64 n]] W fun e w' => LayPost W g (laidZ zs 15 w k n) e w' := by
  have hg := hw.size
  have HZ := Lib.hid hz
  have HW := Lib.hid hw
  clear hz hw
  go_enter Try.func29, Try.ntmps29
  go_wp2_with (go_at_call 36; refine (layLen15 zs HZ.out g _ (HW.out.made _) w k n).mono ?_; rintro e w1 ⟨rfl, h1, o1⟩; have H1 := Lib.hid h1; have O1 := Lib.hid o1; clear h1 o1)
  go_end0
  exact ⟨rfl, H1.out, (((Only.refl [g] W).alloc _).trans O1.out (fun x hx => .inl hx))⟩
theorem lay16 (zs : List Int) (hz : zs.length = 43) (g : Nat) (W : World) (hw : Whole W g 27 (i64s zs)) (w k n : Int) :
    Calls Try.prog 29 #[.pointer (some ⟨g, 0, none⟩), .agg #[.int .i64 16, .int .i64 w, .int .i64 k, .int .i64 n]] W fun e w' => LayPost W g (laidZ zs 16 w k n) e w' := by
  have hg := hw.size
  have HZ := Lib.hid hz
  have HW := Lib.hid hw
  clear hz hw
  go_enter Try.func29, Try.ntmps29
  go_wp2_with (go_at_call 36; refine (layLen16 zs HZ.out g _ (HW.out.made _) w k n).mono ?_; rintro e w1 ⟨rfl, h1, o1⟩; have H1 := Lib.hid h1; have O1 := Lib.hid o1; clear h1 o1)
  go_end0
  exact ⟨rfl, H1.out, (((Only.refl [g] W).alloc _).trans O1.out (fun x hx => .inl hx))⟩
theorem lay17 (zs : List Int) (hz : zs.length = 43) (g : Nat) (W : World) (hw : Whole W g 27 (i64s zs)) (w k n : Int) :
    Calls Try.prog 29 #[.pointer (some ⟨g, 0, none⟩), .agg #[.int .i64 17, .int .i64 w, .int .i64 k, .int .i64 n]] W fun e w' => LayPost W g (laidZ zs 17 w k n) e w' := by
  have hg := hw.size
  have HZ := Lib.hid hz
  have HW := Lib.hid hw
  clear hz hw
  go_enter Try.func29, Try.ntmps29
  go_wp2_with (go_at_call 36; refine (layLen17 zs HZ.out g _ (HW.out.made _) w k n).mono ?_; rintro e w1 ⟨rfl, h1, o1⟩; have H1 := Lib.hid h1; have O1 := Lib.hid o1; clear h1 o1)
  go_end0
  exact ⟨rfl, H1.out, (((Only.refl [g] W).alloc _).trans O1.out (fun x hx => .inl hx))⟩
theorem lay18 (zs : List Int) (hz : zs.length = 43) (g : Nat) (W : World) (hw : Whole W g 27 (i64s zs)) (w k n : Int) :
    Calls Try.prog 29 #[.pointer (some ⟨g, 0, none⟩), .agg #[.int .i64 18, .int .i64 w, .int .i64 k, .int .i64 n]] W fun e w' => LayPost W g (laidZ zs 18 w k n) e w' := by
  have hg := hw.size
  have HZ := Lib.hid hz
  have HW := Lib.hid hw
  clear hz hw
  go_enter Try.func29, Try.ntmps29
  go_wp2_with (go_at_call 36; refine (layLen18 zs HZ.out g _ (HW.out.made _) w k n).mono ?_; rintro e w1 ⟨rfl, h1, o1⟩; have H1 := Lib.hid h1; have O1 := Lib.hid o1; clear h1 o1)
  go_end0
  exact ⟨rfl, H1.out, (((Only.refl [g] W).alloc _).trans O1.out (fun x hx => .inl hx))⟩
theorem lay19 (zs : List Int) (hz : zs.length = 43) (g : Nat) (W : World) (hw : Whole W g 27 (i64s zs)) (w k n : Int) :
    Calls Try.prog 29 #[.pointer (some ⟨g, 0, none⟩), .agg #[.int .i64 19, .int .i64 w, .int .i64 k, .int .i64 n]] W fun e w' => LayPost W g (laidZ zs 19 w k n) e w' := by
  have hg := hw.size
  have HZ := Lib.hid hz
  have HW := Lib.hid hw
  clear hz hw
  go_enter Try.func29, Try.ntmps29
  go_wp2_with (go_at_call 36; refine (layLen19 zs HZ.out g _ (HW.out.made _) w k n).mono ?_; rintro e w1 ⟨rfl, h1, o1⟩; have H1 := Lib.hid h1; have O1 := Lib.hid o1; clear h1 o1)
  go_end0
  exact ⟨rfl, H1.out, (((Only.refl [g] W).alloc _).trans O1.out (fun x hx => .inl hx))⟩
theorem lay20 (zs : List Int) (hz : zs.length = 43) (g : Nat) (W : World) (hw : Whole W g 27 (i64s zs)) (w k n : Int) :
    Calls Try.prog 29 #[.pointer (some ⟨g, 0, none⟩), .agg #[.int .i64 20, .int .i64 w, .int .i64 k, .int .i64 n]] W fun e w' => LayPost W g (laidZ zs 20 w k n) e w' := by
  have hg := hw.size
  obtain ⟨z0, h0⟩ := i64s_get zs 1 (by rw [hz]; decide)
  have c0 : W.cell? ⟨g, 1, none⟩ = some (.int .i64 z0) := (hw.cell 1).trans h0
  have f0 := hw.free 1
  have HW := Lib.hid hw
  clear hz hw h0
  go_enter Try.func29, Try.ntmps29
  go_wp2
  go_end0
  exact layPost_one W g zs HW.out 1 w _
theorem lay21 (zs : List Int) (hz : zs.length = 43) (g : Nat) (W : World) (hw : Whole W g 27 (i64s zs)) (w k n : Int) :
    Calls Try.prog 29 #[.pointer (some ⟨g, 0, none⟩), .agg #[.int .i64 21, .int .i64 w, .int .i64 k, .int .i64 n]] W fun e w' => LayPost W g (laidZ zs 21 w k n) e w' := by
  have hg := hw.size
  obtain ⟨z0, h0⟩ := i64s_get zs 2 (by rw [hz]; decide)
  have c0 : W.cell? ⟨g, 2, none⟩ = some (.int .i64 z0) := (hw.cell 2).trans h0
  have f0 := hw.free 2
  have HW := Lib.hid hw
  clear hz hw h0
  go_enter Try.func29, Try.ntmps29
  go_wp2
  go_end0
  exact layPost_one W g zs HW.out 2 w _
theorem lay22 (zs : List Int) (hz : zs.length = 43) (g : Nat) (W : World) (hw : Whole W g 27 (i64s zs)) (w k n : Int) :
    Calls Try.prog 29 #[.pointer (some ⟨g, 0, none⟩), .agg #[.int .i64 22, .int .i64 w, .int .i64 k, .int .i64 n]] W fun e w' => LayPost W g (laidZ zs 22 w k n) e w' := by
  have hg := hw.size
  have HZ := Lib.hid hz
  have HW := Lib.hid hw
  clear hz hw
  go_enter Try.func29, Try.ntmps29
  go_wp2_with (go_at_call 36; refine (layLen22 zs HZ.out g _ (HW.out.made _) w k n).mono ?_; rintro e w1 ⟨rfl, h1, o1⟩; have H1 := Lib.hid h1; have O1 := Lib.hid o1; clear h1 o1)
  go_end0
  exact ⟨rfl, H1.out, (((Only.refl [g] W).alloc _).trans O1.out (fun x hx => .inl hx))⟩
theorem lay23 (zs : List Int) (hz : zs.length = 43) (g : Nat) (W : World) (hw : Whole W g 27 (i64s zs)) (w k n : Int) :
    Calls Try.prog 29 #[.pointer (some ⟨g, 0, none⟩), .agg #[.int .i64 23, .int .i64 w, .int .i64 k, .int .i64 n]] W fun e w' => LayPost W g (laidZ zs 23 w k n) e w' := by
  have hg := hw.size
  obtain ⟨z0, h0⟩ := i64s_get zs 39 (by rw [hz]; decide)
  have c0 : W.cell? ⟨g, 39, none⟩ = some (.int .i64 z0) := (hw.cell 39).trans h0
  have f0 := hw.free 39
  have HW := Lib.hid hw
  clear hz hw h0
  go_enter Try.func29, Try.ntmps29
  go_wp2
  go_end0
  exact layPost_one W g zs HW.out 39 w _
theorem lay24 (zs : List Int) (hz : zs.length = 43) (g : Nat) (W : World) (hw : Whole W g 27 (i64s zs)) (w k n : Int) :
    Calls Try.prog 29 #[.pointer (some ⟨g, 0, none⟩), .agg #[.int .i64 24, .int .i64 w, .int .i64 k, .int .i64 n]] W fun e w' => LayPost W g (laidZ zs 24 w k n) e w' := by
  have hg := hw.size
  obtain ⟨z0, h0⟩ := i64s_get zs 40 (by rw [hz]; decide)
  have c0 : W.cell? ⟨g, 40, none⟩ = some (.int .i64 z0) := (hw.cell 40).trans h0
  have f0 := hw.free 40
  have HW := Lib.hid hw
  clear hz hw h0
  go_enter Try.func29, Try.ntmps29
  go_wp2
  go_end0
  exact layPost_one W g zs HW.out 40 w _
theorem lay25 (zs : List Int) (hz : zs.length = 43) (g : Nat) (W : World) (hw : Whole W g 27 (i64s zs)) (w k n : Int) :
    Calls Try.prog 29 #[.pointer (some ⟨g, 0, none⟩), .agg #[.int .i64 25, .int .i64 w, .int .i64 k, .int .i64 n]] W fun e w' => LayPost W g (laidZ zs 25 w k n) e w' := by
  have hg := hw.size
  obtain ⟨z0, h0⟩ := i64s_get zs 41 (by rw [hz]; decide)
  have c0 : W.cell? ⟨g, 41, none⟩ = some (.int .i64 z0) := (hw.cell 41).trans h0
  have f0 := hw.free 41
  have HW := Lib.hid hw
  clear hz hw h0
  go_enter Try.func29, Try.ntmps29
  go_wp2
  go_end0
  exact layPost_one W g zs HW.out 41 w _
theorem lay26 (zs : List Int) (hz : zs.length = 43) (g : Nat) (W : World) (hw : Whole W g 27 (i64s zs)) (w k n : Int) :
    Calls Try.prog 29 #[.pointer (some ⟨g, 0, none⟩), .agg #[.int .i64 26, .int .i64 w, .int .i64 k, .int .i64 n]] W fun e w' => LayPost W g (laidZ zs 26 w k n) e w' := by
  have hg := hw.size
  obtain ⟨z0, h0⟩ := i64s_get zs 3 (by rw [hz]; decide)
  have c0 : W.cell? ⟨g, 3, none⟩ = some (.int .i64 z0) := (hw.cell 3).trans h0
  have f0 := hw.free 3
  have HW := Lib.hid hw
  clear hz hw h0
  go_enter Try.func29, Try.ntmps29
  go_wp2
  go_end0
  exact layPost_one W g zs HW.out 3 w _
theorem lay27 (zs : List Int) (hz : zs.length = 43) (g : Nat) (W : World) (hw : Whole W g 27 (i64s zs)) (w k n : Int) :
    Calls Try.prog 29 #[.pointer (some ⟨g, 0, none⟩), .agg #[.int .i64 27, .int .i64 w, .int .i64 k, .int .i64 n]] W fun e w' => LayPost W g (laidZ zs 27 w k n) e w' := by
  have hg := hw.size
  obtain ⟨z0, h0⟩ := i64s_get zs 4 (by rw [hz]; decide)
  have c0 : W.cell? ⟨g, 4, none⟩ = some (.int .i64 z0) := (hw.cell 4).trans h0
  have f0 := hw.free 4
  have HW := Lib.hid hw
  clear hz hw h0
  go_enter Try.func29, Try.ntmps29
  go_wp2
  go_end0
  exact layPost_one W g zs HW.out 4 w _
theorem lay28 (zs : List Int) (hz : zs.length = 43) (g : Nat) (W : World) (hw : Whole W g 27 (i64s zs)) (w k n : Int) :
    Calls Try.prog 29 #[.pointer (some ⟨g, 0, none⟩), .agg #[.int .i64 28, .int .i64 w, .int .i64 k, .int .i64 n]] W fun e w' => LayPost W g (laidZ zs 28 w k n) e w' := by
  have hg := hw.size
  obtain ⟨z0, h0⟩ := i64s_get zs 5 (by rw [hz]; decide)
  have c0 : W.cell? ⟨g, 5, none⟩ = some (.int .i64 z0) := (hw.cell 5).trans h0
  have f0 := hw.free 5
  have HW := Lib.hid hw
  clear hz hw h0
  go_enter Try.func29, Try.ntmps29
  go_wp2
  go_end0
  exact layPost_one W g zs HW.out 5 w _
theorem lay29 (zs : List Int) (hz : zs.length = 43) (g : Nat) (W : World) (hw : Whole W g 27 (i64s zs)) (w k n : Int) :
    Calls Try.prog 29 #[.pointer (some ⟨g, 0, none⟩), .agg #[.int .i64 29, .int .i64 w, .int .i64 k, .int .i64 n]] W fun e w' => LayPost W g (laidZ zs 29 w k n) e w' := by
  have hg := hw.size
  obtain ⟨z0, h0⟩ := i64s_get zs 6 (by rw [hz]; decide)
  have c0 : W.cell? ⟨g, 6, none⟩ = some (.int .i64 z0) := (hw.cell 6).trans h0
  have f0 := hw.free 6
  have HW := Lib.hid hw
  clear hz hw h0
  go_enter Try.func29, Try.ntmps29
  go_wp2
  go_end0
  exact layPost_one W g zs HW.out 6 w _
theorem lay30 (zs : List Int) (hz : zs.length = 43) (g : Nat) (W : World) (hw : Whole W g 27 (i64s zs)) (w k n : Int) :
    Calls Try.prog 29 #[.pointer (some ⟨g, 0, none⟩), .agg #[.int .i64 30, .int .i64 w, .int .i64 k, .int .i64 n]] W fun e w' => LayPost W g (laidZ zs 30 w k n) e w' := by
  have hg := hw.size
  obtain ⟨z0, h0⟩ := i64s_get zs 7 (by rw [hz]; decide)
  have c0 : W.cell? ⟨g, 7, none⟩ = some (.int .i64 z0) := (hw.cell 7).trans h0
  have f0 := hw.free 7
  have HW := Lib.hid hw
  clear hz hw h0
  go_enter Try.func29, Try.ntmps29
  go_wp2
  go_end0
  exact layPost_one W g zs HW.out 7 w _
theorem lay31 (zs : List Int) (hz : zs.length = 43) (g : Nat) (W : World) (hw : Whole W g 27 (i64s zs)) (w k n : Int) :
    Calls Try.prog 29 #[.pointer (some ⟨g, 0, none⟩), .agg #[.int .i64 31, .int .i64 w, .int .i64 k, .int .i64 n]] W fun e w' => LayPost W g (laidZ zs 31 w k n) e w' := by
  have hg := hw.size
  have HZ := Lib.hid hz
  have HW := Lib.hid hw
  clear hz hw
  go_enter Try.func29, Try.ntmps29
  go_wp2_with (go_at_call 36; refine (layLen31 zs HZ.out g _ (HW.out.made _) w k n).mono ?_; rintro e w1 ⟨rfl, h1, o1⟩; have H1 := Lib.hid h1; have O1 := Lib.hid o1; clear h1 o1)
  go_end0
  exact ⟨rfl, H1.out, (((Only.refl [g] W).alloc _).trans O1.out (fun x hx => .inl hx))⟩
theorem lay32 (zs : List Int) (hz : zs.length = 43) (g : Nat) (W : World) (hw : Whole W g 27 (i64s zs)) (w k n : Int) :
    Calls Try.prog 29 #[.pointer (some ⟨g, 0, none⟩), .agg #[.int .i64 32, .int .i64 w, .int .i64 k, .int .i64 n]] W fun e w' => LayPost W g (laidZ zs 32 w k n) e w' := by
  have hg := hw.size
  obtain ⟨z0, h0⟩ := i64s_get zs 8 (by rw [hz]; decide)
  have c0 : W.cell? ⟨g, 8, none⟩ = some (.int .i64 z0) := (hw.cell 8).trans h0
  have f0 := hw.free 8
  have HW := Lib.hid hw
  clear hz hw h0
  go_enter Try.func29, Try.ntmps29
  go_wp2
  go_end0
  exact layPost_one W g zs HW.out 8 w _
theorem lay_any (zs : List Int) (hz : zs.length = 43) (g : Nat) (W : World) (hw : Whole W g 27 (i64s zs)) (p w k n : Int) (hp : 1 ≤ p) (hp2 : p ≤ 32) :
    Calls Try.prog 29 #[.pointer (some ⟨g, 0, none⟩), .agg #[.int .i64 p, .int .i64 w, .int .i64 k, .int .i64 n]] W fun e w' => LayPost W g (laidZ zs p w k n) e w' := by
  rcases (show p = 1 ∨ p = 2 ∨ p = 3 ∨ p = 4 ∨ p = 5 ∨ p = 6 ∨ p = 7 ∨ p = 8 ∨ p = 9 ∨ p = 10 ∨ p = 11 ∨ p = 12 ∨ p = 13 ∨ p = 14 ∨ p = 15 ∨ p = 16 ∨ p = 17 ∨ p = 18 ∨ p = 19 ∨ p = 20 ∨ p = 21 ∨ p = 22 ∨ p = 23 ∨ p = 24 ∨ p = 25 ∨ p = 26 ∨ p = 27 ∨ p = 28 ∨ p = 29 ∨ p = 30 ∨ p = 31 ∨ p = 32 by omega) with rfl | rfl | rfl | rfl | rfl | rfl | rfl | rfl | rfl | rfl | rfl | rfl | rfl | rfl | rfl | rfl | rfl | rfl | rfl | rfl | rfl | rfl | rfl | rfl | rfl | rfl | rfl | rfl | rfl | rfl | rfl | rfl
  · exact lay1 zs hz g W hw w k n
  · exact lay2 zs hz g W hw w k n
  · exact lay3 zs hz g W hw w k n
  · exact lay4 zs hz g W hw w k n
  · exact lay5 zs hz g W hw w k n
  · exact lay6 zs hz g W hw w k n
  · exact lay7 zs hz g W hw w k n
  · exact lay8 zs hz g W hw w k n
  · exact lay9 zs hz g W hw w k n
  · exact lay10 zs hz g W hw w k n
  · exact lay11 zs hz g W hw w k n
  · exact lay12 zs hz g W hw w k n
  · exact lay13 zs hz g W hw w k n
  · exact lay14 zs hz g W hw w k n
  · exact lay15 zs hz g W hw w k n
  · exact lay16 zs hz g W hw w k n
  · exact lay17 zs hz g W hw w k n
  · exact lay18 zs hz g W hw w k n
  · exact lay19 zs hz g W hw w k n
  · exact lay20 zs hz g W hw w k n
  · exact lay21 zs hz g W hw w k n
  · exact lay22 zs hz g W hw w k n
  · exact lay23 zs hz g W hw w k n
  · exact lay24 zs hz g W hw w k n
  · exact lay25 zs hz g W hw w k n
  · exact lay26 zs hz g W hw w k n
  · exact lay27 zs hz g W hw w k n
  · exact lay28 zs hz g W hw w k n
  · exact lay29 zs hz g W hw w k n
  · exact lay30 zs hz g W hw w k n
  · exact lay31 zs hz g W hw w k n
  · exact lay32 zs hz g W hw w k n
end Go.Proofs.Ytfmcabgcckllcaa
