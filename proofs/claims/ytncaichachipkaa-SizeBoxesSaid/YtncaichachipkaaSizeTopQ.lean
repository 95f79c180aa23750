import Derived.Test.YtncaichachipkaaSizeContQ
/- size.Least, Most, Outer. -/
namespace Go.Proofs.Ytncaichachipkaa
open Go Go.RowKit
set_option linter.unusedVariables false
set_option linter.unusedSimpArgs false
set_option maxRecDepth 20000
set_option maxHeartbeats 4000000

theorem boxed_at {W : World} {b : Bx} {cs : List Value} (hb : BoxV W (· < W.heap.size) b cs) (o : Obj) :
    BoxAt ((W.alloc o).alloc (.cells cs.toArray 38)) (· < ((W.alloc o).alloc (.cells cs.toArray 38)).heap.size) b (W.heap.size + 1) 0 := by
  have h := Whole.mk (W.alloc o) 38 cs.toArray
  simp only [World.size_alloc] at h
  refine ⟨by simp, cs, fun j v hv => ?_, hb.keep fun g hg => ⟨by simp; omega, ?_⟩⟩
  · rw [Nat.zero_add, h.cell j]; simpa using hv
  · exact (((Below.refl W.heap.size W).alloc (Nat.le_refl _) o).alloc (by simp) _).block g hg
theorem sleast_any (zs : List Int) (hz : zs.length = 256) (b : Bx) (cs : List Value) (W : World) (hb : BoxV W (· < W.heap.size) b cs) (hF : FineB zs b) (hc : b.cnt ≤ 1073741824) :
    Calls Try.prog 8 #[.agg (i64s zs).toArray, .agg cs.toArray] W fun e w' => e = .returned (.int .i64 (ctn zs true b)) ∧ Below W.heap.size W w' := by
  have C := Lib.hid (content_any zs hz b true (W.heap.size + 1) 0 W.heap.size _ (boxed_at hb (.cells (i64s zs).toArray 25)) ((Whole.mk W 25 (i64s zs).toArray).made _) hF hc)
  have B := Lib.hid (((Below.refl W.heap.size W).alloc (Nat.le_refl _) (.cells (i64s zs).toArray 25)).alloc (by simp) (.cells cs.toArray 38))
  have hsz : W.heap.size ≤ ((W.alloc (.cells (i64s zs).toArray 25)).alloc (.cells cs.toArray 38)).heap.size := by simp; omega
  clear hb hF
  go_enter Try.func8, Try.ntmps8
  go_upto_region 1 with fail
  generalize (W.alloc _).alloc _ = w1 at *
  go_wp2_with fail
  refine C.out.mono ?_
  rintro e w' ⟨rfl, hb⟩
  have B2 := Lib.hid (B.out.trans (hb.mono hsz))
  go_wp2
  go_ret
  exact ⟨ret_int rfl, B2.out⟩
theorem smost_any (zs : List Int) (hz : zs.length = 256) (b : Bx) (cs : List Value) (W : World) (hb : BoxV W (· < W.heap.size) b cs) (hF : FineB zs b) (hc : b.cnt ≤ 1073741824) :
    Calls Try.prog 9 #[.agg (i64s zs).toArray, .agg cs.toArray] W fun e w' => e = .returned (.int .i64 (ctn zs false b)) ∧ Below W.heap.size W w' := by
  have C := Lib.hid (content_any zs hz b false (W.heap.size + 1) 0 W.heap.size _ (boxed_at hb (.cells (i64s zs).toArray 25)) ((Whole.mk W 25 (i64s zs).toArray).made _) hF hc)
  have B := Lib.hid (((Below.refl W.heap.size W).alloc (Nat.le_refl _) (.cells (i64s zs).toArray 25)).alloc (by simp) (.cells cs.toArray 38))
  have hsz : W.heap.size ≤ ((W.alloc (.cells (i64s zs).toArray 25)).alloc (.cells cs.toArray 38)).heap.size := by simp; omega
  clear hb hF
  go_enter Try.func9, Try.ntmps9
  go_upto_region 1 with fail
  generalize (W.alloc _).alloc _ = w1 at *
  go_wp2_with fail
  refine C.out.mono ?_
  rintro e w' ⟨rfl, hb⟩
  have B2 := Lib.hid (B.out.trans (hb.mono hsz))
  go_wp2
  go_ret
  exact ⟨ret_int rfl, B2.out⟩
theorem FineB.ctn {zs : List Int} {b : Bx} (h : FineB zs b) (least : Bool) : I64 (ctn zs least b) := ctn_bd zs least b fun hk => linesZ_bd _ _ _ (h.runs hk)
theorem souter_any (zs : List Int) (hz : zs.length = 256) (b : Bx) (least : Bool) (cs : List Value) (W : World) (hb : BoxV W (· < W.heap.size) b cs) (hF : FineB zs b) (hc : b.cnt ≤ 1073741824) :
    Calls Try.prog 7 #[.agg (i64s zs).toArray, .agg cs.toArray, .bool least] W fun e w' => e = .returned (.int .i64 (outerZ b.st (ctn zs least b))) ∧ Below W.heap.size W w' := by
  have BA := boxed_at hb (.cells (i64s zs).toArray 25)
  have C := Lib.hid (content_any zs hz b least (W.heap.size + 1) 0 W.heap.size _ BA ((Whole.mk W 25 (i64s zs).toArray).made _) hF hc)
  have B := Lib.hid (((Below.refl W.heap.size W).alloc (Nat.le_refl _) (.cells (i64s zs).toArray 25)).alloc (by simp) (.cells cs.toArray 38))
  have hsz : W.heap.size + 2 ≤ ((W.alloc (.cells (i64s zs).toArray 25)).alloc (.cells cs.toArray 38)).heap.size := by simp
  have I := Lib.hid (hF.ctn least)
  obtain ⟨-, hsl, hsi, hst, -, -⟩ := BA.cells
  have OU := Lib.hid (fun w (hb : Below ((W.alloc (.cells (i64s zs).toArray 25)).alloc (.cells cs.toArray 38)).heap.size ((W.alloc (.cells (i64s zs).toArray 25)).alloc (.cells cs.toArray 38)) w) =>
    outer_any b.st hsl hsi (W.heap.size + 1) 2 _ I.out w (by have := hb.size; omega) (range_keep hst (hb.block _ (by omega))))
  clear hb hF BA hsl hsi hst
  go_enter Try.func7, Try.ntmps7
  go_upto_region 1 with fail
  generalize (W.alloc _).alloc _ = w1 at *
  go_wp2_with fail
  refine C.out.mono ?_
  rintro e w' ⟨rfl, hb⟩
  have B2 := Lib.hid (B.out.trans (hb.mono (by omega)))
  have O2 := Lib.hid (OU.out _ hb)
  go_wp2_with fail
  refine O2.out.mono ?_
  rintro e w2 ⟨rfl, hb2⟩
  have B3 := Lib.hid (B2.out.trans (hb2.mono (by have := B2.out.size; omega)))
  go_wp2
  go_ret
  exact ⟨ret_int rfl, B3.out⟩
end Go.Proofs.Ytncaichachipkaa
