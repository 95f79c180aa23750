import Derived.Test.YtncaichachipkaaSizeTopQ
import Derived.Test.YtncaichachipkaaZQ
import Derived.Great.Walk
import Derived.Great.BuildSlice
/- quoinlaw13.awake. -/
namespace Go.Proofs.Ytncaichachipkaa
open Go Go.RowKit
set_option linter.unusedVariables false
set_option linter.unusedSimpArgs false
set_option maxRecDepth 20000
set_option maxHeartbeats 4000000

theorem box_flat : FlatT Try.prog 38 47 := ⟨⟨_, Try.underlying38, rfl⟩, by kernel_rfl⟩
theorem sty_flat : FlatT Try.prog 33 43 := ⟨⟨_, Try.underlying33, rfl⟩, by kernel_rfl⟩
def z43 : List Int := List.replicate 43 0
def boxZ0 : List Value := boxC 0 0 z43 none 0 0 none 0 0
def awRn : List Rn := [⟨0, ⟨#[97, 32, 97, 97]⟩, 0, 0⟩]
def awB : Bx := .mk 2 0 z43 [] awRn
def awC : Bx := .mk 3 0 z43 [awB, awB] []
def awM : List Int := (noMet.set 97 10).set 32 4
def awS : List Int := [0,0,0,0,0,0,0,0,0, 0,0, 0,0, 2,5000, 0,0, 1,7, 0,0, 0,0, 0,0,0,0,0,0,0,0, 0,0,0,0, 0,0,0,0, 0,0,0,0]
theorem aw_len : awM.length = 256 := by decide +kernel
theorem aw_1 : ctn awM true awB = 20 := by decide +kernel
theorem aw_2 : ctn awM false awB = 34 := by decide +kernel
theorem aw_3 : ctn awM false awC = 68 := by decide +kernel
theorem aw_4 : outerZ z43 20 = 20 := by decide +kernel
theorem aw_fine : FineB awM awB := by
  unfold awB
  rw [FineB, FinesB]
  refine ⟨fun _ => ⟨by decide, by decide +kernel, ?_⟩, trivial⟩
  have h : glyphsL awM awRn = [⟨1, 0, 0, 10⟩, ⟨2, 0, 1, 4⟩, ⟨1, 0, 2, 10⟩, ⟨1, 0, 3, 10⟩] := by decide +kernel
  rw [h]
  exact ⟨by decide, by decide⟩
theorem aw_fineC : FineB awM awC := by
  unfold awC
  rw [FineB, FinesB, FinesB, FinesB]
  exact ⟨fun h => absurd h (by decide), aw_fine, aw_fine, trivial⟩
theorem aw_5 : minZ awS false 100 = 50 ∧ minZ awS false (-1) = 0 ∧ maxZ awS false 0 = 7 ∧ maxZ awS true 0 = -1 := by decide +kernel
def awBcs (r : Nat) : List Value := boxC 2 0 z43 none 0 0 (some ⟨r, 0, none⟩) 1 1
theorem awBcs_lit (r : Nat) : awBcs r = [.int .i64 2, .int .i64 0, .int .i64 0, .int .i64 0, .int .i64 0, .int .i64 0, .int .i64 0, .int .i64 0, .int .i64 0, .int .i64 0, .int .i64 0, .int .i64 0, .int .i64 0, .int .i64 0, .int .i64 0, .int .i64 0, .int .i64 0, .int .i64 0, .int .i64 0, .int .i64 0, .int .i64 0, .int .i64 0, .int .i64 0, .int .i64 0, .int .i64 0, .int .i64 0, .int .i64 0, .int .i64 0, .int .i64 0, .int .i64 0, .int .i64 0, .int .i64 0, .int .i64 0, .int .i64 0, .int .i64 0, .int .i64 0, .int .i64 0, .int .i64 0, .int .i64 0, .int .i64 0, .int .i64 0, .int .i64 0, .int .i64 0, .int .i64 0, .int .i64 0, .slice none 0 0, .slice (some ⟨r, 0, none⟩) 1 1] := rfl
theorem awB_v {w : World} {S : Nat → Prop} {r : Nat} (hs : S r) (hr : Whole w r 40 (rCells awRn)) : BoxV w S awB (awBcs r) := by
  unfold awB
  rw [BoxV]
  exact ⟨none, 0, some ⟨r, 0, none⟩, 1, rfl, rfl, by unfold I64; decide, fun _ => ⟨r, 0, rfl, hs, fun j v hv => by rw [Nat.zero_add, hr.cell j]; exact hv⟩, by rw [BoxesAt]; trivial⟩
def awCcs (k : Nat) : List Value := boxC 3 0 z43 (some ⟨k, 0, none⟩) 2 2 none 0 0
theorem awC_v {w : World} {S : Nat → Prop} {r k : Nat} (hs : S r) (hk : S k) (hr : Whole w r 40 (rCells awRn)) (hb : Whole w k 38 (awBcs r ++ awBcs r)) : BoxV w S awC (awCcs k) := by
  have hl : (awBcs r).length = 47 := rfl
  unfold awC
  rw [BoxV]
  refine ⟨some ⟨k, 0, none⟩, 2, none, 0, rfl, rfl, by unfold I64; decide, fun h => absurd rfl h, ?_⟩
  rw [BoxesAt]
  refine ⟨k, 0, awBcs r, rfl, hk, fun j v hv => ?_, awB_v hs hr, ?_⟩
  · have hj : j < 47 := by have := (List.getElem?_eq_some_iff.1 hv).1; omega
    rw [Nat.zero_add, hb.cell j, List.getElem?_append_left (by omega)]; exact hv
  rw [BoxesAt]
  refine ⟨k, 47, awBcs r, rfl, hk, fun j v hv => ?_, awB_v hs hr, by rw [BoxesAt]; trivial⟩
  rw [hb.cell (47 + j), List.getElem?_append_right (by omega), hl, Nat.add_sub_cancel_left]; exact hv
structure AwSt (W w : World) (am : List Int) (r gs k : Nat) : Prop where
  met : Whole w W.heap.size 25 (i64s am)
  run : Whole w r 40 (rCells awRn)
  b : Whole w (r + 1) 38 (awBcs r)
  s : Whole w gs 33 (i64s awS)
  kid : Whole w k 38 (awBcs r ++ awBcs r)
  c : Whole w (k + 1) 38 (awCcs k)
  low : Below W.heap.size W w
section
variable {W w w' : World} {am : List Int} {r gs k : Nat}
theorem AwSt.behind (h : AwSt W w am r gs k) (hb : Below w.heap.size w w') : AwSt W w' am r gs k :=
  ⟨h.met.under hb h.met.size, h.run.under hb h.run.size, h.b.under hb h.b.size, h.s.under hb h.s.size, h.kid.under hb h.kid.size, h.c.under hb h.c.size, h.low.trans (hb.mono h.low.size)⟩
theorem AwSt.vb (h : AwSt W w am r gs k) : BoxV w (· < w.heap.size) awB (awBcs r) := awB_v h.run.size h.run
theorem AwSt.vc (h : AwSt W w am r gs k) : BoxV w (· < w.heap.size) awC (awCcs k) := awC_v h.run.size h.kid.size h.run h.kid
end
theorem sawake_any (W : World) : Calls Try.prog 10 #[] W fun e w' => e = .returned (.bool true) ∧ Below W.heap.size W w' := by
  have hz := noMet_zero
  have hz0 := Lib.hid noMet_length
  have HA := Lib.hid aw_len
  have e43 : ∀ z ∈ awS, I64 z := by unfold I64; decide
  have Q1 := Lib.hid (fun r gs k w (h : AwSt W w awM r gs k) => by have := sleast_any awM aw_len awB (awBcs r) w h.vb aw_fine (by decide +kernel); rwa [aw_1] at this)
  have Q2 := Lib.hid (fun r gs k w (h : AwSt W w awM r gs k) => by have := smost_any awM aw_len awB (awBcs r) w h.vb aw_fine (by decide +kernel); rwa [aw_2] at this)
  have Q3 := Lib.hid (fun r gs k w (h : AwSt W w awM r gs k) => by have := smost_any awM aw_len awC (awCcs k) w h.vc aw_fineC (by decide +kernel); rwa [aw_3] at this)
  have Q4 := Lib.hid (fun r gs k w (h : AwSt W w awM r gs k) => by have := souter_any awM aw_len awB true (awBcs r) w h.vb aw_fine (by decide +kernel); rwa [aw_1, show awB.st = z43 from rfl, aw_4] at this)
  have Q5 := Lib.hid (fun w => by have := min_any awS rfl e43 false 100 (by unfold I64; decide) w; rwa [aw_5.1] at this)
  have Q6 := Lib.hid (fun w => by have := min_any awS rfl e43 false (-1) (by unfold I64; decide) w; rwa [aw_5.2.1] at this)
  have Q7 := Lib.hid (fun w => by have := max_any awS rfl e43 false 0 (by unfold I64; decide) w; rwa [aw_5.2.2.1] at this)
  have Q8 := Lib.hid (fun w => by have := max_any awS rfl e43 true 0 (by unfold I64; decide) w; rwa [aw_5.2.2.2] at this)
  have C1 := Lib.hid (fun w => clamp_any 5 9 3 w)
  have C2 := Lib.hid (fun w => clamp_any 5 0 (-1) w)
  rw [show clampZ 5 9 3 = 9 from rfl] at C1
  rw [show clampZ 5 0 (-1) = 5 from rfl] at C2
  clear e43
  have HM := Lib.hid (show awM = (noMet.set 97 10).set 32 4 from rfl)
  generalize awM = am at *
  generalize noMet = z0 at *
  go_enter Try.func10, Try.ntmps10
  go_upto_region 3 with (refine flat_store met_flat (.tmp 1) (.tmp 5) rfl rfl W.heap.size rfl z0 hz0.out rfl 25 z0 ?_ hz0.out ?_; (focus (exact Whole.mk W 25 (i64s z0).toArray)); intro w1 h1 o1; have c97 := h1.num 97 (by rw [hz0.out]; decide); have f97 := h1.free 97; have c32 := h1.num 32 (by rw [hz0.out]; decide); have f32 := h1.free 32; have H1 := Lib.hid ((h1.putNum 97 10).putNum 32 4); rw [← HM.out] at H1; have B1 := Lib.hid (((((Below.refl W.heap.size W).alloc (Nat.le_refl _) _).trans (o1.below (by simp) (by simp))).setCell (p := ⟨W.heap.size, 97, none⟩) (by simp) (.int .i64 10)).setCell (p := ⟨W.heap.size, 32, none⟩) (by simp) (.int .i64 4)); clear h1 o1)
  clear c97 f97 c32 f32 hz hz0 HM
  generalize (w1.setCell ⟨W.heap.size, 97, none⟩ (.int .i64 10)).setCell ⟨W.heap.size, 32, none⟩ (.int .i64 4) = w2 at *
  have z1 := H1.out.size
  have R0 := Lib.hid (Whole.mk w2 40 (rCells awRn).toArray)
  have B2 := Lib.hid (B1.out.alloc (by omega) (.cells (rCells awRn).toArray 40))
  have H2 := Lib.hid (H1.out.made (.cells (rCells awRn).toArray 40))
  have X0 := Lib.hid (Whole.mk (w2.alloc (.cells (rCells awRn).toArray 40)) 38 boxZ0.toArray)
  go_upto_region 4 with (refine cells_store box_flat (.tmp 2) (.tmp 12) rfl rfl (w2.heap.size + 1) rfl (awBcs w2.heap.size) rfl (boxV_one (awB_v (S := fun _ => True) trivial R0.out)) rfl 38 boxZ0 ?_ rfl ?_; (focus (have := X0.out; simp only [World.size_alloc] at this; exact this)); intro w3 h3 o3; have H3 := Lib.hid (o3.whole (H2.out.made _) (by simp; omega)); have R3 := Lib.hid (o3.whole (R0.out.made _) (by simp)); have X3 := Lib.hid h3; have B3 := Lib.hid ((B2.out.alloc (by simp; omega) _).trans (o3.below (by simp; omega) (by simp; omega))); clear h3 o3)
  simp only [Act.put]
  clear H1 H2 R0 X0 B1 B2
  have z2 := X3.out.size
  have z3 := R3.out.size
  generalize w2.heap.size = r at *
  go_upto_region 5 with (refine flat_store sty_flat (.tmp 3) (.tmp 15) rfl rfl w3.heap.size rfl awS rfl rfl 33 z43 ?_ rfl ?_; (focus (exact Whole.mk w3 33 (i64s z43).toArray)); intro w4 h4 o4; have H4 := Lib.hid (o4.whole (H3.out.made _) (by have := H3.out.size; simp; omega)); have R4 := Lib.hid (o4.whole (R3.out.made _) (by simp; omega)); have X4 := Lib.hid (o4.whole (X3.out.made _) (by simp; omega)); have S4 := Lib.hid h4; have B4 := Lib.hid ((B3.out.alloc B3.out.size _).trans (o4.below (by have := B3.out.size; simp; omega) (by have := B3.out.size; simp; omega))); clear h4 o4)
  simp only [Act.put]
  clear H3 R3 X3 B3 z2 z3
  have z2 := X4.out.size
  have z3 := S4.out.size
  have z4 := R4.out.size
  have z5 := H4.out.size
  have z6 := B4.out.size
  generalize w3.heap.size = gs at *
  have K4 := Lib.hid (Whole.mk w4 38 (awBcs r ++ awBcs r).toArray)
  go_upto_region 6 with (first
    | (refine cells_load box_flat (.tmp 2) rfl rfl (r + 1) rfl [.int .i64 2, .int .i64 0, .int .i64 0, .int .i64 0, .int .i64 0, .int .i64 0, .int .i64 0, .int .i64 0, .int .i64 0, .int .i64 0, .int .i64 0, .int .i64 0, .int .i64 0, .int .i64 0, .int .i64 0, .int .i64 0, .int .i64 0, .int .i64 0, .int .i64 0, .int .i64 0, .int .i64 0, .int .i64 0, .int .i64 0, .int .i64 0, .int .i64 0, .int .i64 0, .int .i64 0, .int .i64 0, .int .i64 0, .int .i64 0, .int .i64 0, .int .i64 0, .int .i64 0, .int .i64 0, .int .i64 0, .int .i64 0, .int .i64 0, .int .i64 0, .int .i64 0, .int .i64 0, .int .i64 0, .int .i64 0, .int .i64 0, .int .i64 0, .int .i64 0, .slice none 0 0, .slice (some ⟨r, 0, none⟩) 1 1] rfl 38 (awBcs_lit r ▸ X4.out) ?_)
    | (refine cells_store box_flat (.tmp 4) (.tmp 19) rfl rfl (w4.heap.size + 1) rfl (awCcs w4.heap.size) rfl (boxV_one (awC_v (S := fun _ => True) trivial trivial (R4.out.made _) K4.out)) rfl 38 boxZ0 ?_ rfl ?_; (focus (have h := Whole.mk (w4.alloc (.cells (awBcs r ++ awBcs r).toArray 38)) 38 boxZ0.toArray; simp only [World.size_alloc] at h; exact h)); intro w5 h5 o5; have H5 := Lib.hid (o5.whole ((H4.out.made _).made _) (by simp; omega)); have R5 := Lib.hid (o5.whole ((R4.out.made _).made _) (by simp; omega)); have X5 := Lib.hid (o5.whole ((X4.out.made _).made _) (by simp; omega)); have S5 := Lib.hid (o5.whole ((S4.out.made _).made _) (by simp; omega)); have K5 := Lib.hid (o5.whole (K4.out.made _) (by simp)); have C5 := Lib.hid h5; have B5 := Lib.hid (((B4.out.alloc B4.out.size _).alloc (by simp; omega) _).trans (o5.below (by simp; omega) (by simp; omega))); clear h5 o5))
  clear H4 R4 X4 S4 K4 B4
  have A0 : Hid (AwSt W w5 am r gs w4.heap.size) := Lib.hid ⟨H5.out, R5.out, X5.out, S5.out, K5.out, C5.out, B5.out⟩
  clear H5 R5 X5 S5 K5 C5 B5 z1 z2 z3 z4 z5 z6
  generalize w4.heap.size = k at *
  go_wp2_with (first
    | (refine flat_loadW met_flat (.tmp 1) rfl rfl W.heap.size rfl am HA.out 25 A0.out.met ?_)
    | (refine cells_loadW box_flat (.tmp 2) rfl rfl (r + 1) rfl (awBcs r) rfl 38 A0.out.b ?_)
    | (refine flat_loadW sty_flat (.tmp 3) rfl rfl gs rfl awS rfl 33 A0.out.s ?_)
    | (refine cells_loadW box_flat (.tmp 4) rfl rfl (k + 1) rfl (awCcs k) rfl 38 A0.out.c ?_))
  refine (Q1.out r gs k _ A0.out).mono ?_
  rintro e wa1 ⟨rfl, hb⟩
  have A1 := Lib.hid (A0.out.behind hb)
  clear hb A0
  go_wp2_with (first
    | (refine flat_loadW met_flat (.tmp 1) rfl rfl W.heap.size rfl am HA.out 25 A1.out.met ?_)
    | (refine cells_loadW box_flat (.tmp 2) rfl rfl (r + 1) rfl (awBcs r) rfl 38 A1.out.b ?_)
    | (refine flat_loadW sty_flat (.tmp 3) rfl rfl gs rfl awS rfl 33 A1.out.s ?_)
    | (refine cells_loadW box_flat (.tmp 4) rfl rfl (k + 1) rfl (awCcs k) rfl 38 A1.out.c ?_))
  refine (Q2.out r gs k _ A1.out).mono ?_
  rintro e wa2 ⟨rfl, hb⟩
  have A2 := Lib.hid (A1.out.behind hb)
  clear hb A1
  go_wp2_with (first
    | (refine flat_loadW met_flat (.tmp 1) rfl rfl W.heap.size rfl am HA.out 25 A2.out.met ?_)
    | (refine cells_loadW box_flat (.tmp 2) rfl rfl (r + 1) rfl (awBcs r) rfl 38 A2.out.b ?_)
    | (refine flat_loadW sty_flat (.tmp 3) rfl rfl gs rfl awS rfl 33 A2.out.s ?_)
    | (refine cells_loadW box_flat (.tmp 4) rfl rfl (k + 1) rfl (awCcs k) rfl 38 A2.out.c ?_))
  refine (C1.out _).mono ?_
  rintro e w' ⟨rfl, rfl⟩
  go_wp2_with (first
    | (refine flat_loadW met_flat (.tmp 1) rfl rfl W.heap.size rfl am HA.out 25 A2.out.met ?_)
    | (refine cells_loadW box_flat (.tmp 2) rfl rfl (r + 1) rfl (awBcs r) rfl 38 A2.out.b ?_)
    | (refine flat_loadW sty_flat (.tmp 3) rfl rfl gs rfl awS rfl 33 A2.out.s ?_)
    | (refine cells_loadW box_flat (.tmp 4) rfl rfl (k + 1) rfl (awCcs k) rfl 38 A2.out.c ?_))
  refine (C2.out _).mono ?_
  rintro e w' ⟨rfl, rfl⟩
  go_wp2_with (first
    | (refine flat_loadW met_flat (.tmp 1) rfl rfl W.heap.size rfl am HA.out 25 A2.out.met ?_)
    | (refine cells_loadW box_flat (.tmp 2) rfl rfl (r + 1) rfl (awBcs r) rfl 38 A2.out.b ?_)
    | (refine flat_loadW sty_flat (.tmp 3) rfl rfl gs rfl awS rfl 33 A2.out.s ?_)
    | (refine cells_loadW box_flat (.tmp 4) rfl rfl (k + 1) rfl (awCcs k) rfl 38 A2.out.c ?_))
  refine (Q5.out _).mono ?_
  rintro e wa3 ⟨rfl, hb⟩
  have A3 := Lib.hid (A2.out.behind hb)
  clear hb A2
  go_wp2_with (first
    | (refine flat_loadW met_flat (.tmp 1) rfl rfl W.heap.size rfl am HA.out 25 A3.out.met ?_)
    | (refine cells_loadW box_flat (.tmp 2) rfl rfl (r + 1) rfl (awBcs r) rfl 38 A3.out.b ?_)
    | (refine flat_loadW sty_flat (.tmp 3) rfl rfl gs rfl awS rfl 33 A3.out.s ?_)
    | (refine cells_loadW box_flat (.tmp 4) rfl rfl (k + 1) rfl (awCcs k) rfl 38 A3.out.c ?_))
  refine (Q6.out _).mono ?_
  rintro e wa4 ⟨rfl, hb⟩
  have A4 := Lib.hid (A3.out.behind hb)
  clear hb A3
  go_wp2_with (first
    | (refine flat_loadW met_flat (.tmp 1) rfl rfl W.heap.size rfl am HA.out 25 A4.out.met ?_)
    | (refine cells_loadW box_flat (.tmp 2) rfl rfl (r + 1) rfl (awBcs r) rfl 38 A4.out.b ?_)
    | (refine flat_loadW sty_flat (.tmp 3) rfl rfl gs rfl awS rfl 33 A4.out.s ?_)
    | (refine cells_loadW box_flat (.tmp 4) rfl rfl (k + 1) rfl (awCcs k) rfl 38 A4.out.c ?_))
  refine (Q7.out _).mono ?_
  rintro e wa5 ⟨rfl, hb⟩
  have A5 := Lib.hid (A4.out.behind hb)
  clear hb A4
  go_wp2_with (first
    | (refine flat_loadW met_flat (.tmp 1) rfl rfl W.heap.size rfl am HA.out 25 A5.out.met ?_)
    | (refine cells_loadW box_flat (.tmp 2) rfl rfl (r + 1) rfl (awBcs r) rfl 38 A5.out.b ?_)
    | (refine flat_loadW sty_flat (.tmp 3) rfl rfl gs rfl awS rfl 33 A5.out.s ?_)
    | (refine cells_loadW box_flat (.tmp 4) rfl rfl (k + 1) rfl (awCcs k) rfl 38 A5.out.c ?_))
  refine (Q8.out _).mono ?_
  rintro e wa6 ⟨rfl, hb⟩
  have A6 := Lib.hid (A5.out.behind hb)
  clear hb A5
  go_wp2_with (first
    | (refine flat_loadW met_flat (.tmp 1) rfl rfl W.heap.size rfl am HA.out 25 A6.out.met ?_)
    | (refine cells_loadW box_flat (.tmp 2) rfl rfl (r + 1) rfl (awBcs r) rfl 38 A6.out.b ?_)
    | (refine flat_loadW sty_flat (.tmp 3) rfl rfl gs rfl awS rfl 33 A6.out.s ?_)
    | (refine cells_loadW box_flat (.tmp 4) rfl rfl (k + 1) rfl (awCcs k) rfl 38 A6.out.c ?_))
  refine (Q3.out r gs k _ A6.out).mono ?_
  rintro e wa7 ⟨rfl, hb⟩
  have A7 := Lib.hid (A6.out.behind hb)
  clear hb A6
  go_wp2_with (first
    | (refine flat_loadW met_flat (.tmp 1) rfl rfl W.heap.size rfl am HA.out 25 A7.out.met ?_)
    | (refine cells_loadW box_flat (.tmp 2) rfl rfl (r + 1) rfl (awBcs r) rfl 38 A7.out.b ?_)
    | (refine flat_loadW sty_flat (.tmp 3) rfl rfl gs rfl awS rfl 33 A7.out.s ?_)
    | (refine cells_loadW box_flat (.tmp 4) rfl rfl (k + 1) rfl (awCcs k) rfl 38 A7.out.c ?_))
  refine (Q4.out r gs k _ A7.out).mono ?_
  rintro e wa8 ⟨rfl, hb⟩
  have A8 := Lib.hid (A7.out.behind hb)
  clear hb A7
  go_wp2
  go_ret
  exact ⟨rfl, A8.out.low⟩
end Go.Proofs.Ytncaichachipkaa
