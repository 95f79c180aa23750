import Derived.Test.YtagcfbnidepfoaaWhitC
import Derived.Test.YtagcfbnidepfoaaMet
/- quoinlaw10.awake. -/
namespace Go.Proofs.Ytagcfbnidepfoaa
open Go Go.RowKit
set_option linter.unusedVariables false
set_option linter.unusedSimpArgs false
set_option maxRecDepth 20000
set_option maxHeartbeats 4000000

def awRuns : List Rn := [⟨0, ⟨#[32, 97, 32, 10]⟩, 0, 0⟩, ⟨0, ⟨#[9, 97, 32]⟩, 1, 0⟩, ⟨0, ⟨#[32, 97, 10, 32]⟩, 2, 0⟩]
def awGl : List Gl := [⟨1, 0, 1, 5⟩, ⟨2, 0, 2, 3⟩, ⟨1, 1, 1, 5⟩, ⟨3, 1, 2, 3⟩, ⟨1, 2, 0, 3⟩, ⟨1, 2, 1, 5⟩, ⟨4, 2, 2, 0⟩, ⟨1, 2, 3, 3⟩]
theorem awGl_is : glyphsL ((noMet.set 32 3).set 97 5) awRuns = awGl := by decide +kernel
theorem wawake_any (W : World) : Calls Try.prog 11 #[] W fun e w' => e = .returned (.bool true) ∧ Below W.heap.size W w' := by
  have hz := noMet_zero
  have hz0 := Lib.hid noMet_length
  have HA := Lib.hid (show ((noMet.set 32 3).set 97 5).length = 256 by simp [noMet_length])
  have K1 := Lib.hid (fun (A : Option Addr) (c : Nat) (w : World) (hR : Row w w.heap.size A (rCells awRuns)) => glyphs_any _ HA.out awRuns A c w hR (by decide) (by decide))
  have HG := Lib.hid awGl_is
  generalize noMet = z0 at *
  go_enter Try.func11, Try.ntmps11
  go_wp2_with (first
    | (refine flat_store met_flat (.tmp 1) (.tmp 3) rfl rfl W.heap.size rfl z0 hz0.out rfl 24 z0 ?_ hz0.out ?_; (focus (exact Whole.mk W 24 (i64s z0).toArray)); intro w1 h1 o1; have c32 := h1.num 32 (by rw [hz0.out]; decide); have f32 := h1.free 32; have c97 := h1.num 97 (by rw [hz0.out]; decide); have f97 := h1.free 97; have H1 := Lib.hid ((h1.putNum 32 3).putNum 97 5); have B1 := Lib.hid (((((Below.refl W.heap.size W).alloc (Nat.le_refl _) _).trans (o1.below (by simp) (by simp))).setCell (p := ⟨W.heap.size, 32, none⟩) (by simp) (.int .i64 3)).setCell (p := ⟨W.heap.size, 97, none⟩) (by simp) (.int .i64 5)); clear h1 o1)
    | (refine flat_load met_flat (.tmp 1) rfl rfl W.heap.size rfl ((z0.set 32 3).set 97 5) HA.out 24 ?_ ?_; (focus (exact H1.out)); generalize (w1.setCell ⟨W.heap.size, 32, none⟩ (.int .i64 3)).setCell ⟨W.heap.size, 97, none⟩ (.int .i64 5) = w2 at *; clear c32 f32 c97 f97))
  have R2 := Lib.hid (row_new w2 #[.int .i64 0, .string ⟨#[32, 97, 32, 10]⟩, .int .i64 0, .int .i64 0, .int .i64 0, .string ⟨#[9, 97, 32]⟩, .int .i64 1, .int .i64 0, .int .i64 0, .string ⟨#[32, 97, 10, 32]⟩, .int .i64 2, .int .i64 0] 31)
  have s1 := B1.out.size
  refine (K1.out (some ⟨w2.heap.size, 0, none⟩) 3 _ (by
    have := R2.out
    simpa [rCells, awRuns] using this)).mono ?_
  unfold GlyphPost
  rw [HG.out]
  rintro e w3 ⟨A, c, rfl, ho, hb⟩
  have B3 := Lib.hid ((B1.out.alloc s1 _).trans (hb.mono (by simp; omega)))
  have hr := row_of_own ho
  obtain ⟨ad, rfl, -, a0, a1, a2, a3⟩ := hr.gl (k := 0) (by decide)
  obtain ⟨g, rfl⟩ := own_addr ho
  obtain ⟨ad', hx, -, b0, b1, b2, b3⟩ := hr.gl (k := 1) (by decide)
  cases hx
  obtain ⟨ad', hx, -, c0, c1, c2, c3⟩ := hr.gl (k := 2) (by decide)
  cases hx
  obtain ⟨ad', hx, -, d0, d1, d2, d3⟩ := hr.gl (k := 3) (by decide)
  cases hx
  obtain ⟨ad', hx, -, p0, p1, p2, p3⟩ := hr.gl (k := 4) (by decide)
  cases hx
  obtain ⟨ad', hx, -, q0, q1, q2, q3⟩ := hr.gl (k := 6) (by decide)
  cases hx
  simp only [awGl, List.getElem_cons_zero, List.getElem_cons_succ, Nat.reduceMul, Nat.zero_mul, Nat.zero_add, add_zero, Addr.add_lit] at a0 a1 a2 a3 b0 b1 b2 b3 c0 c1 c2 c3 d0 d1 d2 d3 p0 p1 p2 p3 q0 q1 q2 q3
  clear hr ho hb R2 B1 H1 HG K1
  rw [show awGl.length = 8 from rfl]
  go_wp2
  go_ret
  exact ⟨rfl, B3.out⟩
end Go.Proofs.Ytagcfbnidepfoaa
