import Derived.Test.YtmlnpphblicghaaRowPlaceQ
import Derived.Test.YtmlnpphblicghaaZQ
/- quoinlaw12.awake. -/
namespace Go.Proofs.Ytmlnpphblicghaa
open Go Go.RowKit
set_option linter.unusedVariables false
set_option linter.unusedSimpArgs false
set_option maxRecDepth 20000
set_option maxHeartbeats 4000000

def awR : List Rn := [⟨3, ⟨#[97, 32, 97]⟩, 0, 5⟩, ⟨4, ⟨#[97]⟩, 0, 9⟩]
def awGR : List Gl := [⟨1, 0, 0, 10⟩, ⟨2, 0, 1, 4⟩, ⟨1, 0, 2, 10⟩, ⟨1, 1, 0, 10⟩]
def awP : List Pc := [⟨3, 7, 0, 10, 5, 0, 1, 0⟩, ⟨3, 2, 7, 10, 5, 2, 3, 1⟩, ⟨4, 12, 5, 10, 9, 0, 1, 1⟩]
theorem awGR_is : glyphsL ((noMet.set 97 10).set 32 4) awR = awGR := by decide +kernel
theorem awP_is : placeZ ((noMet.set 97 10).set 32 4) awR 24 5 2 = (awP, 14) := by
  unfold placeZ
  rw [awGR_is]
  decide +kernel
theorem rawake_any (W : World) : Calls Try.prog 27 #[] W fun e w' => e = .returned (.bool true) ∧ Below W.heap.size W w' := by
  have hz := noMet_zero
  have hz0 := Lib.hid noMet_length
  have HA := Lib.hid (show ((noMet.set 97 10).set 32 4).length = 256 by simp [noMet_length])
  have K1 := Lib.hid (fun (A : Option Addr) (c : Nat) (w : World) (hR : Row w w.heap.size A (rCells awR)) => place_any _ HA.out awR A c 24 5 2 (by decide) w hR (by decide) (by decide))
  have HG := Lib.hid awP_is
  generalize noMet = z0 at *
  go_enter Try.func27, Try.ntmps27
  go_wp2_with (first
    | (refine flat_store met_flat (.tmp 1) (.tmp 4) rfl rfl W.heap.size rfl z0 hz0.out rfl 37 z0 ?_ hz0.out ?_; (focus (exact Whole.mk W 37 (i64s z0).toArray)); intro w1 h1 o1; have c97 := h1.num 97 (by rw [hz0.out]; decide); have f97 := h1.free 97; have c32 := h1.num 32 (by rw [hz0.out]; decide); have f32 := h1.free 32; have H1 := Lib.hid ((h1.putNum 97 10).putNum 32 4); have B1 := Lib.hid (((((Below.refl W.heap.size W).alloc (Nat.le_refl _) _).trans (o1.below (by simp) (by simp))).setCell (p := ⟨W.heap.size, 97, none⟩) (by simp) (.int .i64 10)).setCell (p := ⟨W.heap.size, 32, none⟩) (by simp) (.int .i64 4)); clear h1 o1)
    | (refine flat_load met_flat (.tmp 1) rfl rfl W.heap.size rfl ((z0.set 97 10).set 32 4) HA.out 37 ?_ ?_; (focus (exact H1.out)); generalize (w1.setCell ⟨W.heap.size, 97, none⟩ (.int .i64 10)).setCell ⟨W.heap.size, 32, none⟩ (.int .i64 4) = w2 at *; clear c32 f32 c97 f97))
  have R2 := Lib.hid (row_new w2 #[.int .i64 3, .string ⟨#[97, 32, 97]⟩, .int .i64 0, .int .i64 5, .int .i64 4, .string ⟨#[97]⟩, .int .i64 0, .int .i64 9] 49)
  have s1 := B1.out.size
  refine (K1.out (some ⟨w2.heap.size, 0, none⟩) 2 _ (by
    have := R2.out
    simpa [rCells, awR] using this)).mono ?_
  unfold PlacePost
  rw [HG.out]
  rintro e w3 ⟨A, c, rfl, ho, hb⟩
  have B3 := Lib.hid ((B1.out.alloc s1 _).trans (hb.mono (by simp; omega)))
  have hr := row_of_own ho
  obtain ⟨ad, rfl, -, a0, a1, a2, a3, a4, a5, a6, a7⟩ := hr.pc (i := 0) (by decide)
  obtain ⟨g, rfl⟩ := own_addr ho
  obtain ⟨ad', hx, -, b0, b1, b2, b3, b4, b5, b6, b7⟩ := hr.pc (i := 1) (by decide)
  cases hx
  obtain ⟨ad', hx, -, c0, c1, c2, c3, c4, c5, c6, c7⟩ := hr.pc (i := 2) (by decide)
  cases hx
  simp only [awP, List.getElem_cons_zero, List.getElem_cons_succ, Nat.reduceMul, Nat.zero_mul, Nat.zero_add, add_zero, Addr.add_lit] at a0 a1 a2 a3 a4 a5 a6 a7 b0 b1 b2 b3 b4 b5 b6 b7 c0 c1 c2 c3 c4 c5 c6 c7
  clear hr ho hb R2 B1 H1 HG K1
  rw [show awP.length = 3 from rfl]
  go_wp2
  go_ret
  exact ⟨rfl, B3.out⟩
end Go.Proofs.Ytmlnpphblicghaa
