import Derived.Test.YtfmcabgcckllcaaHeirRef
/- quoinlaw5: what the document fixes. -/
namespace Go.Proofs.Ytfmcabgcckllcaa
open Go Go.RowKit
set_option linter.unusedVariables false
set_option linter.unusedSimpArgs false
set_option maxRecDepth 20000
set_option maxHeartbeats 4000000

def awA : List Dc := [⟨29, 2, 0, 0⟩, ⟨2, 0, 1, 5⟩]
def awB : List Dc := [⟨30, 2, 0, 0⟩]
def awP : List Int := rootZ awA
def awS : List Int := ownZ awP awB
def awN : List Int := anonZ awS
theorem awP_is : awP = [0, 0, 0, 0, 3, 0, 2, 0, 0,  1, 5, 0, 0, 1, 0, 1, 0, 0, 0, 0, 0, 0, 0,  1, 0, 1, 0, 1, 0, 1, 0,  0, 0, 0, 0,  0, 0, 0, 0,  0, 1, 0,  1280] := by decide
theorem awS_is : awS = [1, 0, 0, 0, 3, 0, 2, 2, 0,  0, 0, 0, 0, 1, 0, 1, 0, 0, 0, 0, 0, 0, 0,  1, 0, 1, 0, 1, 0, 1, 0,  0, 0, 0, 0,  0, 0, 0, 0,  0, 1, 0,  1280] := by decide
theorem awN_is : awN = [0, 0, 0, 0, 3, 0, 2, 2, 0,  0, 0, 0, 0, 1, 0, 1, 0, 0, 0, 0, 0, 0, 0,  1, 0, 1, 0, 1, 0, 1, 0,  0, 0, 0, 0,  0, 0, 0, 0,  0, 1, 0,  1280] := by decide
theorem awP_length : awP.length = 43 := rootZ_length _
theorem awS_length : awS.length = 43 := ownZ_length _ _
theorem awN_length : awN.length = 43 := anonZ_length _
theorem Whole.cellAt {w : World} {g : Nat} {zs : List Int} (h : Whole w g 27 (i64s zs)) (i : Nat) (n : Int) (hn : zs[i]? = some n) : w.cell? ⟨g, i, none⟩ = some (.int .i64 n) := by
  rw [h.cell i]
  simp [i64s, hn]
theorem row_made (W : World) (ds : List Dc) (cs : Array Value) (h : cs.toList = i64s (dCells ds)) : Row (W.alloc (.cells cs 34)) (W.alloc (.cells cs 34)).heap.size (some ⟨W.heap.size, 0, none⟩) (i64s (dCells ds)) := by
  have := row_new W cs 34
  rw [h] at this
  simpa using this
theorem awake_any (W : World) : Calls Try.prog 6 #[] W fun e w' => e = .returned (.bool true) ∧ Below W.heap.size W w' := by
  have RA := Lib.hid (row_made W awA #[.int .i64 29, .int .i64 2, .int .i64 0, .int .i64 0, .int .i64 2, .int .i64 0, .int .i64 1, .int .i64 5] rfl)
  have PI := Lib.hid awP_is
  have SI := Lib.hid awS_is
  have NI := Lib.hid awN_is
  go_enter Try.func6, Try.ntmps6
  go_wp2_with fail
  refine (root_any awA _ 2 _ RA.out (by decide)).mono ?_
  rintro e w1 ⟨rfl, b1⟩
  have z1 : W.heap.size + 1 ≤ w1.heap.size := by have := b1.size; simpa using this
  have B1 := Lib.hid (((Below.refl W.heap.size W).alloc (Nat.le_refl _) _).trans (b1.mono (by simp)))
  clear b1
  go_wp2_with (first
    | (refine style_store (.tmp 1) (.tmp 8) rfl rfl w1.heap.size rfl awP awP_length rfl zeros43 ?_ rfl ?_; (focus (exact Whole.mk w1 27 (i64s zeros43).toArray)); intro w2 h2 o2; have P2 := Lib.hid h2; have B2 := Lib.hid ((B1.out.alloc B1.out.size _).trans (o2.below (by simp; omega) (by simp; omega))); have z2 : w1.heap.size < w2.heap.size := h2.size; have RB := Lib.hid (row_made w2 awB #[.int .i64 30, .int .i64 2, .int .i64 0, .int .i64 0] rfl); clear h2 o2)
    | (refine style_load (.tmp 1) rfl rfl w1.heap.size rfl awP awP_length ?_ ?_; (focus (exact P2.out))))
  refine (own_any awP awP_length awB _ 1 _ RB.out (by decide)).mono ?_
  rintro e w3 ⟨rfl, b3⟩
  have P3 := Lib.hid ((P2.out.made _).under b3 (by simp; omega))
  have z3 : w2.heap.size + 1 ≤ w3.heap.size := by have := b3.size; simpa using this
  have B3 := Lib.hid ((B2.out.alloc (by omega) _).trans (b3.mono (by simp; omega)))
  clear b3 P2 B2
  go_wp2_with (first
    | (refine style_store (.tmp 2) (.tmp 12) rfl rfl w3.heap.size rfl awS awS_length rfl zeros43 ?_ rfl ?_; (focus (exact Whole.mk w3 27 (i64s zeros43).toArray)); intro w4 h4 o4; have S4 := Lib.hid h4; have P4 := Lib.hid (o4.whole (P3.out.made _) (by simp; omega)); have B4 := Lib.hid ((B3.out.alloc B3.out.size _).trans (o4.below (by simp; omega) (by simp; omega))); have z4 : w3.heap.size < w4.heap.size := h4.size; clear h4 o4)
    | (refine style_load (.tmp 2) rfl rfl w3.heap.size rfl awS awS_length ?_ ?_; (focus (exact S4.out))))
  refine (anon_any awS awS_length _).mono ?_
  rintro e w5 ⟨rfl, b5⟩
  have P5 := Lib.hid (P4.out.under b5 (by omega))
  have S5 := Lib.hid (S4.out.under b5 (by omega))
  have z5 : w4.heap.size ≤ w5.heap.size := b5.size
  have B5 := Lib.hid (B4.out.trans (b5.mono (by omega)))
  clear b5 P4 S4 B4
  go_wp2_with (refine style_store (.tmp 3) (.tmp 14) rfl rfl w5.heap.size rfl awN awN_length rfl zeros43 ?_ rfl ?_; (focus (exact Whole.mk w5 27 (i64s zeros43).toArray)); intro w6 h6 o6; have N6 := Lib.hid h6; have P6 := Lib.hid (o6.whole (P5.out.made _) (by simp; omega)); have S6 := Lib.hid (o6.whole (S5.out.made _) (by simp; omega)); have B6 := Lib.hid ((B5.out.alloc B5.out.size _).trans (o6.below (by simp; omega) (by simp; omega))); clear h6 o6; have p0 := P6.out.cellAt 0 0 (by rw [PI.out]; rfl); have p6 := P6.out.cellAt 6 2 (by rw [PI.out]; rfl); have s0 := S6.out.cellAt 0 1 (by rw [SI.out]; rfl); have s6 := S6.out.cellAt 6 2 (by rw [SI.out]; rfl); have s7 := S6.out.cellAt 7 2 (by rw [SI.out]; rfl); have s9 := S6.out.cellAt 9 0 (by rw [SI.out]; rfl); have s10 := S6.out.cellAt 10 0 (by rw [SI.out]; rfl); have n7 := N6.out.cellAt 7 2 (by rw [NI.out]; rfl); have n0 := N6.out.cellAt 0 0 (by rw [NI.out]; rfl))
  go_ret
  exact ⟨rfl, B6.out⟩
end Go.Proofs.Ytfmcabgcckllcaa
