import Derived.Test.YtodnplllkpgfaaaFreeBegQ
import Derived.Test.YtodnplllkpgfaaaZQ
/- quoinlaw18.awake answers true. -/
namespace Go.Proofs.Ytodnplllkpgfaaa
open Go Go.RowKit
set_option linter.unusedVariables false
set_option linter.unusedSimpArgs false
set_option maxRecDepth 20000
set_option maxHeartbeats 8000000

theorem rowF_lit (w : World) (cs : Array Value) (t : TypeId) : Row (w.alloc (.cells cs t)) (w.alloc (.cells cs t)).heap.size (some ⟨w.heap.size, 0, none⟩) cs.toList := (row_new w cs t).more (by simp)
abbrev aw1 : Array Value := #[.int .i64 0, .int .i64 0, .int .i64 (-1), .int .i64 1, .int .i64 0, .int .i64 0, .int .i64 0, .int .i64 0, .int .i64 (-1), .int .i64 1, .int .i64 0, .int .i64 0, .int .i64 0, .int .i64 0, .int .i64 20, .int .i64 1, .int .i64 0, .int .i64 0]
abbrev aw2 : Array Value := #[.int .i64 30, .int .i64 0, .int .i64 (-1), .int .i64 0, .int .i64 1, .int .i64 0, .int .i64 60, .int .i64 0, .int .i64 (-1), .int .i64 0, .int .i64 1, .int .i64 5, .int .i64 10, .int .i64 0, .int .i64 (-1), .int .i64 0, .int .i64 0, .int .i64 0]
abbrev awX : Array Value := #[.int .i64 0, .int .i64 0, .int .i64 (-1), .int .i64 1, .int .i64 0, .int .i64 0]
abbrev awB : Array Value := #[.int .i64 (-1), .int .i64 0, .int .i64 0, .int .i64 0, .int .i64 0, .int .i64 0]
abbrev awY : Array Value := #[.int .i64 0, .int .i64 0, .int .i64 20, .int .i64 1, .int .i64 0, .int .i64 0]
theorem res_one : resF 100 [⟨0, 0, -1, 1, 0, 0⟩, ⟨0, 0, -1, 1, 0, 0⟩, ⟨0, 0, 20, 1, 0, 0⟩] = [40, 40, 20] := by
  unfold resF
  rw [show (okL [⟨0, 0, -1, 1, 0, 0⟩, ⟨0, 0, -1, 1, 0, 0⟩, ⟨0, 0, 20, 1, 0, 0⟩] && inR 100) = true by decide +kernel]
  exact free_fixed1
theorem res_two : resF 75 [⟨30, 0, -1, 0, 1, 0⟩, ⟨60, 0, -1, 0, 1, 5⟩, ⟨10, 0, -1, 0, 0, 0⟩] = [20, 40, 10] := by
  unfold resF
  rw [show (okL [⟨30, 0, -1, 0, 1, 0⟩, ⟨60, 0, -1, 0, 1, 5⟩, ⟨10, 0, -1, 0, 0, 0⟩] && inR 75) = true by decide +kernel]
  exact free_fixed2
/-- Resolve's answer as a row, and nothing below its own start. -/
theorem res_row {inner : Int} {l : List Fx} {zs : List Int} {n : Nat} {W w' : World} {e : Ending} (h : ResPost inner l W e w') (hz : resF inner l = zs) (hn : zs.length = n) :
    ∃ A c, e = .returned (.slice A n c) ∧ Row w' w'.heap.size A (i64s zs) ∧ Below W.heap.size W w' := by
  obtain ⟨A, c, rfl, o, hb⟩ := h
  subst hz hn
  exact ⟨A, c, rfl, row_of_own o, hb⟩
theorem fawake_any (W : World) : Calls Try.prog 10 #[] W fun e w' => e = .returned (.bool true) ∧ Below W.heap.size W w' := by
  have H1 := Lib.hid (fun (w : World) => fres_any [⟨0, 0, -1, 1, 0, 0⟩, ⟨0, 0, -1, 1, 0, 0⟩, ⟨0, 0, 20, 1, 0, 0⟩] (some ⟨w.heap.size, 0, none⟩) 3 100 (w.alloc (.cells aw1 26)) (rowF_lit w aw1 26) (by decide))
  have H2 := Lib.hid (fun (w : World) => fres_any [⟨30, 0, -1, 0, 1, 0⟩, ⟨60, 0, -1, 0, 1, 5⟩, ⟨10, 0, -1, 0, 0, 0⟩] (some ⟨w.heap.size, 0, none⟩) 3 75 (w.alloc (.cells aw2 26)) (rowF_lit w aw2 26) (by decide))
  have H3 := Lib.hid (fun (w : World) => fok_any [⟨0, 0, -1, 1, 0, 0⟩] (some ⟨w.heap.size, 0, none⟩) 1 (w.alloc (.cells awX 26)) (rowF_lit w awX 26) (by decide))
  have H4 := Lib.hid (fun (w : World) => fok_any [⟨-1, 0, 0, 0, 0, 0⟩] (some ⟨w.heap.size, 0, none⟩) 1 (w.alloc (.cells awB 26)) (rowF_lit w awB 26) (by decide))
  rw [show okL [⟨0, 0, -1, 1, 0, 0⟩] = true by decide +kernel] at H3
  rw [show okL [⟨-1, 0, 0, 0, 0, 0⟩] = false by decide +kernel] at H4
  have X0 := Lib.hid ((Whole.mk W 26 awX).under ((Below.refl (W.alloc (.cells awX 26)).heap.size (W.alloc (.cells awX 26))).alloc (Nat.le_refl _) (.cells awY 26)) (by simp))
  have B0 := Lib.hid (((Below.refl W.heap.size W).alloc (Nat.le_refl _) (.cells awX 26)).alloc (by simp) (.cells awY 26))
  go_enter Try.func10, Try.ntmps10
  go_upto_region 4 with fail
  have hs0 := X0.out.size
  have hb0 := B0.out.size
  have Y0 := Whole.mk (W.alloc (.cells awX 26)) 26 awY
  rw [show (W.alloc (.cells awX 26)).heap.size = W.heap.size + 1 by simp] at Y0
  have x0 := X0.out.cell 0
  have x1 := X0.out.cell 1
  have x2 := X0.out.cell 2
  have x3 := X0.out.cell 3
  have x4 := X0.out.cell 4
  have x5 := X0.out.cell 5
  have y0 := Y0.cell 0
  have y1 := Y0.cell 1
  have y2 := Y0.cell 2
  have y3 := Y0.cell 3
  have y4 := Y0.cell 4
  have y5 := Y0.cell 5
  simp only [List.getElem?_cons_zero, List.getElem?_cons_succ] at x0 x1 x2 x3 x4 x5 y0 y1 y2 y3 y4 y5
  clear Y0
  generalize (W.alloc _).alloc _ = w0 at *
  have Q1 := Lib.hid (Below.alloc (Below.refl w0.heap.size w0) (Nat.le_refl _) (.cells aw1 26))
  go_wp2_with fail
  refine (H1.out _).mono ?_
  intro e w1 hp
  obtain ⟨A1, c1, rfl, r1, hb1⟩ := res_row (n := 3) hp res_one rfl
  have B1 := Lib.hid (B0.out.trans ((Q1.out.trans (hb1.mono (by simp))).mono hb0))
  have X1 := Lib.hid (X0.out.under (Q1.out.trans (hb1.mono (by simp))) hs0)
  have R1 := Lib.hid r1
  clear hp r1 hb1 H1 X0 B0 Q1 hs0 hb0 x0 x1 x2 x3 x4 x5 y0 y1 y2 y3 y4 y5
  have hs1 := X1.out.size
  have hb1 := B1.out.size
  have Q2 := Lib.hid (Below.alloc (Below.refl w1.heap.size w1) (Nat.le_refl _) (.cells aw2 26))
  go_wp2_with fail
  refine (H2.out _).mono ?_
  intro e w2 hp
  obtain ⟨A2, c2, rfl, r2, hb2⟩ := res_row (n := 3) hp res_two rfl
  have D2 := Lib.hid (Q2.out.trans (hb2.mono (by simp)))
  have B2 := Lib.hid (B1.out.trans (D2.out.mono hb1))
  have X2 := Lib.hid (X1.out.under D2.out hs1)
  have S2 := Lib.hid ((R1.out.below D2.out).more D2.out.size)
  have R2 := Lib.hid r2
  clear hp r2 hb2 H2 X1 B1 Q2 hs1 hb1 R1 D2
  have Q3 := Lib.hid (Below.alloc (Below.refl w2.heap.size w2) (Nat.le_refl _) (.cells #[.int .i64 40, .int .i64 40, .int .i64 20] 2))
  have K3 := Lib.hid (ksame_any A1 (some ⟨w2.heap.size, 0, none⟩) c1 3 3 [40, 40, 20] (w2.alloc (.cells #[.int .i64 40, .int .i64 40, .int .i64 20] 2)) _ _ (S2.out.below Q3.out) (rowF_lit w2 #[.int .i64 40, .int .i64 40, .int .i64 20] 2) rfl (by decide))
  go_wp2_with fail
  refine K3.out.mono ?_
  rintro e w3 ⟨rfl, k3, rfl⟩
  have D3 := Lib.hid (Below.drewN' Q3.out k3)
  have B3 := Lib.hid (B2.out.trans (D3.out.mono B2.out.size))
  have X3 := Lib.hid (X2.out.under D3.out X2.out.size)
  have S3 := Lib.hid ((R2.out.below D3.out).more D3.out.size)
  clear K3 Q3 D3 B2 X2 S2 R2
  generalize (w2.alloc _).drewN k3 = w3 at *
  have Q4 := Lib.hid (Below.alloc (Below.refl w3.heap.size w3) (Nat.le_refl _) (.cells #[.int .i64 20, .int .i64 40, .int .i64 10] 2))
  have K4 := Lib.hid (ksame_any A2 (some ⟨w3.heap.size, 0, none⟩) c2 3 3 [20, 40, 10] (w3.alloc (.cells #[.int .i64 20, .int .i64 40, .int .i64 10] 2)) _ _ (S3.out.below Q4.out) (rowF_lit w3 #[.int .i64 20, .int .i64 40, .int .i64 10] 2) rfl (by decide))
  go_wp2_with fail
  refine K4.out.mono ?_
  rintro e w4 ⟨rfl, k4, rfl⟩
  have D4 := Lib.hid (Below.drewN' Q4.out k4)
  have B4 := Lib.hid (B3.out.trans (D4.out.mono B3.out.size))
  have X4 := Lib.hid (X3.out.under D4.out X3.out.size)
  clear K4 Q4 D4 B3 X3 S3
  generalize (w3.alloc _).drewN k4 = w4 at *
  have x0 := X4.out.cell 0
  have x1 := X4.out.cell 1
  have x2 := X4.out.cell 2
  have x3 := X4.out.cell 3
  have x4 := X4.out.cell 4
  have x5 := X4.out.cell 5
  simp only [List.getElem?_cons_zero, List.getElem?_cons_succ] at x0 x1 x2 x3 x4 x5
  go_wp2_with fail
  refine (H3.out _).mono ?_
  rintro e w5 ⟨rfl, hb5⟩
  have B5 := Lib.hid (B4.out.trans (((Below.refl w4.heap.size w4).alloc (Nat.le_refl _) (.cells awX 26)).trans (hb5.mono (by simp)) |>.mono B4.out.size))
  clear x0 x1 x2 x3 x4 x5 X4 hb5 B4 H3
  go_wp2_with fail
  refine (H4.out _).mono ?_
  rintro e w6 ⟨rfl, hb6⟩
  have B6 := Lib.hid (B5.out.trans (((Below.refl w5.heap.size w5).alloc (Nat.le_refl _) (.cells awB 26)).trans (hb6.mono (by simp)) |>.mono B5.out.size))
  clear hb6 B5 H4
  go_wp2_with fail
  go_ret
  exact ⟨rfl, B6.out⟩
end Go.Proofs.Ytodnplllkpgfaaa
