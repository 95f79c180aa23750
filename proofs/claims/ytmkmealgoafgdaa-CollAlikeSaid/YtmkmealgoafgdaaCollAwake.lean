import Derived.Test.YtmkmealgoafgdaaCollLines
import Derived.Test.YtmkmealgoafgdaaCollOrd
import Derived.Test.YtmkmealgoafgdaaPairEq
import Derived.Test.YtmkmealgoafgdaaAppTold
/- quoinlaw17.awake answers true. -/
namespace Go.Proofs.Ytmkmealgoafgdaa
open Go Go.RowKit
set_option linter.unusedVariables false
set_option linter.unusedSimpArgs false
set_option maxRecDepth 20000
set_option maxHeartbeats 8000000

theorem row_lit (w : World) (cs : Array Value) (t : TypeId) : Row (w.alloc (.cells cs t)) (w.alloc (.cells cs t)).heap.size (some ⟨w.heap.size, 0, none⟩) cs.toList := by
  have := row_new w cs t
  exact this.more (by simp)
theorem ord_awake : Ord [2, -1, 2, 0] [1, 3, 0, 2] := ⟨List.isPerm_iff.1 (by decide), by decide⟩
theorem own_cells {w : World} {b e size n c : Nat} {A : Option Addr} {xs : List Value} (h : w.ownsRow b e size (.slice A n c) n xs) (hn : 0 < n) : ∃ g, A = some ⟨g, 0, none⟩ ∧ g < w.heap.size ∧ ∀ j (hj : j < xs.length), w.cell? ⟨g, j, none⟩ = some xs[j] := by
  obtain ⟨g, rfl⟩ := own_head h hn
  have hlt := (h.lt g rfl).2
  exact ⟨g, rfl, hlt, fun j hj => by rw [h.cellAt j (by have := h.1; omega), List.getElem?_eq_getElem hj]⟩
theorem cawake_any (W : World) : Calls Try.prog 9 #[] W fun e w' => e = .returned (.bool true) ∧ Below W.heap.size W w' := by
  have HO := Lib.hid (fun (w : World) => order_any [2, -1, 2, 0] (some ⟨w.heap.size, 0, none⟩) 4 (w.alloc (.cells #[.int .i64 2, .int .i64 (-1), .int .i64 2, .int .i64 0] 3)) (row_lit w #[.int .i64 2, .int .i64 (-1), .int .i64 2, .int .i64 0] 3) (by decide))
  have i64all : ∀ z ∈ [(4 : Int), 4, 4, 20], I64 z := by unfold I64; decide
  have i10 : I64 10 := by unfold I64; decide
  have HLt := Lib.hid (fun (w : World) => lines_any [4, 4, 4, 20] (by decide) i64all 10 i10 true (some ⟨w.heap.size, 0, none⟩) 4 (by decide) (w.alloc (.cells #[.int .i64 4, .int .i64 4, .int .i64 4, .int .i64 20] 2)) (row_lit w #[.int .i64 4, .int .i64 4, .int .i64 4, .int .i64 20] 2))
  have HLf := Lib.hid (fun (w : World) => lines_any [4, 4, 4, 20] (by decide) i64all 10 i10 false (some ⟨w.heap.size, 0, none⟩) 4 (by decide) (w.alloc (.cells #[.int .i64 4, .int .i64 4, .int .i64 4, .int .i64 20] 2)) (row_lit w #[.int .i64 4, .int .i64 4, .int .i64 4, .int .i64 20] 2))
  have HLn := Lib.hid (fun (w : World) => lines_any [] (by decide) (by simp) 10 i10 false none 0 (Nat.le_refl _) w (Row.nil _ _ _))
  clear i64all i10
  go_enter Try.func9, Try.ntmps9
  go_wp2_with fail
  refine (HO.out _).mono ?_
  rintro e w1 ⟨go, xs, rfl, hx, o, hb⟩
  obtain rfl : xs = [1, 3, 0, 2] := hx.unique ord_awake
  have o0 := o.cellAt 0 (by decide)
  have o1 := o.cellAt 1 (by decide)
  have o2 := o.cellAt 2 (by decide)
  have o3 := o.cellAt 3 (by decide)
  simp only [List.map_cons, List.map_nil, List.getElem?_cons_zero, List.getElem?_cons_succ] at o0 o1 o2 o3
  have hgo := (o.lt go rfl).2
  have B1 := Lib.hid (((Below.refl W.heap.size W).alloc (Nat.le_refl _) (.cells #[.int .i64 2, .int .i64 (-1), .int .i64 2, .int .i64 0] 3)).trans (hb.mono (by simp)))
  clear o hx hb
  rw [show ([2, -1, 2, 0] : List Int).length = 4 from rfl]
  have s1 := B1.out.size
  go_wp2_with fail
  refine (HLt.out _).mono ?_
  rintro e w2 ⟨A2, c2, rfl, o, hb⟩
  have E2 : linesZ 10 true [4, 4, 4, 20] 0 = [(0, 2), (2, 3), (3, 4)] := by decide
  rw [E2] at o ⊢
  rw [show ([(0, 2), (2, 3), (3, 4)] : List (Nat × Nat)).length = 3 from rfl] at o ⊢
  have D2 := (((Below.refl w1.heap.size w1).alloc (Nat.le_refl _) (.cells #[.int .i64 4, .int .i64 4, .int .i64 4, .int .i64 20] 2)).trans (hb.mono (by simp)))
  have p0 := (D2.cell (p := ⟨go, 0, none⟩) hgo).trans o0
  have p1 := (D2.cell (p := ⟨go, 1, none⟩) hgo).trans o1
  have p2 := (D2.cell (p := ⟨go, 2, none⟩) hgo).trans o2
  have p3 := (D2.cell (p := ⟨go, 3, none⟩) hgo).trans o3
  have B2 := Lib.hid (B1.out.trans (D2.mono s1))
  obtain ⟨g2, rfl, hg2, c2f⟩ := own_cells o (by decide)
  have l0 : w2.cell? ⟨g2, 0, none⟩ = some (.int .i64 0) := c2f 0 (by decide)
  have l1 : w2.cell? ⟨g2, 1, none⟩ = some (.int .i64 2) := c2f 1 (by decide)
  have l2 : w2.cell? ⟨g2, 2, none⟩ = some (.int .i64 2) := c2f 2 (by decide)
  have l3 : w2.cell? ⟨g2, 3, none⟩ = some (.int .i64 3) := c2f 3 (by decide)
  have l4 : w2.cell? ⟨g2, 4, none⟩ = some (.int .i64 3) := c2f 4 (by decide)
  have l5 : w2.cell? ⟨g2, 5, none⟩ = some (.int .i64 4) := c2f 5 (by decide)
  have hgo2 : go < w2.heap.size := by have := D2.size; omega
  clear o hb c2f B1 o0 o1 o2 o3 s1 hgo D2 E2
  have s2 := B2.out.size
  go_wp2_with fail
  refine (HLf.out _).mono ?_
  rintro e w3 ⟨A3, c3, rfl, o, hb⟩
  have E3 : linesZ 10 false [4, 4, 4, 20] 0 = [(0, 4)] := by decide
  rw [E3] at o ⊢
  rw [show ([(0, 4)] : List (Nat × Nat)).length = 1 from rfl] at o ⊢
  have D3 := (((Below.refl w2.heap.size w2).alloc (Nat.le_refl _) (.cells #[.int .i64 4, .int .i64 4, .int .i64 4, .int .i64 20] 2)).trans (hb.mono (by simp)))
  have q0 := (D3.cell (p := ⟨go, 0, none⟩) hgo2).trans p0
  have q1 := (D3.cell (p := ⟨go, 1, none⟩) hgo2).trans p1
  have q2 := (D3.cell (p := ⟨go, 2, none⟩) hgo2).trans p2
  have q3 := (D3.cell (p := ⟨go, 3, none⟩) hgo2).trans p3
  have m0 := (D3.cell (p := ⟨g2, 0, none⟩) hg2).trans l0
  have m1 := (D3.cell (p := ⟨g2, 1, none⟩) hg2).trans l1
  have m2 := (D3.cell (p := ⟨g2, 2, none⟩) hg2).trans l2
  have m3 := (D3.cell (p := ⟨g2, 3, none⟩) hg2).trans l3
  have m4 := (D3.cell (p := ⟨g2, 4, none⟩) hg2).trans l4
  have m5 := (D3.cell (p := ⟨g2, 5, none⟩) hg2).trans l5
  have B3 := Lib.hid (B2.out.trans (D3.mono s2))
  obtain ⟨g3, rfl, hg3, c3f⟩ := own_cells o (by decide)
  have r0 : w3.cell? ⟨g3, 0, none⟩ = some (.int .i64 0) := c3f 0 (by decide)
  have r1 : w3.cell? ⟨g3, 1, none⟩ = some (.int .i64 4) := c3f 1 (by decide)
  clear o hb c3f B2 D3 E3 hgo2 hg2 s2 p0 p1 p2 p3 l0 l1 l2 l3 l4 l5
  have s3 := B3.out.size
  go_wp2_with (rw [pair_eq]; simp only [Result.andThen_ok])
  refine (HLn.out _).mono ?_
  rintro e w4 ⟨A4, c4, rfl, o, hb⟩
  rw [show (linesZ 10 false [] 0).length = 0 from rfl]
  have B4 := Lib.hid (B3.out.trans (hb.mono s3))
  clear o hb B3
  go_wp2_with fail
  go_ret
  exact ⟨rfl, B4.out⟩
end Go.Proofs.Ytmkmealgoafgdaa
