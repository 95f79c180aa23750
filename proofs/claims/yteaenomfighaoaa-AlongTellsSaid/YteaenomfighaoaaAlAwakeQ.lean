import Derived.Test.YteaenomfighaoaaAlongQ
import Derived.Test.YteaenomfighaoaaZQ
/- quoinlaw19.awake answers true. -/
namespace Go.Proofs.Yteaenomfighaoaa
open Go Go.RowKit
set_option linter.unusedVariables false
set_option linter.unusedSimpArgs false
set_option maxRecDepth 20000
set_option maxHeartbeats 8000000

theorem rowA_lit (w : World) (cs : Array Value) (t : TypeId) : Row (w.alloc (.cells cs t)) (w.alloc (.cells cs t)).heap.size (some ⟨w.heap.size, 0, none⟩) cs.toList := (row_new w cs t).more (by simp)
abbrev aL1 : Array Value := #[.int .i64 1, .int .i64 0, .int .i64 4, .bool false, .bool false, .int .i64 0, .int .i64 0, .int .i64 4, .bool true, .bool false]
abbrev aL2 : Array Value := #[.int .i64 0, .int .i64 0, .int .i64 4, .bool false, .bool false, .int .i64 0, .int .i64 0, .int .i64 4, .bool false, .bool false]
theorem pl_one : placeA 20 [⟨1, 0, false, false, 4⟩, ⟨0, 0, true, false, 4⟩] 4 false = [1, 16] := by decide +kernel
theorem pl_two : placeA 18 [⟨0, 0, false, false, 4⟩, ⟨0, 0, false, false, 4⟩] 3 false = [0, 14] := by decide +kernel
theorem pl_tri : placeA 18 [⟨0, 0, false, false, 4⟩, ⟨0, 0, false, false, 4⟩] 2 true = [9, 5] := by decide +kernel
/-- Place's answer as a row. -/
theorem pl_row {inner j : Int} {rev : Bool} {l : List Al} {zs : List Int} {n : Nat} {W w' : World} {e : Ending} (h : AlPost inner l j rev W e w') (hz : placeA inner l j rev = zs) (hn : l.length = n) :
    ∃ A c, e = .returned (.slice A n c) ∧ Row w' w'.heap.size A (i64s zs) ∧ Below W.heap.size W w' := by
  obtain ⟨A, c, rfl, o, hb⟩ := h
  subst hz hn
  exact ⟨A, c, rfl, row_of_own o, hb⟩
theorem alawake_any (W : World) : Calls Try.prog 9 #[] W fun e w' => e = .returned (.bool true) ∧ Below W.heap.size W w' := by
  have ok : ∀ (x : Al), x ∈ ([⟨1, 0, false, false, 4⟩, ⟨0, 0, true, false, 4⟩] : List Al) ++ [⟨0, 0, false, false, 4⟩, ⟨0, 0, false, false, 4⟩] → AlOk x := by
    intro x hx
    simp only [List.cons_append, List.nil_append, List.mem_cons, List.not_mem_nil, or_false] at hx
    rcases hx with rfl | rfl | rfl | rfl <;> constructor <;> decide
  have H1 := Lib.hid (fun (w : World) => along_any [⟨1, 0, false, false, 4⟩, ⟨0, 0, true, false, 4⟩] (some ⟨w.heap.size, 0, none⟩) 2 20 4 false (w.alloc (.cells aL1 27)) (rowA_lit w aL1 27) (fun x hx => ok x (List.mem_append_left _ hx)) (by decide) (by decide))
  have H2 := Lib.hid (fun (w : World) => along_any [⟨0, 0, false, false, 4⟩, ⟨0, 0, false, false, 4⟩] (some ⟨w.heap.size, 0, none⟩) 2 18 3 false (w.alloc (.cells aL2 27)) (rowA_lit w aL2 27) (fun x hx => ok x (List.mem_append_right _ hx)) (by decide) (by decide))
  have H3 := Lib.hid (fun (w : World) => along_any [⟨0, 0, false, false, 4⟩, ⟨0, 0, false, false, 4⟩] (some ⟨w.heap.size, 0, none⟩) 2 18 2 true (w.alloc (.cells aL2 27)) (rowA_lit w aL2 27) (fun x hx => ok x (List.mem_append_right _ hx)) (by decide) (by decide))
  have H4 := Lib.hid (fun (w : World) => along_any [] none 0 5 0 true w (Row.nil _ _ _) (by simp) (by decide) (by decide))
  clear ok
  go_enter Try.func9, Try.ntmps9
  have Q1 := Lib.hid (Below.alloc (Below.refl W.heap.size W) (Nat.le_refl _) (.cells aL1 27))
  go_wp2_with fail
  refine (H1.out _).mono ?_
  intro e w1 hp
  obtain ⟨A1, c1, rfl, r1, hb1⟩ := pl_row (n := 2) hp pl_one rfl
  have B1 := Lib.hid (Q1.out.trans (hb1.mono (by simp)))
  have R1 := Lib.hid r1
  clear hp r1 hb1 H1 Q1
  have Q1 := Lib.hid (Below.alloc (Below.refl w1.heap.size w1) (Nat.le_refl _) (.cells #[.int .i64 1, .int .i64 16] 2))
  have K1 := Lib.hid (ksame_any A1 (some ⟨w1.heap.size, 0, none⟩) c1 2 2 [1, 16] (w1.alloc (.cells #[.int .i64 1, .int .i64 16] 2)) _ _ (R1.out.below Q1.out) (rowA_lit w1 #[.int .i64 1, .int .i64 16] 2) rfl (by decide))
  go_wp2_with fail
  refine K1.out.mono ?_
  rintro e w2 ⟨rfl, k2, rfl⟩
  have B2 := Lib.hid (B1.out.trans ((Below.drewN' Q1.out k2).mono B1.out.size))
  clear K1 Q1 B1 R1
  generalize (w1.alloc _).drewN k2 = w2 at *
  have Q2 := Lib.hid (Below.alloc (Below.refl w2.heap.size w2) (Nat.le_refl _) (.cells aL2 27))
  go_wp2_with fail
  refine (H2.out _).mono ?_
  intro e w3 hp
  obtain ⟨A3, c3, rfl, r3, hb3⟩ := pl_row (n := 2) hp pl_two rfl
  have B3 := Lib.hid (B2.out.trans ((Q2.out.trans (hb3.mono (by simp))).mono B2.out.size))
  have R3 := Lib.hid r3
  clear hp r3 hb3 H2 Q2 B2
  have Q3 := Lib.hid (Below.alloc (Below.refl w3.heap.size w3) (Nat.le_refl _) (.cells #[.int .i64 0, .int .i64 14] 2))
  have K3 := Lib.hid (ksame_any A3 (some ⟨w3.heap.size, 0, none⟩) c3 2 2 [0, 14] (w3.alloc (.cells #[.int .i64 0, .int .i64 14] 2)) _ _ (R3.out.below Q3.out) (rowA_lit w3 #[.int .i64 0, .int .i64 14] 2) rfl (by decide))
  go_wp2_with fail
  refine K3.out.mono ?_
  rintro e w4 ⟨rfl, k4, rfl⟩
  have B4 := Lib.hid (B3.out.trans ((Below.drewN' Q3.out k4).mono B3.out.size))
  clear K3 Q3 B3 R3
  generalize (w3.alloc _).drewN k4 = w4 at *
  have Q4 := Lib.hid (Below.alloc (Below.refl w4.heap.size w4) (Nat.le_refl _) (.cells aL2 27))
  go_wp2_with fail
  refine (H3.out _).mono ?_
  intro e w5 hp
  obtain ⟨A5, c5, rfl, r5, hb5⟩ := pl_row (n := 2) hp pl_tri rfl
  have B5 := Lib.hid (B4.out.trans ((Q4.out.trans (hb5.mono (by simp))).mono B4.out.size))
  have R5 := Lib.hid r5
  clear hp r5 hb5 H3 Q4 B4
  have Q5 := Lib.hid (Below.alloc (Below.refl w5.heap.size w5) (Nat.le_refl _) (.cells #[.int .i64 9, .int .i64 5] 2))
  have K5 := Lib.hid (ksame_any A5 (some ⟨w5.heap.size, 0, none⟩) c5 2 2 [9, 5] (w5.alloc (.cells #[.int .i64 9, .int .i64 5] 2)) _ _ (R5.out.below Q5.out) (rowA_lit w5 #[.int .i64 9, .int .i64 5] 2) rfl (by decide))
  go_wp2_with fail
  refine K5.out.mono ?_
  rintro e w6 ⟨rfl, k6, rfl⟩
  have B6 := Lib.hid (B5.out.trans ((Below.drewN' Q5.out k6).mono B5.out.size))
  clear K5 Q5 B5 R5
  generalize (w5.alloc _).drewN k6 = w6 at *
  go_wp2_with fail
  refine (H4.out _).mono ?_
  intro e w7 hp
  obtain ⟨A7, c7, rfl, r7, hb7⟩ := pl_row (n := 0) hp (show placeA 5 [] 0 true = [] from rfl) rfl
  have B7 := Lib.hid (B6.out.trans (hb7.mono B6.out.size))
  clear hp r7 hb7 H4
  go_wp2_with fail
  go_ret
  exact ⟨rfl, B7.out⟩
end Go.Proofs.Yteaenomfighaoaa
