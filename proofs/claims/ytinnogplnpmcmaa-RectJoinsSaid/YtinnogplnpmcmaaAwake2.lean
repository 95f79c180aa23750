import Derived.Test.YtinnogplnpmcmaaTame2
import Derived.Test.YtinnogplnpmcmaaLaneW
/- quoinlaw2.awake answers true. -/
namespace Go.Proofs.Ytinnogplnpmcmaa
open Go.RowKit
set_option linter.unusedVariables false
set_option linter.unusedSimpArgs false

theorem ok_is (x y a b : Int) (t : Bool) (h : okB x y a b = t) (w : World) : Calls Try.prog 14 #[rv x y a b] w fun e w' => e = .returned (.bool t) ∧ Below w.heap.size w w' := by
  rw [← h]; exact ok_any x y a b w
theorem has_is (x y a b p q : Int) (t : Bool) (s : Small x y a b) (h : hasB x y a b p q = t) (w : World) : Calls Try.prog 8 #[rv x y a b, .int .i64 p, .int .i64 q] w fun e w' => e = .returned (.bool t) ∧ Below w.heap.size w w' := by
  rw [← h]; exact has_any x y a b p q w s
theorem join_is (w : World) (g o c n : Nat) (qs : List Q) (r : Q) (hr : Row w w.heap.size (some ⟨g, o, none⟩) (flat4 qs)) (hl : qs.length = n) (hn : 0 < n) (hm : n ≤ 1000) (hc : n ≤ c) (hc' : c ≤ 9223372036854775807) (hs : ∀ q ∈ qs, q.small) (hj : joinQ qs = r) :
    Calls Try.prog 10 #[.slice (some ⟨g, o, none⟩) n c] w fun e w' => e = .returned (qv r) ∧ Below w.heap.size w w' := by
  subst hl; subst hj; exact join_any w g o c qs hr hn hm hc hc' hs
theorem row_flat (w : World) (qs : List Q) (t : TypeId) : Row (w.alloc (.cells (flat4 qs).toArray t)) (w.alloc (.cells (flat4 qs).toArray t)).heap.size (some ⟨w.heap.size, 0, none⟩) (flat4 qs) := by
  have h := row_new w (flat4 qs).toArray t
  simpa using h

theorem row_flat_at (w : World) (g : Nat) (qs : List Q) (t : TypeId) (hg : w.heap.size = g) : Row (w.alloc (.cells (flat4 qs).toArray t)) (w.alloc (.cells (flat4 qs).toArray t)).heap.size (some ⟨g, 0, none⟩) (flat4 qs) := by
  subst hg; exact row_flat w qs t
theorem join_new (w : World) (g n : Nat) (qs : List Q) (cs : Array Value) (t : TypeId) (r : Q) (hcs : cs = (flat4 qs).toArray) (hg : w.heap.size = g) (hl : qs.length = n) (hn : 0 < n) (hm : n ≤ 1000) (hs : ∀ q ∈ qs, q.small) (hj : joinQ qs = r) :
    Calls Try.prog 10 #[.slice (some ⟨g, 0, none⟩) n n] (w.alloc (.cells cs t)) fun e w' => e = .returned (qv r) ∧ Below (w.alloc (.cells cs t)).heap.size (w.alloc (.cells cs t)) w' := by
  subst hcs
  exact join_is _ g 0 n n qs r (row_flat_at w g qs t hg) hl hn hm (Nat.le_refl _) (by omega) hs hj

theorem row_told {w : World} {g : Nat} {t : TypeId} {cs : List Value} (h : w.heap[g]? = some (.cells cs.toArray t (0, 0))) : Row w w.heap.size (some ⟨g, 0, none⟩) cs := fun _ =>
  ⟨_, rfl, (Array.getElem?_eq_some_iff.1 h).1, fun i hi => by rw [head_add, cell_of_row w g i cs.toArray t (0, 0) h]; simp [hi]⟩
theorem join_told {x : Value} {w : World} {n : Nat} {t : TypeId} {cs : List Value} (qs : List Q) (r : Q) (hcs : cs = flat4 qs) (hx : madeT n t cs x w) (hl : qs.length = n) (hn : 0 < n) (hm : n ≤ 1000) (hs : ∀ q ∈ qs, q.small) (hj : joinQ qs = r) :
    Calls Try.prog 10 #[x] w fun e w' => e = .returned (qv r) ∧ Below w.heap.size w w' := by
  obtain ⟨g, rfl, hg⟩ := hx
  subst hcs
  exact join_is w g 0 n n qs r (row_told hg) hl hn hm (Nat.le_refl _) (by omega) hs hj
set_option maxHeartbeats 2000000 in
theorem awake_any (w : World) :
    Calls Try.prog 9 #[] w fun e w' => e = .returned (.bool true) ∧ Below w.heap.size w w' := by
  have S1 : Small 0 0 4 4 := by unfold Small; omega
  have S2 : Small 2 3 4 4 := by unfold Small; omega
  have S3 : Small 9 0 1 0 := by unfold Small; omega
  have M1 := Lib.hid (fun w => meet_any 0 0 4 4 2 3 4 4 w S1 S2 true 2 3 2 1 (by decide))
  have M2 := Lib.hid (fun w => meet_any 0 0 4 4 9 0 1 0 w S1 S3 false 0 0 0 0 (by decide))
  have O1 := Lib.hid (ok_is 0 0 4 4 true (by decide))
  have O2 := Lib.hid (ok_is 0 0 (-1) 0 false (by decide))
  have H1 := Lib.hid (has_is 0 0 4 4 3 3 true S1 (by decide))
  have H2 := Lib.hid (has_is 0 0 4 4 4 0 false S1 (by decide))
  have V1 := Lib.hid (fun w => move_any 0 0 4 4 1 2 w (by decide) (by decide))
  go_enter Try.func9, Try.ntmps9
  go_wp2_with fail
  refine (M1.out _).mono ?_; rintro e w1 ⟨rfl, hb1⟩
  have A1 := ((Whole.mk w 23 #[.int .i64 0, .int .i64 0, .int .i64 4, .int .i64 4]).made _).under hb1 (by simp <;> omega)
  have B1 := (Whole.mk (w.alloc (.cells #[.int .i64 0, .int .i64 0, .int .i64 4, .int .i64 4] 23)) 23 #[.int .i64 2, .int .i64 3, .int .i64 4, .int .i64 4]).under hb1 (by simp <;> omega)
  have HB1 := Lib.hid ((((Below.refl w.heap.size w).alloc (Nat.le_refl _) _).alloc (by simp) _).trans (hb1.mono (by simp; omega)))
  rw [World.size_alloc] at B1
  have G1 := Lib.hid A1.four
  have s1 := A1.size
  have s1' := B1.size
  obtain ⟨c0, c1, c2, c3⟩ := A1.four
  clear hb1
  go_wp2_with fail
  refine (M2.out _).mono ?_; rintro e w2 ⟨rfl, hb2⟩
  clear c0 c1 c2 c3
  have A2 := (A1.made _).under hb2 (by simp; omega)
  have B2 := (B1.made _).under hb2 (by simp; omega)
  have D2 := (Whole.mk w1 23 #[.int .i64 2, .int .i64 3, .int .i64 2, .int .i64 1]).under hb2 (by simp)
  have HB2 := Lib.hid ((HB1.out.alloc (by omega) _).trans (hb2.mono (by simp; omega)))
  have s2 := A2.size
  have s2' := B2.size
  have s2'' := D2.size
  obtain ⟨c0, c1, c2, c3⟩ := A2.four
  clear hb2 A1 B1 HB1
  go_wp2_with fail
  refine (O1.out _).mono ?_; rintro e w3 ⟨rfl, hb3⟩
  clear c0 c1 c2 c3
  have A3 := (A2.made _).under hb3 (by simp; omega)
  have B3 := (B2.made _).under hb3 (by simp; omega)
  have D3 := (D2.made _).under hb3 (by simp; omega)
  have HB3 := Lib.hid ((HB2.out.alloc (by omega) _).trans (hb3.mono (by simp; omega)))
  have s3 := A3.size
  have s3' := B3.size
  have s3'' := D3.size
  clear hb3 A2 B2 D2 HB2
  go_wp2_with fail
  refine (O2.out _).mono ?_; rintro e w4 ⟨rfl, hb4⟩
  have A4 := A3.under hb4 s3
  have B4 := B3.under hb4 s3'
  have D4 := D3.under hb4 s3''
  have HB4 := Lib.hid (HB3.out.trans (hb4.mono (by omega)))
  clear hb4 A3 B3 D3 HB3
  have s4 := A4.size
  have s4' := B4.size
  have s4'' := D4.size
  obtain ⟨c0, c1, c2, c3⟩ := A4.four
  go_wp2_with fail
  refine (H1.out _).mono ?_; rintro e w5 ⟨rfl, hb5⟩
  clear c0 c1 c2 c3
  have A5 := A4.under hb5 s4
  have B5 := B4.under hb5 s4'
  have D5 := D4.under hb5 s4''
  have HB5 := Lib.hid (HB4.out.trans (hb5.mono (by omega)))
  clear hb5 A4 B4 D4 HB4
  have s5 := A5.size
  have s5' := B5.size
  have s5'' := D5.size
  obtain ⟨c0, c1, c2, c3⟩ := A5.four
  go_wp2_with fail
  refine (H2.out _).mono ?_; rintro e w6 ⟨rfl, hb6⟩
  clear c0 c1 c2 c3
  have A6 := A5.under hb6 s5
  have B6 := B5.under hb6 s5'
  have D6 := D5.under hb6 s5''
  have HB6 := Lib.hid (HB5.out.trans (hb6.mono (by omega)))
  clear hb6 A5 B5 D5 HB5
  have s6 := A6.size
  have s6' := B6.size
  have s6'' := D6.size
  obtain ⟨c0, c1, c2, c3⟩ := A6.four
  go_wp2_with fail
  refine (V1.out _).mono ?_; rintro e w7 ⟨rfl, hb7⟩
  clear c0 c1 c2 c3
  have A7 := A6.under hb7 s6
  have B7 := B6.under hb7 s6'
  have D7 := D6.under hb7 s6''
  have HB7 := Lib.hid (HB6.out.trans (hb7.mono (by omega)))
  clear hb7 A6 B6 D6 HB6
  have s7 := A7.size
  have s7' := B7.size
  have s7'' := D7.size
  obtain ⟨c0, c1, c2, c3⟩ := A7.four
  obtain ⟨e0, e1, e2, e3⟩ := B7.four
  go_wp2_with fail
  refine (join_is _ _ _ 2 _ [⟨0, 0, 4, 4⟩, ⟨2, 3, 4, 4⟩] ⟨0, 0, 6, 7⟩ (row_flat w7 _ _) rfl (by decide) (by decide) (by decide) (by decide) (by intro q hq; simp at hq; rcases hq with rfl | rfl <;> first | exact S1 | exact S2) (by simp [joinQ, ar]; decide)).mono ?_; rintro e w8 ⟨rfl, hb8⟩
  clear c0 c1 c2 c3 e0 e1 e2 e3
  have D8 := (D7.made _).under hb8 (by simp; omega)
  have HB8 := Lib.hid ((HB7.out.alloc (by omega) _).trans (hb8.mono (by simp; omega)))
  clear hb8 A7 B7 D7 HB7
  have s8 := D8.size
  go_wp2_with fail
  refine (join_none _ none 0).mono ?_; rintro e w9 ⟨rfl, hb9⟩
  have D9 := D8.under hb9 s8
  have HB9 := Lib.hid (HB8.out.trans (hb9.mono (by have := HB8.out.size; omega)))
  clear hb9 D8 HB8
  have s9 := D9.size
  obtain ⟨c0, c1, c2, c3⟩ := D9.four
  go_wp2
  go_ret
  exact ⟨rfl, HB9.out⟩
end Go.Proofs.Ytinnogplnpmcmaa
