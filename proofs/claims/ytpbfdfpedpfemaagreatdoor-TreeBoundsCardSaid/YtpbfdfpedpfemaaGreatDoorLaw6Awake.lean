import Derived.Test.YtpbfdfpedpfemaaGreatDoorRef6New
/- quoinlaw6.awake answers true. -/
namespace Go.Proofs.YtpbfdfpedpfemaaGreatDoor
open Go Go.RowKit
set_option linter.unusedVariables false
set_option linter.unusedSimpArgs false
set_option maxRecDepth 20000
set_option maxHeartbeats 4000000

def awL : List Nd := [root0, ⟨5, 0, false, ⟨#[]⟩, []⟩, ⟨7, 5, true, ⟨#[97]⟩, []⟩, ⟨2, 0, false, ⟨#[]⟩, []⟩]
def awC : Array Value := #[.int .i64 0, .int .i64 (-1), .bool false, .string ⟨#[]⟩, .slice none 0 0, .int .i64 5, .int .i64 0, .bool false, .string ⟨#[]⟩, .slice none 0 0,
  .int .i64 7, .int .i64 5, .bool true, .string ⟨#[97]⟩, .slice none 0 0, .int .i64 2, .int .i64 0, .bool false, .string ⟨#[]⟩, .slice none 0 0]
theorem awC_row : plC awL = awC.toList := rfl
theorem aw_low (w : World) (g : Nat) (h : Whole w g 32 awC.toList) : NodesLow w w.heap.size (some ⟨g, 0, none⟩) awL (awL.map fun _ => noS) := by
  refine ⟨rfl, fun _ => ⟨_, rfl, h.size, fun i hi => ?_⟩, fun k hk => ?_, fun x hx => ?_, by decide⟩
  · rw [head_add, h.cell i, ← awC_row]; exact List.getElem?_eq_getElem hi
  · have : awL[k].sty = [] := (show ∀ x ∈ awL, x.sty = [] by intro x hx; simp [awL] at hx; rcases hx with rfl | rfl | rfl | rfl <;> rfl) _ (List.getElem_mem hk)
    rw [this, List.getElem_map]
    exact ⟨none, 0, rfl, Row.nil _ _ _, by decide, fun _ => rfl⟩
  · simp [awL] at hx
    unfold In64i
    rcases hx with rfl | rfl | rfl | rfl <;> simp [root0, ByteArray.size]
theorem aw_no : ∀ n ∈ awL, n.tx = false → ∀ d ∈ n.sty, UntoldOK d := by
  intro n hn _ d hd
  simp [awL] at hn
  rcases hn with rfl | rfl | rfl | rfl <;> simp [root0] at hd
theorem aw_of9 (A : Option Addr) (c : Nat) (w : World) (h : NodesLow w w.heap.size A awL (awL.map fun _ => noS)) (hc : 4 ≤ c) :
    Calls Tryz.prog 9 #[.int .i64 9, .slice A 4 c] w fun e w' => (∃ t, e = .returned (.tuple #[.pointer (some ⟨t, 0, none⟩), .bool true]) ∧ Tree w' w.heap.size t 9 awL) ∧ Below w.heap.size w w' := by
  refine (tof_any 9 A c awL _ w h hc aw_no).mono ?_
  rintro e w' ⟨h1, h2⟩
  unfold OfPost at h1
  rw [if_pos (by decide +kernel)] at h1
  exact ⟨h1, h2⟩
theorem aw_of3 (A : Option Addr) (c : Nat) (w : World) (h : NodesLow w w.heap.size A awL (awL.map fun _ => noS)) (hc : 4 ≤ c) :
    Calls Tryz.prog 9 #[.int .i64 3, .slice A 4 c] w fun e w' => e = .returned (.tuple #[.pointer none, .bool false]) ∧ Below w.heap.size w w' := by
  refine (tof_any 3 A c awL _ w h hc aw_no).mono ?_
  rintro e w' ⟨h1, h2⟩
  unfold OfPost at h1
  rw [if_neg (by decide +kernel)] at h1
  exact ⟨h1, h2⟩
theorem lawake6_any (W : World) : Calls Tryz.prog 15 #[] W fun e w' => e = .returned (.bool true) ∧ Below W.heap.size W w' := by
  have X1 := Lib.hid (Whole.mk W 32 awC)
  have B1 := Lib.hid ((Below.refl W.heap.size W).alloc (Nat.le_refl _) (.cells awC 32))
  go_enter Tryz.func15, Tryz.ntmps15
  go_upto_region 2 with fail
  have Z1 := X1.out.size
  unfold awC at X1 B1 Z1
  generalize W.alloc _ = w1 at *
  have X1 : Hid (Whole w1 W.heap.size 32 awC.toList) := X1
  go_wp2_with fail
  refine (aw_of9 _ 4 w1 (aw_low w1 _ X1.out) (by decide)).mono ?_
  rintro e w2 ⟨⟨t, rfl, hT⟩, hb⟩
  have X2 := Lib.hid (X1.out.under hb Z1)
  have Z2 := X2.out.size
  have B2 := Lib.hid (B1.out.trans (hb.mono (by omega)))
  have T2 := Lib.hid hT
  clear hb hT X1 Z1 B1
  go_wp2_with fail
  refine (aw_of3 _ 4 w2 (aw_low w2 _ X2.out) (by decide)).mono ?_
  rintro e w3 ⟨rfl, hb⟩
  have X3 := Lib.hid (X2.out.under hb Z2)
  have Z3 := X3.out.size
  have B3 := Lib.hid (B2.out.trans (hb.mono (by omega)))
  have T3 := Lib.hid (T2.out.behind hb)
  clear hb X2 Z2 B2 T2
  go_wp2_with fail
  refine (tkids_any T3.out (id := 0) (by unfold In64i; omega) (Int.le_refl _) (by decide)).mono ?_
  rw [show kidsZ awL 0 = [5, 2] by decide +kernel]
  rintro e w4 ⟨v, rfl, ⟨A, ck, rfl, ho, -⟩, hb⟩
  have X4 := Lib.hid (X3.out.under hb Z3)
  have Z4 := X4.out.size
  have B4 := Lib.hid (B3.out.trans (hb.mono (by omega)))
  have T4 := Lib.hid (T3.out.behind hb)
  obtain ⟨g, c', hv, -, -, -⟩ := owns_some ho (by decide)
  injection hv with e1 e2 e3
  subst e1 e3
  clear e2
  have K4 := Lib.hid (row_of_own ho)
  clear hb X3 Z3 B3 T3 ho
  have h7 : atZ awL 7 = some ⟨7, 5, true, ⟨#[97]⟩, []⟩ := rfl
  go_wp2_with fail
  refine (tnode_any T4.out (id := 7) (by unfold In64i; omega) h7).mono ?_
  rintro e w5 ⟨⟨A5, c5, rfl, -⟩, hb⟩
  have X5 := Lib.hid (X4.out.under hb Z4)
  have Z5 := X5.out.size
  have B5 := Lib.hid (B4.out.trans (hb.mono (by omega)))
  have T5 := Lib.hid (T4.out.behind hb)
  have K5 := Lib.hid ((K4.out.below hb).more hb.size)
  clear hb X4 Z4 B4 T4 K4 h7
  go_upto_region 8 with fail
  have hal : Below w5.heap.size w5 (w5.alloc (.cells #[.int .i64 7, .int .i64 5, .bool true, .string ⟨#[97]⟩, .slice A5 0 c5] 32)) := (Below.refl _ _).alloc (Nat.le_refl _) _
  have N6 := Lib.hid (Whole.mk w5 32 #[.int .i64 7, .int .i64 5, .bool true, .string ⟨#[97]⟩, .slice A5 0 c5])
  have X6 := Lib.hid (X5.out.under hal Z5)
  have B6 := Lib.hid (B5.out.trans (hal.mono (by omega)))
  have T6 := Lib.hid (T5.out.behind hal)
  have K6 := Lib.hid (K5.out.below hal)
  have sz : w5.heap.size < (w5.alloc (.cells #[.int .i64 7, .int .i64 5, .bool true, .string ⟨#[97]⟩, .slice A5 0 c5] 32)).heap.size := by simp
  clear hal X5 B5 T5 K5
  generalize w5.alloc _ = w6 at *
  generalize w5.heap.size = gn at *
  have Z6 := X6.out.size
  have n3 : w6.cell? ⟨gn, 3, none⟩ = some (.string ⟨#[97]⟩) := N6.out.cell 3
  obtain ⟨ad, e1, -, hc⟩ := K6.out (by decide)
  injection e1 with e1
  subst e1
  have k0 : w6.cell? ⟨g, 0, none⟩ = some (.int .i64 5) := by have := hc 0 (by decide); rw [head_add] at this; exact this
  have k1 : w6.cell? ⟨g, 1, none⟩ = some (.int .i64 2) := by have := hc 1 (by decide); rw [head_add] at this; exact this
  clear hc K6 N6
  go_wp2_with fail
  refine (tlen_any T6.out).mono ?_
  rintro e w' ⟨rfl, rfl⟩
  rw [show ((awL.length : Nat) : Int) = 4 from rfl]
  go_wp2_with fail
  refine (tparent_any T6.out (id := 7) (by unfold In64i; omega)).mono ?_
  rintro e w' ⟨rfl, rfl⟩
  rw [show parZ awL 7 = 5 by decide +kernel]
  go_wp2_with fail
  refine (tbelow_any T6.out (id := 7) (of_ := 0) (by unfold In64i; omega) (by unfold In64i; omega)).mono ?_
  rintro e w' ⟨rfl, rfl⟩
  rw [show belowZ awL 7 0 = true by decide +kernel]
  go_wp2_with fail
  refine (tbelow_any T6.out (id := 5) (of_ := 7) (by unfold In64i; omega) (by unfold In64i; omega)).mono ?_
  rintro e w' ⟨rfl, rfl⟩
  rw [show belowZ awL 5 7 = false by decide +kernel]
  go_wp2_with fail
  refine (tdeep_any T6.out (id := 7) (by unfold In64i; omega) (by decide)).mono ?_
  rintro e w' ⟨rfl, rfl⟩
  rw [show deepZ awL 7 = 2 by decide +kernel]
  go_wp2_with fail
  refine (tdeep_any T6.out (id := 9) (by unfold In64i; omega) (by decide)).mono ?_
  rintro e w' ⟨rfl, rfl⟩
  rw [show deepZ awL 9 = -1 by decide +kernel]
  obtain ⟨Tr, f1, f2, f3⟩ := of_tree 9 awL (by decide +kernel)
  go_wp2_with fail
  refine (tsay_any T6.out (by decide) f1 f2 f3).mono ?_
  rintro e w7 ⟨v, rfl, hN, -, hb⟩
  have X7 := Lib.hid (X6.out.under hb Z6)
  have B7 := Lib.hid (B6.out.trans (hb.mono (by omega)))
  have S7 := Lib.hid (hN.see (by decide))
  clear f1 f2 f3 hb hN n3 k0 k1 X6 B6 T6
  go_wp2_with fail
  refine (nsame_any awL v (.slice (some ⟨W.heap.size, 0, none⟩) 4 4) w7 S7.out ((aw_low w7 _ X7.out).see (c := 4) (Nat.le_refl _))).mono ?_
  rintro e w8 ⟨rfl, hb⟩
  have B8 := Lib.hid (B7.out.trans (hb.mono (by have := X7.out.size; omega)))
  clear hb
  go_wp2_with fail
  go_ret
  exact ⟨rfl, B8.out⟩
end Go.Proofs.YtpbfdfpedpfemaaGreatDoor
