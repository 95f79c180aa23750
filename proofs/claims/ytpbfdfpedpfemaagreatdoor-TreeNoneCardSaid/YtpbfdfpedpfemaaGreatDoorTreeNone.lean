import Derived.Test.YtpbfdfpedpfemaaGreatDoorLaw6Awake
import Derived.Test.YtpbfdfpedpfemaaGreatDoorDeclForm
/- TreeNone answers true. -/
namespace Go.Proofs.YtpbfdfpedpfemaaGreatDoor
open Go Go.RowKit
set_option linter.unusedVariables false
set_option linter.unusedSimpArgs false
set_option maxRecDepth 20000
set_option maxHeartbeats 4000000

theorem untold0 : UntoldOK ⟨0, 0, 0, 0⟩ := by
  intro w
  have FO := Lib.hid (fun w => formOf_out 0 (.inl (by decide)) w)
  have TX : Hid (∀ g W, Whole W g 57 [.int .i64 0, .int .i64 0, .int .i64 0, .int .i64 0] → Calls Tryz.prog 79 #[.slice (some ⟨g, 0, none⟩) 1 1] W fun e w' => e = .returned (.tuple #[.string ⟨#[]⟩, .bool false]) ∧ Below W.heap.size W w') := Lib.hid (by
    intro g W hW
    have B0 := Lib.hid ((Below.refl W.heap.size W).alloc (Nat.le_refl _) (.cells #[.pointer none, .slice none 0 0] 120))
    have X0 := Lib.hid (hW.made (.cells #[.pointer none, .slice none 0 0] 120))
    clear hW
    go_enter Tryz.func79, Tryz.ntmps79
    go_upto_region 3 with fail
    generalize W.alloc _ = w1 at *
    go_loopw [10] (fun v10 wr => v10 = .int .i64 0 ∧ Hid (Whole wr g 57 [.int .i64 0, .int .i64 0, .int .i64 0, .int .i64 0]) ∧ Hid (Below W.heap.size W wr)) (fun _ _ => 0)
    case atStart => exact ⟨rfl, X0, B0⟩
    case round =>
      clear X0 B0
      obtain ⟨rfl, X, B⟩ := hrel
      have x0 := X.out.cell 0
      have x1 := X.out.cell 1
      have x2 := X.out.cell 2
      have x3 := X.out.cell 3
      have hlt := X.out.size
      have hsz := B.out.size
      simp only [List.getElem?_cons_zero, List.getElem?_cons_succ] at x0 x1 x2 x3
      go_wp2_with fail
      refine (FO.out _).mono ?_
      rintro e w' ⟨rfl, rfl⟩
      go_wp2_with fail
      go_ret2
      exact ⟨rfl, B.out.alloc hsz _⟩)
  have R0 := Lib.hid ((Whole.mk (w.alloc (.cells #[.int .i64 0, .int .i64 0, .int .i64 0, .int .i64 0] 57)) 57 #[.int .i64 0, .int .i64 0, .int .i64 0, .int .i64 0]))
  have B0 := Lib.hid (((Below.refl w.heap.size w).alloc (Nat.le_refl _) (.cells #[.int .i64 0, .int .i64 0, .int .i64 0, .int .i64 0] 57)).alloc (by simp) (.cells #[.int .i64 0, .int .i64 0, .int .i64 0, .int .i64 0] 57))
  have hd : decC ⟨0, 0, 0, 0⟩ = .agg #[.int .i64 0, .int .i64 0, .int .i64 0, .int .i64 0] := rfl
  rw [hd, show mayZ (0 : Int) 0 0 0 = false by decide +kernel]
  go_enter Tryz.func71, Tryz.ntmps71
  go_wp2_with fail
  refine (TX.out _ _ (by simpa using R0.out)).mono ?_
  rintro e w1 ⟨rfl, hb⟩
  have B1 := Lib.hid (B0.out.trans (hb.mono B0.out.size))
  go_wp2_with fail
  go_ret
  exact ⟨rfl, B1.out⟩
def tnObjs (G : Nat) : List Obj := [
  .cells #[.int .i64 0, .int .i64 (-1), .bool false, .string ⟨#[]⟩, .slice none 0 0] 32,
  .cells #[.int .i64 1, .int .i64 (-1), .bool false, .string ⟨#[]⟩, .slice none 0 0] 32,
  .cells #[.int .i64 0, .int .i64 0, .bool false, .string ⟨#[]⟩, .slice none 0 0] 32,
  .cells #[.int .i64 0, .int .i64 (-1), .bool true, .string ⟨#[]⟩, .slice none 0 0] 32,
  .cells #[.int .i64 0, .int .i64 (-1), .bool false, .string ⟨#[]⟩, .slice none 0 0, .int .i64 0, .int .i64 (-1), .bool false, .string ⟨#[]⟩, .slice none 0 0] 32,
  .cells #[.int .i64 0, .int .i64 (-1), .bool false, .string ⟨#[]⟩, .slice none 0 0, .int .i64 1, .int .i64 2, .bool false, .string ⟨#[]⟩, .slice none 0 0] 32,
  .cells #[.int .i64 0, .int .i64 (-1), .bool false, .string ⟨#[]⟩, .slice none 0 0, .int .i64 1, .int .i64 0, .bool true, .string ⟨#[]⟩, .slice none 0 0, .int .i64 2, .int .i64 1, .bool false, .string ⟨#[]⟩, .slice none 0 0] 32,
  .cells #[.int .i64 0, .int .i64 (-1), .bool false, .string ⟨#[]⟩, .slice none 0 0, .int .i64 1001, .int .i64 0, .bool false, .string ⟨#[]⟩, .slice none 0 0] 32,
  .cells #[.int .i64 0, .int .i64 (-1), .bool false, .string ⟨#[]⟩, .slice none 0 0, .int .i64 (-1), .int .i64 0, .bool false, .string ⟨#[]⟩, .slice none 0 0] 32,
  .cells #[.int .i64 0, .int .i64 (-1), .bool false, .string ⟨#[]⟩, .slice none 0 0, .int .i64 1, .int .i64 0, .bool false, .string ⟨#[]⟩, .slice none 0 0, .int .i64 1, .int .i64 0, .bool false, .string ⟨#[]⟩, .slice none 0 0] 32,
  .cells #[.int .i64 0, .int .i64 (-1), .bool false, .string ⟨#[]⟩, .slice none 0 0, .int .i64 1, .int .i64 0, .bool false, .string ⟨#[97]⟩, .slice none 0 0] 32,
  .cells #[.int .i64 1, .int .i64 0, .int .i64 0, .int .i64 0] 57,
  .cells #[.int .i64 0, .int .i64 (-1), .bool false, .string ⟨#[]⟩, .slice none 0 0, .int .i64 1, .int .i64 0, .bool true, .string ⟨#[]⟩, .slice (some ⟨G + 11, 0, none⟩) 1 1] 32,
  .cells #[.int .i64 0, .int .i64 0, .int .i64 0, .int .i64 0] 57,
  .cells #[.int .i64 0, .int .i64 (-1), .bool false, .string ⟨#[]⟩, .slice none 0 0, .int .i64 1, .int .i64 0, .bool false, .string ⟨#[]⟩, .slice (some ⟨G + 13, 0, none⟩) 1 1] 32,
  .cells #[.int .i64 0, .int .i64 (-1), .bool false, .string ⟨#[]⟩, .slice none 0 0, .int .i64 1, .int .i64 0, .bool false, .string ⟨#[]⟩, .slice none 0 0, .int .i64 2, .int .i64 0, .bool false, .string ⟨#[]⟩, .slice none 0 0, .int .i64 3, .int .i64 1, .bool false, .string ⟨#[]⟩, .slice none 0 0] 32,
  .cells #[.int .i64 0, .int .i64 (-1), .bool false, .string ⟨#[]⟩, .slice none 0 0, .int .i64 1, .int .i64 1, .bool false, .string ⟨#[]⟩, .slice none 0 0] 32,
  .cells #[.slice none 0 0, .slice (some ⟨G + 1, 0, none⟩) 1 1, .slice (some ⟨G + 2, 0, none⟩) 1 1, .slice (some ⟨G + 3, 0, none⟩) 1 1, .slice (some ⟨G + 4, 0, none⟩) 2 2, .slice (some ⟨G + 5, 0, none⟩) 2 2, .slice (some ⟨G + 6, 0, none⟩) 3 3, .slice (some ⟨G + 7, 0, none⟩) 2 2, .slice (some ⟨G + 8, 0, none⟩) 2 2, .slice (some ⟨G + 9, 0, none⟩) 3 3, .slice (some ⟨G + 10, 0, none⟩) 2 2, .slice (some ⟨G + 12, 0, none⟩) 2 2, .slice (some ⟨G + 14, 0, none⟩) 2 2, .slice (some ⟨G + 15, 0, none⟩) 4 4, .slice (some ⟨G + 16, 0, none⟩) 2 2] 23]
def addAll (w : World) (os : List Obj) : World := os.foldl World.alloc w
theorem addAll_heap : ∀ (os : List Obj) (w : World), (addAll w os).heap = w.heap ++ os.toArray
  | [], w => by unfold addAll; simp
  | o :: os, w => by
    have := addAll_heap os (w.alloc o)
    unfold addAll at *
    rw [List.foldl_cons, this, show (w.alloc o).heap = w.heap.push o from rfl]
    simp
theorem addAll_whole (w : World) (os : List Obj) (k : Nat) (t : TypeId) (cs : Array Value) (h : os[k]? = some (.cells cs t)) : Whole (addAll w os) (w.heap.size + k) t cs.toList := by
  unfold Whole
  rw [addAll_heap, Array.getElem?_append_right (by omega), Nat.add_sub_cancel_left]
  simpa using h
theorem addAll_below : ∀ (os : List Obj) (B : Nat) (w0 w : World), Below B w0 w → B ≤ w.heap.size → Below B w0 (addAll w os)
  | [], _, _, _, h, _ => h
  | o :: os, B, w0, w, h, hB => addAll_below os B w0 (w.alloc o) (h.alloc hB o) (by simp; omega)
def bareB (n : Nd) : Bool := n.sty.isEmpty && decide (n.dat.size ≤ 1000) && decide (-10 ≤ n.id ∧ n.id ≤ 2000 ∧ -10 ≤ n.par ∧ n.par ≤ 2000)
/-- A row of nodes of which there is no tree. -/
def BadRow (w : World) (v : Value) : Prop := ∃ (A : Option Addr) (c : Nat) (l : List Nd) (svs : List Value), v = .slice A l.length c ∧ l.length ≤ c ∧ NodesLow w w.heap.size A l svs ∧ ofB 100 l = false ∧ ∀ n ∈ l, n.tx = false → ∀ d ∈ n.sty, UntoldOK d
theorem plain_low (w : World) (g : Nat) (l : List Nd) (hW : Whole w g 32 (plC l)) (hp : l.all bareB = true) (hl : l.length ≤ 100) : NodesLow w w.heap.size (some ⟨g, 0, none⟩) l (l.map fun _ => noS) := by
  have hq : ∀ n ∈ l, n.sty = [] ∧ n.dat.size ≤ 1000 ∧ -10 ≤ n.id ∧ n.id ≤ 2000 ∧ -10 ≤ n.par ∧ n.par ≤ 2000 := fun n hn => by
    have := List.all_eq_true.1 hp n hn
    simpa [bareB, and_assoc] using this
  refine ⟨by rw [List.length_map], fun _ => ⟨_, rfl, hW.size, fun i hi => ?_⟩, fun k hk => ?_, fun x hx => ?_, by omega⟩
  · rw [head_add, hW.cell i]; exact List.getElem?_eq_getElem hi
  · rw [List.getElem_map, (hq _ (List.getElem_mem hk)).1]
    exact ⟨none, 0, rfl, Row.nil _ _ _, by decide, fun _ => rfl⟩
  · obtain ⟨h1, h2, h3, h4, h5, h6⟩ := hq x hx
    unfold In64i; omega
theorem plain_no (l : List Nd) (hp : l.all bareB = true) : ∀ n ∈ l, n.tx = false → ∀ d ∈ n.sty, UntoldOK d := fun n hn _ d hd => by
  have := List.all_eq_true.1 hp n hn
  have h : n.sty = [] := by simp [bareB] at this; exact this.1.1
  rw [h] at hd; cases hd
theorem bad_plain (w : World) (g n : Nat) (l : List Nd) (hn : l.length = n) (hW : Whole w g 32 (plC l)) (hp : l.all bareB = true) (hl : l.length ≤ 100) (hof : ofB 100 l = false) : BadRow w (.slice (some ⟨g, 0, none⟩) n n) := by
  subst hn
  exact ⟨_, _, l, _, rfl, Nat.le_refl _, plain_low w g l hW hp hl, hof, plain_no l hp⟩
/-- .. with one declaration at the second one. -/
theorem bad_styled (w : World) (g gd : Nat) (d : Dc) (tx : Bool) (hW : Whole w g 32 (rowsC [root0, ⟨1, 0, tx, ⟨#[]⟩, [d]⟩] [noS, .slice (some ⟨gd, 0, none⟩) 1 1])) (hD : Whole w gd 57 (i64s [d.p, d.w, d.k, d.n]))
    (hof : ofB 100 [root0, ⟨1, 0, tx, ⟨#[]⟩, [d]⟩] = false) (hU : tx = false → UntoldOK d) : BadRow w (.slice (some ⟨g, 0, none⟩) 2 2) := by
  refine ⟨_, 2, [root0, ⟨1, 0, tx, ⟨#[]⟩, [d]⟩], [noS, .slice (some ⟨gd, 0, none⟩) 1 1], rfl, Nat.le_refl _, ⟨rfl, fun _ => ⟨_, rfl, hW.size, fun i hi => by rw [head_add, hW.cell i]; exact List.getElem?_eq_getElem hi⟩, fun k hk => ?_, fun x hx => ?_, by simp⟩, hof, fun n hn ht d' hd => ?_⟩
  · rcases k with _ | _ | k
    · exact ⟨none, 0, rfl, Row.nil _ _ _, Nat.zero_le _, fun _ => rfl⟩
    · refine ⟨some ⟨gd, 0, none⟩, 1, rfl, fun _ => ⟨_, rfl, hD.size, fun i hi => by rw [head_add, hD.cell i]; exact List.getElem?_eq_getElem hi⟩, (show 1 ≤ 1000000 by decide), fun e => by cases e⟩
    · simp at hk; omega
  · simp at hx
    rcases hx with rfl | rfl <;> (unfold In64i; simp [root0, ByteArray.size])
  · simp at hn
    rcases hn with rfl | rfl
    · simp [root0] at hd
    · simp at hd; subst hd; exact hU ht
theorem tn_vals (w : World) (G : Nat) (hH : ∀ (k : Nat) (t : TypeId) (cs : Array Value), (tnObjs G)[k]? = some (.cells cs t) → Whole w (G + k) t cs.toList) : ∀ i : Nat, i < 15 → ∃ v, w.cell? ⟨G + 17, i, none⟩ = some v ∧ BadRow w v := by
  have HO := hH 17 _ _ rfl
  intro i hi
  have h : i = 0 ∨ i = 1 ∨ i = 2 ∨ i = 3 ∨ i = 4 ∨ i = 5 ∨ i = 6 ∨ i = 7 ∨ i = 8 ∨ i = 9 ∨ i = 10 ∨ i = 11 ∨ i = 12 ∨ i = 13 ∨ i = 14 := by omega
  rcases h with rfl | rfl | rfl | rfl | rfl | rfl | rfl | rfl | rfl | rfl | rfl | rfl | rfl | rfl | rfl
  · exact ⟨_, (HO.cell 0).trans rfl, none, 0, [], [], rfl, Nat.le_refl _, ⟨rfl, Row.nil _ _ _, fun k hk => absurd hk (by simp), fun n hn => absurd hn (by simp), by simp⟩, rfl, fun n hn => absurd hn (by simp)⟩
  · exact ⟨_, (HO.cell 1).trans rfl, bad_plain w (G + 1) 1 [⟨1, (-1), false, ⟨#[]⟩, []⟩] rfl (hH 1 _ _ rfl) (by decide +kernel) (by decide) (by decide +kernel)⟩
  · exact ⟨_, (HO.cell 2).trans rfl, bad_plain w (G + 2) 1 [⟨0, 0, false, ⟨#[]⟩, []⟩] rfl (hH 2 _ _ rfl) (by decide +kernel) (by decide) (by decide +kernel)⟩
  · exact ⟨_, (HO.cell 3).trans rfl, bad_plain w (G + 3) 1 [⟨0, (-1), true, ⟨#[]⟩, []⟩] rfl (hH 3 _ _ rfl) (by decide +kernel) (by decide) (by decide +kernel)⟩
  · exact ⟨_, (HO.cell 4).trans rfl, bad_plain w (G + 4) 2 [⟨0, (-1), false, ⟨#[]⟩, []⟩, ⟨0, (-1), false, ⟨#[]⟩, []⟩] rfl (hH 4 _ _ rfl) (by decide +kernel) (by decide) (by decide +kernel)⟩
  · exact ⟨_, (HO.cell 5).trans rfl, bad_plain w (G + 5) 2 [⟨0, (-1), false, ⟨#[]⟩, []⟩, ⟨1, 2, false, ⟨#[]⟩, []⟩] rfl (hH 5 _ _ rfl) (by decide +kernel) (by decide) (by decide +kernel)⟩
  · exact ⟨_, (HO.cell 6).trans rfl, bad_plain w (G + 6) 3 [⟨0, (-1), false, ⟨#[]⟩, []⟩, ⟨1, 0, true, ⟨#[]⟩, []⟩, ⟨2, 1, false, ⟨#[]⟩, []⟩] rfl (hH 6 _ _ rfl) (by decide +kernel) (by decide) (by decide +kernel)⟩
  · exact ⟨_, (HO.cell 7).trans rfl, bad_plain w (G + 7) 2 [⟨0, (-1), false, ⟨#[]⟩, []⟩, ⟨1001, 0, false, ⟨#[]⟩, []⟩] rfl (hH 7 _ _ rfl) (by decide +kernel) (by decide) (by decide +kernel)⟩
  · exact ⟨_, (HO.cell 8).trans rfl, bad_plain w (G + 8) 2 [⟨0, (-1), false, ⟨#[]⟩, []⟩, ⟨(-1), 0, false, ⟨#[]⟩, []⟩] rfl (hH 8 _ _ rfl) (by decide +kernel) (by decide) (by decide +kernel)⟩
  · exact ⟨_, (HO.cell 9).trans rfl, bad_plain w (G + 9) 3 [⟨0, (-1), false, ⟨#[]⟩, []⟩, ⟨1, 0, false, ⟨#[]⟩, []⟩, ⟨1, 0, false, ⟨#[]⟩, []⟩] rfl (hH 9 _ _ rfl) (by decide +kernel) (by decide) (by decide +kernel)⟩
  · exact ⟨_, (HO.cell 10).trans rfl, bad_plain w (G + 10) 2 [⟨0, (-1), false, ⟨#[]⟩, []⟩, ⟨1, 0, false, ⟨#[97]⟩, []⟩] rfl (hH 10 _ _ rfl) (by decide +kernel) (by decide) (by decide +kernel)⟩
  · exact ⟨_, (HO.cell 11).trans rfl, bad_styled w (G + 12) (G + 11) ⟨1, 0, 0, 0⟩ true (hH 12 _ _ rfl) (hH 11 _ _ rfl) (by decide +kernel) (fun h => by cases h)⟩
  · exact ⟨_, (HO.cell 12).trans rfl, bad_styled w (G + 14) (G + 13) ⟨0, 0, 0, 0⟩ false (hH 14 _ _ rfl) (hH 13 _ _ rfl) (by decide +kernel) (fun _ => untold0)⟩
  · exact ⟨_, (HO.cell 13).trans rfl, bad_plain w (G + 15) 4 [⟨0, (-1), false, ⟨#[]⟩, []⟩, ⟨1, 0, false, ⟨#[]⟩, []⟩, ⟨2, 0, false, ⟨#[]⟩, []⟩, ⟨3, 1, false, ⟨#[]⟩, []⟩] rfl (hH 15 _ _ rfl) (by decide +kernel) (by decide) (by decide +kernel)⟩
  · exact ⟨_, (HO.cell 14).trans rfl, bad_plain w (G + 16) 2 [⟨0, (-1), false, ⟨#[]⟩, []⟩, ⟨1, 1, false, ⟨#[]⟩, []⟩] rfl (hH 16 _ _ rfl) (by decide +kernel) (by decide) (by decide +kernel)⟩
def gdL : List Nd := [root0, ⟨1000, 0, false, ⟨#[]⟩, []⟩, ⟨1, 1000, true, ⟨#[]⟩, []⟩]
def gdC : Array Value := #[.int .i64 0, .int .i64 (-1), .bool false, .string ⟨#[]⟩, .slice none 0 0, .int .i64 1000, .int .i64 0, .bool false, .string ⟨#[]⟩, .slice none 0 0, .int .i64 1, .int .i64 1000, .bool true, .string ⟨#[]⟩, .slice none 0 0]
theorem gd_of (w0 : World) (w : World) (h : Whole w w0.heap.size 32 gdC.toList) : Calls Tryz.prog 9 #[.int .i64 100, .slice (some ⟨w0.heap.size, 0, none⟩) 3 3] w fun e w' => (∃ p, e = .returned (.tuple #[.pointer p, .bool true])) ∧ Below w.heap.size w w' := by
  refine (tof_any 100 _ 3 gdL _ w (plain_low w _ gdL h (by decide +kernel) (by decide)) (Nat.le_refl _) (plain_no gdL (by decide +kernel))).mono ?_
  rintro e w' ⟨h1, h2⟩
  unfold OfPost at h1
  rw [if_pos (by decide +kernel)] at h1
  obtain ⟨t, h3, -⟩ := h1
  exact ⟨⟨_, h3⟩, h2⟩
theorem treeNone_any (a : Int) (W : World) :
    Calls Tryz.prog 7 #[.int .i64 a] W fun e w' => e = .returned (.bool true) ∧ Below W.heap.size W w' := by
  have a8 : ∀ x : Int, bits .and .i64 x 255 = x % 256 := fun x => and_mask_i64 x 8 (by decide)
  obtain ⟨i, hi, hi2⟩ : ∃ i : Nat, a % 256 % 15 = i ∧ i < 15 := ⟨(a % 256 % 15).toNat, by omega, by omega⟩
  go_enter Tryz.func7, Tryz.ntmps7
  go_upto_region 3 with fail
  generalize hw : ((World.alloc (World.alloc (World.alloc (World.alloc (World.alloc (World.alloc (World.alloc (World.alloc (World.alloc (World.alloc (World.alloc (World.alloc (World.alloc (World.alloc (World.alloc (World.alloc (World.alloc (World.alloc W _) _) _) _) _) _) _) _) _) _) _) _) _) _) _) _) _) _) : World) = w1
  have hw1 : addAll W (tnObjs W.heap.size) = w1 := hw
  have HH := Lib.hid (fun (k : Nat) (t : TypeId) (cs : Array Value) (h : (tnObjs W.heap.size)[k]? = some (.cells cs t)) => (by rw [← hw1]; exact addAll_whole W _ k t cs h : Whole w1 (W.heap.size + k) t cs.toList))
  have B1 := Lib.hid (by rw [← hw1]; exact addAll_below _ W.heap.size W W (Below.refl _ _) (Nat.le_refl _) : Below W.heap.size W w1)
  clear hw hw1
  obtain ⟨v, hv, hb⟩ := tn_vals w1 W.heap.size HH.out i hi2
  obtain ⟨A, c, l, svs, rfl, hc, hN, hof, hU⟩ := hb
  have X1 : Hid (Whole w1 W.heap.size 32 [.int .i64 0, .int .i64 (-1), .bool false, .string ⟨#[]⟩, .slice none 0 0]) := Lib.hid (HH.out 0 _ _ rfl)
  have OF : Hid (Calls Tryz.prog 9 #[.int .i64 100, .slice A l.length c] w1 fun e w' => e = .returned (.tuple #[.pointer none, .bool false]) ∧ Below w1.heap.size w1 w') := Lib.hid (by
    refine (tof_any 100 A c l svs w1 hN hc hU).mono ?_
    rintro e w' ⟨h1, h2⟩
    unfold OfPost at h1
    rw [if_neg (by rw [hof]; decide)] at h1
    exact ⟨h1, h2⟩)
  clear HH hN hof hU hc
  generalize l.length = m at *
  go_wp2_with fail
  refine OF.out.mono ?_
  rintro e w2 ⟨rfl, hb⟩
  have X2 := Lib.hid (X1.out.under hb X1.out.size)
  have B2 := Lib.hid (B1.out.trans (hb.mono B1.out.size))
  clear hb X1 B1 OF hv
  have hsz := B2.out.size
  have x0 : w2.cell? ⟨W.heap.size, 0, none⟩ = some (.int .i64 0) := X2.out.cell 0
  have x1 : w2.cell? ⟨W.heap.size, 1, none⟩ = some (.int .i64 (-1)) := X2.out.cell 1
  have x2 : w2.cell? ⟨W.heap.size, 2, none⟩ = some (.bool false) := X2.out.cell 2
  have x3 : w2.cell? ⟨W.heap.size, 3, none⟩ = some (.string ⟨#[]⟩) := X2.out.cell 3
  have x4 : w2.cell? ⟨W.heap.size, 4, none⟩ = some (.slice none 0 0) := X2.out.cell 4
  have B3 := Lib.hid (B2.out.alloc hsz (.cells gdC 32))
  have X3 := Lib.hid (Whole.mk w2 32 gdC)
  clear X2
  go_wp2_with fail
  refine (gd_of w2 _ X3.out).mono ?_
  rintro e w4 ⟨⟨p, rfl⟩, hb⟩
  have B4 := Lib.hid (B3.out.trans (hb.mono B3.out.size))
  clear hb x0 x1 x2 x3 x4 X3 B3
  go_wp2_with fail
  refine (lawake6_any _).mono ?_
  rintro e w5 ⟨rfl, hb⟩
  have B5 := Lib.hid (B4.out.trans (hb.mono B4.out.size))
  go_wp2_with fail
  go_ret
  exact ⟨rfl, B5.out⟩
end Go.Proofs.YtpbfdfpedpfemaaGreatDoor
