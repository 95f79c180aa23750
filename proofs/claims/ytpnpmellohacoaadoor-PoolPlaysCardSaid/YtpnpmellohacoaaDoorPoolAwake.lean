import Derived.Test.YtpnpmellohacoaaDoorPoolFree
import Derived.Test.YtpnpmellohacoaaDoorAsAllE
/- awake of layer 3. -/
namespace Go.Proofs.YtpnpmellohacoaaDoor
open Go Go.RowKit
set_option linter.unusedVariables false
set_option linter.unusedSimpArgs false

theorem not_in {S S' : List Nat} {w : World} {r : Nat} (hg : ∀ x ∈ S', x ∈ S ∨ w.heap.size ≤ x) (hr : r < w.heap.size) (hn : r ∉ S) : r ∉ S' := fun h => by
  rcases hg r h with h | h
  · exact hn h
  · omega
theorem base_in {S S' : List Nat} {w : World} {B : Nat} (hg : ∀ x ∈ S', x ∈ S ∨ w.heap.size ≤ x) (hS : ∀ x ∈ S, B ≤ x) (hB : B ≤ w.heap.size) : ∀ x ∈ S', B ≤ x := fun x hx => by
  rcases hg x hx with h | h
  · exact hS x h
  · omega
/-- A pool whose blocks all are new from B on. -/
structure PB (B : Nat) (w : World) (g : Nat) (most : Int) (pl : Pl) (T : Int) (S : List Nat) : Prop where
  pool : Pool w g most pl T S
  base : ∀ x ∈ S, B ≤ x
  room : B ≤ w.heap.size
def PTake (B : Nat) (g : Nat) (most : Int) (pl : Pl) (T : Int) (S : List Nat) (w : World) (e : Ending) (w' : World) : Prop :=
  e = .returned (.tuple #[hv (leastF pl) (turnOf pl (leastF pl) + 1), .nilIface]) ∧ ∃ S', PB B w' g most (takeP pl) (T + 1) S' ∧ Only S w w' ∧ (∀ r, r < w.heap.size → r ∉ S → r ∉ S') ∧ Below B w w'
theorem ptake (B g : Nat) (most : Int) (pl : Pl) (T : Int) (S : List Nat) (w : World) (h : PB B w g most pl T S) (hf : (countP pl : Int) < most) (hT : T + 1 ≤ 1000000) :
    Calls Tryd.prog 7 #[.pointer (some ⟨g, 0, none⟩)] w (PTake B g most pl T S w) :=
  (take_any g most pl T S w h.pool hf hT).mono fun e w' ⟨he, S', hp, ho, hg⟩ => ⟨he, S', ⟨hp, base_in hg h.base h.room, Nat.le_trans h.room ho.size⟩, ho, fun r hr hn => not_in hg hr hn, ho.below h.base h.room⟩
def PFree (B : Nat) (g : Nat) (most : Int) (pl : Pl) (k : Nat) (T : Int) (S : List Nat) (w : World) (e : Ending) (w' : World) : Prop :=
  e = .returned .nilIface ∧ ∃ S', PB B w' g most (freeP pl k) T S' ∧ Only S w w' ∧ (∀ r, r < w.heap.size → r ∉ S → r ∉ S') ∧ Below B w w'
theorem pfree (B g : Nat) (most : Int) (pl : Pl) (T : Int) (S : List Nat) (k : Nat) (t : Int) (w : World) (h : PB B w g most pl T S) (ht : takenOf pl k = true) (hu : turnOf pl k = t) :
    Calls Tryd.prog 8 #[.pointer (some ⟨g, 0, none⟩), hv k t] w (PFree B g most pl k T S w) :=
  (free_any g most pl T S k t w h.pool ht hu).mono fun e w' ⟨he, S', hp, ho, hg⟩ => ⟨he, S', ⟨hp, base_in hg h.base h.room, Nat.le_trans h.room ho.size⟩, ho, fun r hr hn => not_in hg hr hn, ho.below h.base h.room⟩
theorem pfree_at {p : Int} (B g : Nat) (most : Int) (pl : Pl) (T : Int) (S : List Nat) (k : Nat) (t : Int) (w : World) (h : PB B w g most pl T S) (hk : p = k) (ht : takenOf pl k = true) (hu : turnOf pl k = t) :
    Calls Tryd.prog 8 #[.pointer (some ⟨g, 0, none⟩), hv p t] w (PFree B g most pl k T S w) := by
  subst hk; exact pfree B g most pl T S k t w h ht hu
theorem PB.below {B g : Nat} {most T : Int} {pl : Pl} {S : List Nat} {w w' : World} (h : PB B w g most pl T S) (hb : Below w.heap.size w w') : PB B w' g most pl T S := ⟨h.pool.below hb, h.base, Nat.le_trans h.room hb.size⟩
theorem PB.alloc {B g : Nat} {most T : Int} {pl : Pl} {S : List Nat} {w : World} (h : PB B w g most pl T S) (o : Obj) : PB B (w.alloc o) g most pl T S := h.below ((Below.refl _ w).alloc (Nat.le_refl _) _)
theorem PB.set {B g : Nat} {most T : Int} {pl : Pl} {S : List Nat} {w : World} (h : PB B w g most pl T S) {p : Addr} (hp : p.block ∉ S) (u : Value) : PB B (w.setCell p u) g most pl T S :=
  ⟨h.pool.only (S' := [p.block]) ((Only.refl _ w).setCell p (.inl (by simp)) u) (fun x hx => by simp; intro e; subst e; exact hp hx), h.base, by simpa [World.setCell] using h.room⟩
theorem PB.out {B g : Nat} {most T : Int} {pl : Pl} {S : List Nat} {w : World} (h : PB B w g most pl T S) {r : Nat} (hr : w.heap.size ≤ r) : r ∉ S := fun hm => by have := h.pool.lt r hm; omega
set_option maxHeartbeats 4000000 in
theorem awake_any (w : World) (hE : ErrTab w) : Calls Tryd.prog 11 #[] w fun e w' => e = .returned (.bool true) ∧ Below w.heap.size w w' := by
  have HE := Lib.hid hE
  have hlt := hE.lt
  clear hE
  go_enter Tryd.func11, Tryd.ntmps11
  go_wp2_with fail
  refine (new_any 1 w).mono ?_
  rintro e w1 ⟨rfl, hp1, hb1⟩
  have P1 : PB w.heap.size w1 w.heap.size 1 [] 0 [w.heap.size] := ⟨hp1, by simp, hb1.size⟩
  have B1 := Lib.hid hb1
  clear hp1 hb1
  go_wp2_with fail
  refine (ptake _ _ _ _ _ _ w1 P1 (by decide) (by decide)).mono ?_
  rintro e w2 ⟨he, S2, P2, O2, N2, b2⟩
  obtain rfl : e = .returned (.tuple #[.agg #[.int .i64 0, .int .i64 1], .nilIface]) := he
  have B2 := Lib.hid (B1.out.trans b2)
  have HP2 : Hid (PB w.heap.size w2 w.heap.size 1 [(1, true)] 1 S2) := P2
  clear P1 O2 N2 b2 B1 P2
  go_wp2_with fail
  have H2 := Lib.hid (Whole.mk w2 27 #[.int .i64 0, .int .i64 1])
  have B2' := Lib.hid (B2.out.alloc (o := .cells #[.int .i64 0, .int .i64 1] 27) HP2.out.room)
  have HP2' := Lib.hid (HP2.out.alloc (.cells #[.int .i64 0, .int .i64 1] 27))
  have hn2 : w2.heap.size ∉ S2 := HP2.out.out (Nat.le_refl _)
  have z2 := HP2.out.room
  clear B2 HP2
  refine (take_full _ _ _ _ _ _ HP2'.out.pool (by decide)).mono ?_
  rintro e w3 ⟨rfl, hb3⟩
  have H3 := Lib.hid (H2.out.under hb3 H2.out.size)
  have B3 := Lib.hid (B2'.out.trans (hb3.mono HP2'.out.room))
  have HP3 := Lib.hid (HP2'.out.below hb3)
  have r3 : w2.heap.size < w3.heap.size := H3.out.size
  clear H2 B2' HP2' hb3
  have c0 : w3.cell? ⟨w2.heap.size, 0, none⟩ = some (.int .i64 0) := H3.out.cell 0
  have c1 : w3.cell? ⟨w2.heap.size, 1, none⟩ = some (.int .i64 1) := H3.out.cell 1
  go_wp2_with fail
  have H4 := Lib.hid (H3.out.made (.cells #[.int .i64 0, .int .i64 0] 27))
  have B4 := Lib.hid (B3.out.alloc (o := .cells #[.int .i64 0, .int .i64 0] 27) HP3.out.room)
  have HP4 := Lib.hid (HP3.out.alloc (.cells #[.int .i64 0, .int .i64 0] 27))
  clear H3 B3 HP3 c0 c1
  refine (pfree_at _ _ _ _ _ _ 0 1 _ HP4.out (by rfl) (by rfl) (by rfl)).mono ?_
  rintro e w4 ⟨rfl, S4, P4, O4, N4, b4⟩
  have hn4 := N4 _ H4.out.size hn2
  have H5 := Lib.hid (O4.whole H4.out hn2)
  have B5 := Lib.hid (B4.out.trans b4)
  have HP5 : Hid (PB w.heap.size w4 w.heap.size 1 [(1, false)] 1 S4) := P4
  clear H4 B4 HP4 P4 O4 N4 b4 hn2 r3
  go_wp2_with fail
  refine (ptake _ _ _ _ _ _ w4 HP5.out (by decide) (by decide)).mono ?_
  rintro e w5 ⟨he, S5, P5, O5, N5, b5⟩
  obtain rfl : e = .returned (.tuple #[.agg #[.int .i64 0, .int .i64 2], .nilIface]) := he
  have H6 := Lib.hid (O5.whole H5.out hn4)
  have B6 := Lib.hid (B5.out.trans b5)
  have HP6 : Hid (PB w.heap.size w5 w.heap.size 1 [(2, true)] 2 S5) := P5
  have r5 : w2.heap.size < w5.heap.size := H6.out.size
  clear H5 B5 HP5 P5 O5 N5 b5 hn4
  have c0 : w5.cell? ⟨w2.heap.size, 0, none⟩ = some (.int .i64 0) := H6.out.cell 0
  have c1 : w5.cell? ⟨w2.heap.size, 1, none⟩ = some (.int .i64 1) := H6.out.cell 1
  go_wp2_with fail
  have H7 := Lib.hid (H6.out.made (.cells #[.int .i64 0, .int .i64 2] 27))
  have G7 := Lib.hid (Whole.mk w5 27 #[.int .i64 0, .int .i64 2])
  have B7 := Lib.hid (B6.out.alloc (o := .cells #[.int .i64 0, .int .i64 2] 27) HP6.out.room)
  have HP7 := Lib.hid (HP6.out.alloc (.cells #[.int .i64 0, .int .i64 2] 27))
  clear H6 B6 HP6 c0 c1
  refine (code_errno 2 _ (HE.out.below B7.out hlt)).mono ?_
  rintro e w6 ⟨rfl, b⟩
  have H8 := Lib.hid (H7.out.under b H7.out.size)
  have G8 := Lib.hid (G7.out.under b G7.out.size)
  have B8 := Lib.hid (B7.out.trans (b.mono HP7.out.room))
  have HP8 := Lib.hid (HP7.out.below b)
  clear H7 G7 B7 HP7 b
  have d0 : w6.cell? ⟨w5.heap.size, 0, none⟩ = some (.int .i64 0) := G8.out.cell 0
  have d1 : w6.cell? ⟨w5.heap.size, 1, none⟩ = some (.int .i64 2) := G8.out.cell 1
  go_wp2_with fail
  refine (poolHas_any _ _ _ _ _ 0 2 _ HP8.out.pool).mono ?_
  rintro e w7 ⟨he, b⟩
  obtain rfl : e = .returned (.bool true) := he
  have H9 := Lib.hid (H8.out.under b H8.out.size)
  have B9 := Lib.hid (B8.out.trans (b.mono HP8.out.room))
  have HP9 := Lib.hid (HP8.out.below b)
  clear H8 G8 B8 HP8 b d0 d1
  have c0 : w7.cell? ⟨w2.heap.size, 0, none⟩ = some (.int .i64 0) := H9.out.cell 0
  have c1 : w7.cell? ⟨w2.heap.size, 1, none⟩ = some (.int .i64 1) := H9.out.cell 1
  go_wp2_with fail
  refine (poolHas_any _ _ _ _ _ 0 1 _ HP9.out.pool).mono ?_
  rintro e w8 ⟨he, b⟩
  obtain rfl : e = .returned (.bool false) := he
  have B10 := Lib.hid (B9.out.trans (b.mono HP9.out.room))
  have HP10 := Lib.hid (HP9.out.below b)
  clear H9 B9 HP9 b c0 c1
  go_wp2_with fail
  refine (poolLen_any _ _ _ _ _ _ HP10.out.pool).mono ?_
  rintro e w9 ⟨he, b⟩
  obtain rfl : e = .returned (.int .i64 1) := he
  have B11 := Lib.hid (B10.out.trans (b.mono HP10.out.room))
  clear B10 HP10 b
  go_wp2
  go_ret
  exact ⟨rfl, B11.out⟩
end Go.Proofs.YtpnpmellohacoaaDoor
