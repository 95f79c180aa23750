import Derived.Test.YtpnpmellohacoaaDoorRefPool
import Derived.Test.YtpnpmellohacoaaDoorLeastNum
/- What PoolPlays keeps: a pool, the document's one, the handles that were told. -/
namespace Go.Proofs.YtpnpmellohacoaaDoor
open Go Go.RowKit
set_option linter.unusedVariables false
set_option linter.unusedSimpArgs false

structure Pls (B : Nat) (w : World) (g N : Nat) (pl : Pl) (T : Int) (S : List Nat) (gw bT bK : Nat) (rl : Pl) (U : Int) (A : Option Addr) (L c : Nat) (hs : List (Int × Int)) : Prop where
  pb : PB B w g N pl T S
  rf : RefAt w gw bT bK N rl U
  all : Beside B w S 27 2 (.slice A L c) L (hCells hs)
  nW : gw ∉ S
  nT : bT ∉ S
  nK : bK ∉ S
  lo : B ≤ bT ∧ B ≤ bK
section
variable {B g N gw bT bK L c r : Nat} {w w' : World} {pl pl' rl rl' : Pl} {T T' U U' : Int} {S S' : List Nat} {A : Option Addr} {hs : List (Int × Int)} {cs : List Value}
theorem Pls.below (h : Pls B w g N pl T S gw bT bK rl U A L c hs) (hb : Below w.heap.size w w') : Pls B w' g N pl T S gw bT bK rl U A L c hs :=
  ⟨h.pb.below hb, h.rf.below hb, h.all.below hb, h.nW, h.nT, h.nK, h.lo⟩
theorem Pls.alloc (h : Pls B w g N pl T S gw bT bK rl U A L c hs) (o : Obj) : Pls B (w.alloc o) g N pl T S gw bT bK rl U A L c hs := h.below ((Below.refl _ w).alloc (Nat.le_refl _) _)
theorem Pls.room (h : Pls B w g N pl T S gw bT bK rl U A L c hs) : B ≤ w.heap.size := h.pb.room
/-- Something was done to the pool. -/
theorem Pls.pool (h : Pls B w g N pl T S gw bT bK rl U A L c hs) (hp : PB B w' g N pl' T' S') (ho : Only S w w') (hN : ∀ r, r < w.heap.size → r ∉ S → r ∉ S') : Pls B w' g N pl' T' S' gw bT bK rl U A L c hs :=
  ⟨hp, h.rf.only ho h.nW h.nT h.nK, h.all.step ho hN, hN _ h.rf.whole.size h.nW, hN _ (owns_lt h.rf.turns rfl) h.nT, hN _ (owns_lt h.rf.taken rfl) h.nK, h.lo⟩
/-- .. to the document's. -/
theorem Pls.ref (h : Pls B w g N pl T S gw bT bK rl U A L c hs) (hr : RefAt w' gw bT bK N rl' U') (ho : Only [bT, bK] w w') : Pls B w' g N pl T S gw bT bK rl' U' A L c hs ∧ Below B w w' := by
  refine ⟨⟨h.pb.only ho fun x hx hm => ?_, hr, h.all.apart ho fun k hk hm => ?_, h.nW, h.nT, h.nK, h.lo⟩, ho.below (fun x hx => ?_) h.room⟩
  · simp at hm; rcases hm with rfl | rfl
    · exact h.nT hx
    · exact h.nK hx
  · simp at hm; rcases hm with rfl | rfl
    · exact owns_ne h.all.row h.rf.turns (by decide) hk rfl
    · exact owns_ne h.all.row h.rf.taken (by decide) hk rfl
  · simp at hx; rcases hx with rfl | rfl
    · exact h.lo.1
    · exact h.lo.2
theorem Pls.keepR (h : Pls B w g N pl T S gw bT bK rl U A L c hs) (hw : Whole w r 27 cs) (ho : Only [bT, bK] w w') : Whole w' r 27 cs :=
  ho.whole hw fun hm => by
    simp at hm; rcases hm with rfl | rfl
    · exact whole_ne hw h.rf.turns (by decide) rfl
    · exact whole_ne hw h.rf.taken (by decide) rfl
theorem Pls.pushed {A' : Option Addr} {c' : Nat} {p t : Int} (h : Pls B w g N pl T S gw bT bK rl U A L c hs) (hr : w'.ownsRow 0 27 2 (.slice A' (L + 1) c') (L + 1) (hCells hs ++ [.int .i64 p, .int .i64 t])) (ho : Only (Value.slice A L c).ownBlock.toList w w')
    (hg : ∀ g, (Value.slice A' (L + 1) c').ownBlock = some g → (Value.slice A L c).ownBlock = some g ∨ w.heap.size ≤ g) : Pls B w' g N pl T S gw bT bK rl U A' (L + 1) c' (hs ++ [(p, t)]) ∧ Below B w w' := by
  obtain ⟨p1, l1, b1⟩ := Beside.pushed h.pb h.all hr ho hg
  refine ⟨⟨p1, h.rf.only ho (fun hm => ?_) (fun hm => ?_) (fun hm => ?_), by rw [hCells_append]; exact l1, h.nW, h.nT, h.nK, h.lo⟩, b1⟩
  · exact whole_ne h.rf.whole h.all.row (by decide) (by simpa using hm)
  · exact owns_ne h.rf.turns h.all.row (by decide) (g := bT) rfl (by simpa using hm)
  · exact owns_ne h.rf.taken h.all.row (by decide) (g := bK) rfl (by simpa using hm)
/-- A variable's block was written, that is none of these. -/
theorem Pls.var (h : Pls B w g N pl T S gw bT bK rl U A L c hs) (ho : Only [r] w w') (hw : Whole w r 27 cs) (hS : r ∉ S) (hA : ∀ k, (Value.slice A L c).ownBlock = some k → k ≠ r) : Pls B w' g N pl T S gw bT bK rl U A L c hs := by
  refine ⟨h.pb.only ho fun x hx hm => ?_, h.rf.only ho (fun hm => ?_) (fun hm => ?_) (fun hm => ?_), h.all.apart ho fun k hk hm => hA k hk (by simpa using hm), h.nW, h.nT, h.nK, h.lo⟩
  · simp at hm; subst hm; exact hS hx
  · have e : gw = r := by simpa using hm
    subst e
    have h1 : w.heap[gw]? = _ := h.rf.whole
    have h2 : w.heap[gw]? = _ := hw
    rw [h1] at h2
    simp at h2
  · exact whole_ne hw h.rf.turns (by decide) (by simp at hm; simp [Value.ownBlock, hm])
  · exact whole_ne hw h.rf.taken (by decide) (by simp at hm; simp [Value.ownBlock, hm])
theorem Pls.mono (h : Pls B w g N pl T S gw bT bK rl U A L c hs) (h1 : T ≤ T') (h2 : T' ≤ 1000000) (h3 : U ≤ U') (h4 : U' ≤ 1000000) : Pls B w g N pl T' S gw bT bK rl U' A L c hs :=
  ⟨h.pb.mono h1 h2, ⟨h.rf.whole, h.rf.turns, h.rf.taken, h.rf.len, h.rf.most, fun i => ⟨(h.rf.turn i).1, by have := (h.rf.turn i).2; omega⟩, h4⟩, h.all, h.nW, h.nT, h.nK, h.lo⟩
end
/-- The variable h: its block, its two numbers; apart from all else. -/
structure HVar (B : Nat) (w : World) (S : List Nat) (A : Option Addr) (L c r : Nat) (p t : Int) : Prop where
  whole : Whole w r 27 [.int .i64 p, .int .i64 t]
  offS : r ∉ S
  offA : ∀ k, (Value.slice A L c).ownBlock = some k → k ≠ r
  base : B ≤ r
theorem HVar.below {B : Nat} {w w' : World} {S : List Nat} {A : Option Addr} {L c r : Nat} {p t : Int} (h : HVar B w S A L c r p t) (hb : Below w.heap.size w w') : HVar B w' S A L c r p t := ⟨h.whole.under hb h.whole.size, h.offS, h.offA, h.base⟩
theorem HVar.put {B : Nat} {w : World} {S : List Nat} {A : Option Addr} {L c r : Nat} {p t : Int} (h : HVar B w S A L c r p t) (p' t' : Int) : HVar B ((w.setCell ⟨r, 0, none⟩ (.int .i64 p')).setCell ⟨r, 1, none⟩ (.int .i64 t')) S A L c r p' t' := ⟨(h.whole.put 0 _).put 1 _, h.offS, h.offA, h.base⟩
theorem two_cells (w : World) (r : Nat) (u v : Value) : Only [r] w ((w.setCell ⟨r, 0, none⟩ u).setCell ⟨r, 1, none⟩ v) := ((Only.refl _ w).setCell _ (.inl (by simp)) _).setCell _ (.inl (by simp)) _
end Go.Proofs.YtpnpmellohacoaaDoor
