import Derived.Test.YtodnplllkpgfaaaZQ
import Derived.Test.YtodnplllkpgfaaaFlexMemQ
/- free's line in memory: its own block, the row of those that are open, the row of sizes. -/
namespace Go.Proofs.Ytodnplllkpgfaaa
open Go Go.RowKit
set_option linter.unusedVariables false
set_option linter.unusedSimpArgs false

/-- A line at block gp, its sizes at block gz, its open ones in an own row. -/
structure Ln (W w : World) (gp gz n : Nat) (it : Value) (room : Int) (gr : Bool) (Ao : Option Addr) (mo co : Nat) (os zs : List Value) : Prop where
  cell : Whole w gp 45 [it, .int .i64 room, .bool gr, .slice Ao mo co, .slice (some ⟨gz, 0, none⟩) n n]
  zrow : RowG w W.heap.size 2 gz n zs
  orow : w.ownsRow W.heap.size 3 1 (.slice Ao mo co) mo os
  npz : gp ≠ gz
  npo : ∀ g, (Value.slice Ao mo co).ownBlock = some g → g ≠ gp ∧ g ≠ gz
  low : Below W.heap.size W w
  gpl : W.heap.size ≤ gp
section
variable {W w w' : World} {gp gz n : Nat} {it : Value} {room : Int} {gr : Bool} {Ao : Option Addr} {mo co : Nat} {os zs : List Value}
theorem Ln.behind (h : Ln W w gp gz n it room gr Ao mo co os zs) (hb : Below w.heap.size w w') : Ln W w' gp gz n it room gr Ao mo co os zs :=
  ⟨h.cell.under hb h.cell.size, own_below h.zrow hb (Nat.le_refl _), own_below h.orow hb (Nat.le_refl _), h.npz, h.npo, h.low.trans (hb.mono h.low.size), h.gpl⟩
theorem Ln.putZ (h : Ln W w gp gz n it room gr Ao mo co os zs) (j : Nat) (u : Value) : Ln W (w.setCell ⟨gz, j, none⟩ u) gp gz n it room gr Ao mo co os (zs.set j u) :=
  ⟨h.cell.other h.npz u, rowG_put h.zrow j u, own_off h.orow (fun g hg => (h.npo g hg).2) j u, h.npz, h.npo, below_put h.low (rowG_lt h.zrow).1 j u, h.gpl⟩
theorem Ln.putRoom (h : Ln W w gp gz n it room gr Ao mo co os zs) (r : Int) : Ln W (w.setCell ⟨gp, 1, none⟩ (.int .i64 r)) gp gz n it r gr Ao mo co os zs :=
  ⟨h.cell.put 1 _, rowG_off h.zrow (Ne.symm h.npz) 1 _, own_off h.orow (fun g hg => (h.npo g hg).1) 1 _, h.npz, h.npo, below_put h.low h.gpl 1 _, h.gpl⟩
theorem Ln.putGr (h : Ln W w gp gz n it room gr Ao mo co os zs) (b : Bool) : Ln W (w.setCell ⟨gp, 2, none⟩ (.bool b)) gp gz n it room b Ao mo co os zs :=
  ⟨h.cell.put 2 _, rowG_off h.zrow (Ne.symm h.npz) 2 _, own_off h.orow (fun g hg => (h.npo g hg).1) 2 _, h.npz, h.npo, below_put h.low h.gpl 2 _, h.gpl⟩
/-- Another row of those that are open. -/
theorem Ln.putO {A' : Option Addr} {m' c' : Nat} {os' : List Value} (h : Ln W w gp gz n it room gr Ao mo co os zs) (ho : w.ownsRow W.heap.size 3 1 (.slice A' m' c') m' os') (hn : ∀ g, (Value.slice A' m' c').ownBlock = some g → g ≠ gp ∧ g ≠ gz) :
    Ln W (w.setCell ⟨gp, 3, none⟩ (.slice A' m' c')) gp gz n it room gr A' m' c' os' zs :=
  ⟨h.cell.put 3 _, rowG_off h.zrow (Ne.symm h.npz) 3 _, own_off ho (fun g hg => (hn g hg).1) 3 _, h.npz, hn, below_put h.low h.gpl 3 _, h.gpl⟩
/-- One more among them: behind the append, and behind its store. -/
theorem Ln.pushed {A' : Option Addr} {c' : Nat} {u : Value} (h : Ln W w gp gz n it room gr Ao mo co os zs) (ho : w'.ownsRow W.heap.size 3 1 (.slice A' (mo + 1) c') (mo + 1) (os ++ [u])) (hn : Only (Value.slice Ao mo co).ownBlock.toList w w')
    (hk : ∀ g, (Value.slice A' (mo + 1) c').ownBlock = some g → (Value.slice Ao mo co).ownBlock = some g ∨ w.heap.size ≤ g) :
    Ln W (w'.setCell ⟨gp, 3, none⟩ (.slice A' (mo + 1) c')) gp gz n it room gr A' (mo + 1) c' (os ++ [u]) zs ∧
    Whole w' gp 45 [it, .int .i64 room, .bool gr, .slice Ao mo co, .slice (some ⟨gz, 0, none⟩) n n] ∧ Below W.heap.size W w' := by
  have lz := rowG_lt h.zrow
  have lp := h.cell.size
  have c1 := hn.whole h.cell fun hm => (h.npo gp (by simpa using hm)).1 rfl
  have z1 : RowG w' W.heap.size 2 gz n zs := hn.owns h.zrow fun k hk hm => by
    have e1 : gz = k := by simpa [Value.ownBlock] using hk
    subst e1
    exact (h.npo gz (by simpa using hm)).2 rfl
  have b1 := own_push h.orow h.low h.low.size hn
  have n1 : ∀ g, (Value.slice A' (mo + 1) c').ownBlock = some g → g ≠ gp ∧ g ≠ gz := fun g hg => by
    rcases hk g hg with h1 | h1
    · exact h.npo g h1
    · exact ⟨by omega, by omega⟩
  exact ⟨⟨c1.put 3 _, rowG_off z1 (Ne.symm h.npz) 3 _, own_off ho (fun g hg => (n1 g hg).1) 3 _, h.npz, n1, below_put b1 h.gpl 3 _, h.gpl⟩, c1, b1⟩
/-- The place in the row of those that are open. -/
theorem Ln.plc {l : List Nat} (h : Ln W w gp gz n it room gr Ao l.length co (plcV l) zs) {m : Nat} (hm : m < l.length) : ∃ ad, Ao = some ad ∧ ad.block < w.heap.size ∧ w.cell? (ad.add m) = some (.int .i64 l[m]) := by
  have h1 := row_of_own h.orow
  have h2 : plcV l = i64s (l.map Int.ofNat) := by simp [plcV, i64s]
  rw [h2] at h1
  obtain ⟨ad, e, hb, hc⟩ := h1.int (k := m) (by simpa using hm)
  refine ⟨ad, e, hb, ?_⟩
  rw [hc]; simp
end
theorem plcV_len (l : List Nat) : (plcV l).length = l.length := by simp [plcV]
theorem nowV_len (l : List It) : (nowV l).length = l.length := by simp [nowV]
theorem nowV_get {l : List It} {k : Nat} (h : k < l.length) : (nowV l)[k]? = some (.int .i64 (nowI l[k])) := by simp [nowV, h]
/-- A line in memory on its way: the items l, whose state is st. -/
def LnSt (W w : World) (gp gz n : Nat) (A : Option Addr) (c : Nat) (inner : Int) (gr : Bool) (st : List It) : Prop :=
  ∃ Ao co, Ln W w gp gz n (.slice A n c) (roomF inner (st.map It.x)) gr Ao (plcI 0 st).length co (plcV (plcI 0 st)) (nowV st)
theorem LnSt.behind {W w w' : World} {gp gz n : Nat} {A : Option Addr} {c : Nat} {inner : Int} {gr : Bool} {st : List It} (h : LnSt W w gp gz n A c inner gr st) (hb : Below w.heap.size w w') : LnSt W w' gp gz n A c inner gr st := by
  obtain ⟨Ao, co, h⟩ := h
  exact ⟨Ao, co, h.behind hb⟩
end Go.Proofs.Ytodnplllkpgfaaa
