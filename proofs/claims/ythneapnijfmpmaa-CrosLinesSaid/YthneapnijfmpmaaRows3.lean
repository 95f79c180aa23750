import Derived.Test.YthneapnijfmpmaaPush
/- Two and three rows of the call's own, each made at once, side by side. No program is named here. -/
namespace Go.Proofs.Ythneapnijfmpmaa
open Go Go.RowKit
set_option linter.unusedVariables false
set_option linter.unusedSimpArgs false

/-- A row of n cells at the head of block g. -/
abbrev RowG (w : World) (B : Nat) (e : TypeId) (g n : Nat) (xs : List Value) : Prop := w.ownsRow B e 1 (.slice (some ⟨g, 0, none⟩) n n) n xs
structure R2 (W w : World) (e1 e2 : TypeId) (g1 g2 n : Nat) (x1 x2 : List Value) : Prop where
  one : RowG w W.heap.size e1 g1 n x1
  two : RowG w W.heap.size e2 g2 n x2
  n12 : g1 ≠ g2
  low : Below W.heap.size W w
structure R3 (W w : World) (e1 e2 e3 : TypeId) (g1 g2 g3 n : Nat) (x1 x2 x3 : List Value) : Prop where
  one : RowG w W.heap.size e1 g1 n x1
  two : RowG w W.heap.size e2 g2 n x2
  three : RowG w W.heap.size e3 g3 n x3
  n12 : g1 ≠ g2
  n13 : g1 ≠ g3
  n23 : g2 ≠ g3
  low : Below W.heap.size W w
section
variable {W w w' : World} {e1 e2 e3 : TypeId} {g1 g2 g3 n : Nat} {x1 x2 x3 : List Value}
theorem rowG_lt {B : Nat} {e : TypeId} {g : Nat} {xs : List Value} (h : RowG w B e g n xs) : B ≤ g ∧ g < w.heap.size := h.lt g rfl
theorem rowG_put {B : Nat} {e : TypeId} {g : Nat} {xs : List Value} (h : RowG w B e g n xs) (j : Nat) (u : Value) : RowG (w.setCell ⟨g, j, none⟩ u) B e g n (xs.set j u) := (h.stored j u).1
theorem rowG_off {B : Nat} {e : TypeId} {g g' : Nat} {xs : List Value} (h : RowG w B e g n xs) (hn : g ≠ g') (j : Nat) (u : Value) : RowG (w.setCell ⟨g', j, none⟩ u) B e g n xs :=
  ((Only.refl [g'] w).setCell ⟨g', j, none⟩ (.inl (by simp)) u).owns h fun k hk hm => by
    have e1 : g = k := by simpa [Value.ownBlock] using hk
    have e2 : k = g' := by simpa using hm
    exact hn (e1.trans e2)
theorem below_put {B : Nat} {g : Nat} (h : Below B W w) (hg : B ≤ g) (j : Nat) (u : Value) : Below B W (w.setCell ⟨g, j, none⟩ u) := h.setCell (p := ⟨g, j, none⟩) hg u
theorem R2.put1 (h : R2 W w e1 e2 g1 g2 n x1 x2) (j : Nat) (u : Value) : R2 W (w.setCell ⟨g1, j, none⟩ u) e1 e2 g1 g2 n (x1.set j u) x2 :=
  ⟨rowG_put h.one j u, rowG_off h.two (Ne.symm h.n12) j u, h.n12, below_put h.low (rowG_lt h.one).1 j u⟩
theorem R2.put2 (h : R2 W w e1 e2 g1 g2 n x1 x2) (j : Nat) (u : Value) : R2 W (w.setCell ⟨g2, j, none⟩ u) e1 e2 g1 g2 n x1 (x2.set j u) :=
  ⟨rowG_off h.one h.n12 j u, rowG_put h.two j u, h.n12, below_put h.low (rowG_lt h.two).1 j u⟩
theorem R2.behind (h : R2 W w e1 e2 g1 g2 n x1 x2) (hb : Below w.heap.size w w') : R2 W w' e1 e2 g1 g2 n x1 x2 :=
  ⟨own_below h.one hb (Nat.le_refl _), own_below h.two hb (Nat.le_refl _), h.n12, h.low.trans (hb.mono h.low.size)⟩
theorem R2.made (h : R2 W w e1 e2 g1 g2 n x1 x2) (hb : Below w.heap.size w w') (h3 : RowG w' w.heap.size e3 g3 n x3) : R3 W w' e1 e2 e3 g1 g2 g3 n x1 x2 x3 := by
  have k := h.behind hb
  have l1 := rowG_lt h.one
  have l2 := rowG_lt h.two
  have l3 := rowG_lt h3
  exact ⟨k.one, k.two, own_raise h3 fun g hg => Nat.le_trans h.low.size (h3.lt g hg).1, h.n12, by omega, by omega, k.low⟩
theorem R3.two' (h : R3 W w e1 e2 e3 g1 g2 g3 n x1 x2 x3) : R2 W w e1 e2 g1 g2 n x1 x2 := ⟨h.one, h.two, h.n12, h.low⟩
theorem R3.put1 (h : R3 W w e1 e2 e3 g1 g2 g3 n x1 x2 x3) (j : Nat) (u : Value) : R3 W (w.setCell ⟨g1, j, none⟩ u) e1 e2 e3 g1 g2 g3 n (x1.set j u) x2 x3 :=
  ⟨rowG_put h.one j u, rowG_off h.two (Ne.symm h.n12) j u, rowG_off h.three (Ne.symm h.n13) j u, h.n12, h.n13, h.n23, below_put h.low (rowG_lt h.one).1 j u⟩
theorem R3.put2 (h : R3 W w e1 e2 e3 g1 g2 g3 n x1 x2 x3) (j : Nat) (u : Value) : R3 W (w.setCell ⟨g2, j, none⟩ u) e1 e2 e3 g1 g2 g3 n x1 (x2.set j u) x3 :=
  ⟨rowG_off h.one h.n12 j u, rowG_put h.two j u, rowG_off h.three (Ne.symm h.n23) j u, h.n12, h.n13, h.n23, below_put h.low (rowG_lt h.two).1 j u⟩
theorem R3.put3 (h : R3 W w e1 e2 e3 g1 g2 g3 n x1 x2 x3) (j : Nat) (u : Value) : R3 W (w.setCell ⟨g3, j, none⟩ u) e1 e2 e3 g1 g2 g3 n x1 x2 (x3.set j u) :=
  ⟨rowG_off h.one h.n13 j u, rowG_off h.two h.n23 j u, rowG_put h.three j u, h.n12, h.n13, h.n23, below_put h.low (rowG_lt h.three).1 j u⟩
theorem R3.behind (h : R3 W w e1 e2 e3 g1 g2 g3 n x1 x2 x3) (hb : Below w.heap.size w w') : R3 W w' e1 e2 e3 g1 g2 g3 n x1 x2 x3 :=
  ⟨own_below h.one hb (Nat.le_refl _), own_below h.two hb (Nat.le_refl _), own_below h.three hb (Nat.le_refl _), h.n12, h.n13, h.n23, h.low.trans (hb.mono h.low.size)⟩
end
theorem rowG_cell {w : World} {B : Nat} {e : TypeId} {g n : Nat} {xs : List Value} (h : RowG w B e g n xs) {j : Nat} {u : Value} (hj : j < n) (hu : xs[j]? = some u) : w.cell? ⟨g, j, none⟩ = some u := by
  rw [h.cellAt j (by omega)]; exact hu
theorem own_off {w : World} {B e m c : Nat} {Ap : Option Addr} {ps : List Value} (h : w.ownsRow B e 1 (.slice Ap m c) m ps) {g' : Nat} (hn : ∀ g, (Value.slice Ap m c).ownBlock = some g → g ≠ g') (j : Nat) (u : Value) : (w.setCell ⟨g', j, none⟩ u).ownsRow B e 1 (.slice Ap m c) m ps :=
  ((Only.refl [g'] w).setCell ⟨g', j, none⟩ (.inl (by simp)) u).owns h fun k hk hm => hn k hk (by simpa using hm)
end Go.Proofs.Ythneapnijfmpmaa
