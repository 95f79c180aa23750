import Derived.Test.YtmlnpphblicghaaGlyphMem
import Derived.Test.YtmlnpphblicghaaMet
/- A row of glyphs in the making, metrics, and a glyph in a block of its own: what is kept from step to step. -/
namespace Go.Proofs.Ytmlnpphblicghaa
open Go Go.RowKit
set_option linter.unusedVariables false
set_option linter.unusedSimpArgs false

theorem own_base {w : World} {b b' e size : Nat} {v : Value} {n : Nat} {xs : List Value} (h : w.ownsRow b e size v n xs) (hb : b' ≤ b) : w.ownsRow b' e size v n xs := by
  refine ⟨h.1, ?_⟩
  rcases h.2 with h0 | ⟨g, cap, cur, hv, hg, rest⟩
  · exact .inl h0
  · exact .inr ⟨g, cap, cur, hv, Nat.le_trans hb hg, rest⟩
theorem own_addr {w : World} {b e size : Nat} {ad : Addr} {n c : Nat} {xs : List Value} (h : w.ownsRow b e size (.slice (some ad) n c) n xs) : ∃ g, ad = ⟨g, 0, none⟩ := by
  rcases h.2 with ⟨h0, _⟩ | ⟨g, cap, cur, hv, _⟩
  · cases h0
  · injection hv with h1 _ _
    injection h1 with h1
    exact ⟨g, h1⟩
/-- The row, and the metrics that lie at lo (all else of the call's own lies behind lo). -/
structure GRow (W w : World) (lo : Nat) (zs : List Int) (A : Option Addr) (n c : Nat) (cur : List Gl) : Prop where
  own : w.ownsRow (lo + 1) 24 4 (.slice A n c) n (i64s (gCells cur))
  met : Whole w lo 37 (i64s zs)
  low : Below lo W w
section
variable {W w w' : World} {lo : Nat} {zs : List Int} {A : Option Addr} {n c : Nat} {cur : List Gl}
theorem GRow.size (h : GRow W w lo zs A n c cur) : lo < w.heap.size := h.met.size
theorem GRow.behind (h : GRow W w lo zs A n c cur) (hb : Below w.heap.size w w') : GRow W w' lo zs A n c cur :=
  ⟨own_below h.own hb (Nat.le_refl _), h.met.under hb h.met.size, h.low.trans (hb.mono (by have := h.size; omega))⟩
theorem GRow.only {g : Nat} (h : GRow W w lo zs A n c cur) (ho : Only [g] w w') (hg : lo < g) (hn : ∀ b, (Value.slice A n c).ownBlock = some b → b ≠ g) : GRow W w' lo zs A n c cur :=
  ⟨ho.owns h.own fun b hb => by simpa using hn b hb, ho.whole h.met (by simp; omega), h.low.trans (ho.below (by simp; omega) (by have := h.size; omega))⟩
theorem GRow.off (h : GRow W w lo zs A n c cur) {g : Nat} (hg : w.heap.size ≤ g) : ∀ b, (Value.slice A n c).ownBlock = some b → b ≠ g := fun b hb => by
  have := (h.own.lt b hb).2; omega
theorem GRow.row (h : GRow W w lo zs A n c cur) : Row w w.heap.size A (i64s (gCells cur)) := row_of_own h.own
end
theorem GRow.pushed {W w w' : World} {lo : Nat} {zs : List Int} {A A' : Option Addr} {n c c' : Nat} {cur : List Gl} (h : GRow W w lo zs A n c cur) (x : Gl) (hb : Below (lo + 1) w w')
    (ho : w'.ownsRow (lo + 1) 24 4 (.slice A' (n + 1) c') (n + 1) (i64s (gCells cur) ++ [.int .i64 x.kind, .int .i64 x.run, .int .i64 x.at_, .int .i64 x.adv])) : GRow W w' lo zs A' (n + 1) c' (cur ++ [x]) :=
  ⟨by rw [gCells_append, i64s_append]; exact ho, h.met.under hb (by omega), h.low.trans (hb.mono (by omega))⟩
/-- .. with a glyph of its own in block g. -/
structure GSt (W w : World) (lo : Nat) (zs : List Int) (A : Option Addr) (n c : Nat) (cur : List Gl) (g : Nat) (x : Gl) : Prop where
  row : GRow W w lo zs A n c cur
  gl : Whole w g 24 (i64s [x.kind, x.run, x.at_, x.adv])
  off : ∀ b, (Value.slice A n c).ownBlock = some b → b ≠ g
  far : lo < g
section
variable {W w w' : World} {lo : Nat} {zs : List Int} {A : Option Addr} {n c g : Nat} {cur : List Gl} {x : Gl}
theorem GSt.behind (h : GSt W w lo zs A n c cur g x) (hb : Below w.heap.size w w') : GSt W w' lo zs A n c cur g x :=
  ⟨h.row.behind hb, h.gl.under hb h.gl.size, h.off, h.far⟩
theorem GSt.cells (h : GSt W w lo zs A n c cur g x) : w.cell? ⟨g, 0, none⟩ = some (.int .i64 x.kind) ∧ w.cell? ⟨g, 1, none⟩ = some (.int .i64 x.run) ∧ w.cell? ⟨g, 2, none⟩ = some (.int .i64 x.at_) ∧ w.cell? ⟨g, 3, none⟩ = some (.int .i64 x.adv) ∧
    w.frozen? ⟨g, 0, none⟩ = false ∧ w.frozen? ⟨g, 3, none⟩ = false :=
  ⟨h.gl.cell 0, h.gl.cell 1, h.gl.cell 2, h.gl.cell 3, h.gl.free 0, h.gl.free 3⟩
theorem GSt.kind (h : GSt W w lo zs A n c cur g x) (v : Int) : GSt W (w.setCell ⟨g, 0, none⟩ (.int .i64 v)) lo zs A n c cur g { x with kind := v } :=
  ⟨h.row.only ((Only.refl [g] w).setCell _ (.inl (by simp)) _) h.far h.off, h.gl.put 0 (.int .i64 v), h.off, h.far⟩
theorem GSt.adv (h : GSt W w lo zs A n c cur g x) (v : Int) : GSt W (w.setCell ⟨g, 3, none⟩ (.int .i64 v)) lo zs A n c cur g { x with adv := v } :=
  ⟨h.row.only ((Only.refl [g] w).setCell _ (.inl (by simp)) _) h.far h.off, h.gl.put 3 (.int .i64 v), h.off, h.far⟩
end
theorem gl_flat : FlatT Try.prog 24 4 := ⟨⟨_, Try.underlying24, rfl⟩, by kernel_rfl⟩
/-- What Glyphs answers: the row of glyphsL, in a block of its own. -/
def GlyphPost (zs : List Int) (rs : List Rn) (W : World) (e : Ending) (w' : World) : Prop := ∃ (A : Option Addr) (c : Nat), e = .returned (.slice A (glyphsL zs rs).length c) ∧ w'.ownsRow W.heap.size 24 4 (.slice A (glyphsL zs rs).length c) (glyphsL zs rs).length (i64s (gCells (glyphsL zs rs))) ∧ Below W.heap.size W w'
end Go.Proofs.Ytmlnpphblicghaa
