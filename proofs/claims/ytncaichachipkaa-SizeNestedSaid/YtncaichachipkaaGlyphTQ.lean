import Derived.Test.YtncaichachipkaaZQ
import Derived.Test.YtncaichachipkaaWhitCQ
/- Rows of glyphs and texts as told values. -/
namespace Go.Proofs.Ytncaichachipkaa
open Go Go.RowKit
set_option linter.unusedVariables false
set_option linter.unusedSimpArgs false
set_option maxRecDepth 20000
set_option maxHeartbeats 4000000

def glT (l : List Gl) : Told := fun v w => ∃ (A : Option Addr) (c : Nat), v = .slice A l.length c ∧ Row w w.heap.size A (i64s (gCells l))
def rnT (l : List Rn) : Told := fun v w => ∃ (A : Option Addr) (c : Nat), v = .slice A l.length c ∧ Row w w.heap.size A (rCells l)
theorem glT_steady (l : List Gl) : Steady (glT l) := fun v w w' hb ⟨A, c, h1, h2⟩ => ⟨A, c, h1, (h2.below hb).more hb.size⟩
theorem rnT_steady (l : List Rn) : Steady (rnT l) := fun v w w' hb ⟨A, c, h1, h2⟩ => ⟨A, c, h1, (h2.below hb).more hb.size⟩
theorem post_told {zs : List Int} {rs : List Rn} {W : World} {e : Ending} {w' : World} (h : GlyphPost zs rs W e w') : ∃ v, e = .returned v ∧ Behind W w' ∧ glT (glyphsL zs rs) v w' := by
  obtain ⟨A, c, he, ho, hb⟩ := h
  exact ⟨_, he, hb, A, c, rfl, row_of_own ho⟩
theorem glyphs_told (zs : List Int) (hz : zs.length = 256) (rs : List Rn) (hn : rs.length ≤ 100000) (hsz : sizeAll rs ≤ 100000) (v : Value) (W : World) (hv : rnT rs v W) :
    Calls Try.prog 27 #[.agg (i64s zs).toArray, v] W fun e w' => ∃ v, e = .returned v ∧ Behind W w' ∧ glT (glyphsL zs rs) v w' := by
  obtain ⟨A, c, rfl, hR⟩ := hv
  exact (glyphs_any zs hz rs A c W hR (by omega) hsz).mono fun e w' h => post_told h
end Go.Proofs.Ytncaichachipkaa
