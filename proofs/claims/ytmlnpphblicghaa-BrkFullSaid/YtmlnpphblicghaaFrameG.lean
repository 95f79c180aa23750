import Derived.Test.YtmlnpphblicghaaFrameI
import Derived.Test.YtmlnpphblicghaaGlyphMem
/- Slices of glyphs, opened. -/
namespace Go.Proofs.Ytmlnpphblicghaa
open Go.Joins Go.ChangeShapes Go.WideShapes Go.RowKit Go.ChangeAt Go.Deep
set_option linter.unusedVariables false
set_option linter.unusedSimpArgs false

theorem un_gCells : ∀ (n : Nat) (zs : List Int), zs.length = n * 4 → ∃ gs : List Gl, gs.length = n ∧ gCells gs = zs
  | 0, zs, h => ⟨[], rfl, by have : zs = [] := List.eq_nil_of_length_eq_zero (by omega); rw [this]; rfl⟩
  | n + 1, zs, h => by
    match zs, h with
    | p :: w :: k :: m :: r, h =>
      obtain ⟨gs, hl, e⟩ := un_gCells n r (by simp at h; omega)
      exact ⟨⟨p, w, k, m⟩ :: gs, by simp [hl], by simp [gCells, e]⟩
    | [], h => simp at h
    | [_], h => simp at h; omega
    | [_, _], h => simp at h; omega
    | [_, _, _], h => simp at h; omega
end Go.Proofs.Ytmlnpphblicghaa
