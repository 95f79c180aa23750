import Derived.Test.YteaenomfighaoaaFrameM
import Derived.Test.YteaenomfighaoaaAlMem
/- Slices of items along a line, opened. -/
namespace Go.Proofs.Yteaenomfighaoaa
open Go.Joins Go.ChangeShapes Go.WideShapes Go.RowKit Go.ChangeAt Go.Deep
set_option linter.unusedVariables false
set_option linter.unusedSimpArgs false

instance : Inhabited Al := ⟨⟨0, 0, false, false, 0⟩⟩
theorem un_alC (cs : List Value) (hl : cs.length = 5) (h : ∀ (i : Nat) (h : i < cs.length) (h' : i < [true, true, true, false, false].length), IsKind [true, true, true, false, false][i] cs[i]) : ∃ x : Al, cs = alC x := by
  match cs, hl, h with
  | [a, b, c, d, e], _, h =>
    obtain ⟨a', rfl, -⟩ := h 0 (by simp) (by simp)
    obtain ⟨b', rfl, -⟩ := h 1 (by simp) (by simp)
    obtain ⟨c', rfl, -⟩ := h 2 (by simp) (by simp)
    obtain ⟨d', rfl⟩ := h 3 (by simp) (by simp)
    obtain ⟨e', rfl⟩ := h 4 (by simp) (by simp)
    exact ⟨⟨a', b', d', e', c'⟩, rfl⟩
theorem open_als {H : Type} {enc : TypeId × Value → H} {w : World} {base : Nat} {spare : Nat → Bool} {held : Bool} {fuel n c : Nat} {A : Option Addr} {x : DataW H × List MemPlace}
    (h : DataW.trod enc Try.prog w base spare held fuel 22 (Value.slice A n c).cells.toList = some x) : ∃ l : List Al, n = l.length ∧ Row w w.heap.size A (l.flatMap alC) ∧ n ≤ c ∧ c ≤ maxLen ∧ (A = none → c = 0) :=
  open_mix_row (P := Try.prog) (f := alC) (C := 5) (d := 9) (e := 27) [true, true, true, false, false] alC_five Try.underlying22 (by kernel_rfl) (by decide) (by kernel_rfl) un_alC h
end Go.Proofs.Yteaenomfighaoaa
