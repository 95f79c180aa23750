import Derived.Test.YtodnplllkpgfaaaZQ
import Derived.Test.YtodnplllkpgfaaaFlexMemQ
/- Slices of items that grow and shrink, opened. -/
namespace Go.Proofs.Ytodnplllkpgfaaa
open Go.Joins Go.ChangeShapes Go.WideShapes Go.RowKit Go.ChangeAt Go.Deep
set_option linter.unusedVariables false
set_option linter.unusedSimpArgs false

instance : Inhabited Fx := ⟨⟨0, 0, 0, 0, 0, 0⟩⟩
theorem un_fxC (cs : List Value) (hl : cs.length = 6) (h : ∀ (i : Nat) (h : i < cs.length) (h' : i < [true, true, true, true, true, true].length), IsKind [true, true, true, true, true, true][i] cs[i]) : ∃ x : Fx, cs = fxC x := by
  match cs, hl, h with
  | [a, b, c, d, e, f], _, h =>
    obtain ⟨a', rfl, -⟩ := h 0 (by simp) (by simp)
    obtain ⟨b', rfl, -⟩ := h 1 (by simp) (by simp)
    obtain ⟨c', rfl, -⟩ := h 2 (by simp) (by simp)
    obtain ⟨d', rfl, -⟩ := h 3 (by simp) (by simp)
    obtain ⟨e', rfl, -⟩ := h 4 (by simp) (by simp)
    obtain ⟨f', rfl, -⟩ := h 5 (by simp) (by simp)
    exact ⟨⟨a', b', c', d', e', f'⟩, rfl⟩
theorem open_fxs {H : Type} {enc : TypeId × Value → H} {w : World} {base : Nat} {spare : Nat → Bool} {held : Bool} {fuel n c : Nat} {A : Option Addr} {x : DataW H × List MemPlace}
    (h : DataW.trod enc Try.prog w base spare held fuel 23 (Value.slice A n c).cells.toList = some x) : ∃ l : List Fx, n = l.length ∧ Row w w.heap.size A (l.flatMap fxC) ∧ n ≤ c ∧ c ≤ maxLen ∧ (A = none → c = 0) :=
  open_mix_row (P := Try.prog) (f := fxC) (C := 6) (d := 9) (e := 26) [true, true, true, true, true, true] fxC_six Try.underlying23 (by kernel_rfl) (by decide) (by kernel_rfl) un_fxC h
end Go.Proofs.Ytodnplllkpgfaaa
