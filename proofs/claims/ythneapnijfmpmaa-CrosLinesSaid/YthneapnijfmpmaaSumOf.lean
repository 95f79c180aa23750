import Derived.Test.YthneapnijfmpmaaExactSum
import Derived.Test.YthneapnijfmpmaaLaneC
/- exact.Of of a literal row; a sum in a block of its own. -/
namespace Go.Proofs.Ythneapnijfmpmaa
open Go Go.RowKit
set_option linter.unusedVariables false
set_option linter.unusedSimpArgs false

theorem sum_flatA : FlatT Try.prog 36 2 := ⟨⟨_, Try.underlying36, rfl⟩, by kernel_rfl⟩
abbrev SumC (n : Int) : List Value := [.int .i64 (tH n), .int .u64 (tL n)]
abbrev SumV (w : World) (g : Nat) (n : Int) : Prop := Whole w g 36 (SumC n)
theorem of_lit (zs : List Int) (hz : ∀ z ∈ zs, I64 z) (hl : zs.length ≤ 1000) (g : Nat) (w : World) (h : Whole w g 2 (i64s zs)) :
    Calls Try.prog 18 #[.slice (some ⟨g, 0, none⟩) zs.length zs.length] w fun e w' => e = .returned (totV zs.sum) ∧ Below w.heap.size w w' :=
  of_any zs hz hl _ _ w fun _ => ⟨_, rfl, h.size, fun i hi => by rw [head_add]; exact (h.cell i).trans (List.getElem?_eq_getElem hi)⟩
theorem of_one1 (x : Int) (hx : I64 x) (g : Nat) (w : World) (h : Whole w g 2 [.int .i64 x]) :
    Calls Try.prog 18 #[.slice (some ⟨g, 0, none⟩) 1 1] w fun e w' => e = .returned (totV x) ∧ Below w.heap.size w w' := by
  have := of_lit [x] (fun z hz => by simp at hz; rw [hz]; exact hx) (by simp) g w h
  simpa using this
theorem tot_sm {n : Int} (h0 : -9000000000000000000 ≤ n) (h1 : n ≤ 9000000000000000000) : Tot n := by unfold Tot; omega
theorem i64_sm {n : Int} (h0 : -9000000000000000000 ≤ n) (h1 : n ≤ 9000000000000000000) : I64 n := by unfold I64; omega
theorem of_made1 (x : Int) (hx : I64 x) (w : World) (v : Value) (h : madeT 1 2 [.int .i64 x] v w) :
    Calls Try.prog 18 #[v] w fun e w' => e = .returned (totV x) ∧ Below w.heap.size w w' := by
  obtain ⟨g, rfl, hg⟩ := h
  exact of_one1 x hx g w hg
end Go.Proofs.Ythneapnijfmpmaa
