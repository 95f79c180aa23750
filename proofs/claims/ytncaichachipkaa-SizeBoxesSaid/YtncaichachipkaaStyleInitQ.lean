import Derived.Test.YtncaichachipkaaZQ
/- What is initial, in the program and in the document's answer. -/
namespace Go.Proofs.Ytncaichachipkaa
open Go Go.RowKit
set_option linter.unusedVariables false
set_option linter.unusedSimpArgs false
set_option maxRecDepth 20000
set_option maxHeartbeats 4000000

theorem rinit_any (W : World) : Calls Try.prog 6 #[] W fun e w' => e = .returned (.agg (i64s initZ).toArray) ∧ Below W.heap.size W w' := by
  go_enter Try.func6, Try.ntmps6
  go_wp2_with (refine style_store (.tmp 0) (.tmp 10) rfl rfl W.heap.size rfl initZ rfl rfl zeros43 ((Whole.mk W 33 (i64s zeros43).toArray).made _) rfl ?_; intro w1 h1 o1; have H1 := Lib.hid h1; have O1 := Lib.hid o1; clear h1 o1)
  exact style_end rfl W.heap.size rfl initZ rfl H1.out rfl ⟨rfl, (((Below.refl W.heap.size W).alloc (Nat.le_refl _) _).alloc (by simp) _).trans (O1.out.below (by simp) (by simp; omega))⟩
end Go.Proofs.Ytncaichachipkaa
