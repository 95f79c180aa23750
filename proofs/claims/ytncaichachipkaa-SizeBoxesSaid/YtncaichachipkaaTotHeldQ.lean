import Derived.Test.YtncaichachipkaaTotalQ
/- exact.Sum.Held. -/
namespace Go.Proofs.Ytncaichachipkaa
open Go Go.RowKit
set_option linter.unusedVariables false
set_option linter.unusedSimpArgs false
set_option maxRecDepth 20000
set_option maxHeartbeats 4000000

theorem held_any (t : Int) (ht : I64 t) (W : World) :
    Calls Try.prog 19 #[totV t] W fun e w' => e = .returned (.int .i64 t) ∧ Below W.heap.size W w' := by
  have hq : (tH t == wrap64 (tL t) / 9223372036854775808) = true := by
    rw [beq_iff_eq]; obtain ⟨h1, h2⟩ := ht; unfold tH tL wrap64; omega
  have hr : wrap64 (tL t) = t := by obtain ⟨h1, h2⟩ := ht; unfold tL wrap64; omega
  have HR := Lib.hid hr
  clear hr
  go_enter Try.func19, Try.ntmps19
  go_wp2
  go_ret
  exact ⟨ret_int HR.out, (Below.refl _ _).alloc (Nat.le_refl _) _⟩
end Go.Proofs.Ytncaichachipkaa
