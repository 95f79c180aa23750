import Derived.Test.YtmlnpphblicghaaZQ
import Derived.Test.YtmlnpphblicghaaPieceMemQ
import Derived.Test.YtmlnpphblicghaaEndsQ
/- quoinref9.lineOf, quoinref9.sum. -/
namespace Go.Proofs.Ytmlnpphblicghaa
open Go Go.RowKit
set_option linter.unusedVariables false
set_option linter.unusedSimpArgs false
set_option maxRecDepth 20000
set_option maxHeartbeats 2000000

theorem rline_any (n : Int) (w : World) : Calls Try.prog 46 #[.int .i64 n] w fun e w' => e = .returned (.int .i64 (lineZ n)) ∧ w = w' := by
  have RH := Lib.hid (rheld_any n 0 1073741824 w)
  go_enter Try.func46, Try.ntmps46
  go_wp2_with fail
  refine RH.out.mono ?_
  rintro e w' ⟨rfl, rfl⟩
  clear RH
  go_wp2
  go_ret
  exact ⟨rfl, rfl⟩
theorem rsum_any (l : List Gl) (hl : FineG l) (A : Option Addr) (c : Nat) (W : World) (B : Nat) (hR : Row W B A (i64s (gCells l))) :
    Calls Try.prog 47 #[.slice A l.length c] W fun e w' => e = .returned (.int .i64 (sumA l)) ∧ W = w' := by
  have HR := Lib.hid hR
  have FG := Lib.hid hl
  have hgl := hl.1
  clear hR hl
  go_enter Try.func47, Try.ntmps47
  go_wp2
  go_loopw [3, 4] (fun v3 v4 wr => ∃ k : Nat, v3 = .int .i64 (sumT l 0 k) ∧ v4 = .int .i64 k ∧ k ≤ l.length ∧ wr = W) (fun _ v4 _ => l.length - (intOf v4).toNat)
  case atStart => exact ⟨0, by rw [sumT_self], rfl, Nat.zero_le _, rfl⟩
  case round =>
    obtain ⟨k, rfl, rfl, hk, rfl⟩ := hrel
    by_cases hlt : k < l.length
    · have hki : (k : Int) < l.length := by omega
      obtain ⟨ad, rfl, hab, r0, r1, r2, r3⟩ := HR.out.gl hlt
      have e1 := Lib.hid (sumT_succ l 0 k (by omega) hlt)
      have hbd := sumT_bd FG.out 0 (k + 1) (by omega) (by omega)
      rw [e1.out] at hbd
      generalize l[k] = x at *
      obtain ⟨xk, xr, xa, xv⟩ := x
      simp only at r3 e1 hbd
      have hw0 : -9223372036854775808 ≤ sumT l 0 k + xv ∧ sumT l 0 k + xv < 9223372036854775808 := by obtain ⟨q1, q2⟩ := hbd; omega
      clear hbd r0 r1 r2
      go_wp2_with fail
      go_roundw
      case rel => exact ⟨k + 1, by rw [e1.out], by go_num, by omega, by first | rfl | trivial⟩
      case measure => simp [intOf]; omega
    · have hki : ¬ (k : Int) < l.length := by omega
      have he := sumT_full' l k (by omega) hk
      have HE := Lib.hid he
      clear he
      go_wp2
      go_ret
      exact ⟨ret_int HE.out, rfl⟩
end Go.Proofs.Ytmlnpphblicghaa
