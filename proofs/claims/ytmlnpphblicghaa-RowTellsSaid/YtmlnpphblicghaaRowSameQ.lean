import Derived.Test.YtmlnpphblicghaaPieceMemQ
import Derived.Test.YtmlnpphblicghaaEndsQ
/- quoinlaw12.Same: a row of pieces, and a row like it. -/
namespace Go.Proofs.Ytmlnpphblicghaa
open Go Go.RowKit
set_option linter.unusedVariables false
set_option linter.unusedSimpArgs false
set_option maxRecDepth 20000
set_option maxHeartbeats 2000000

theorem psame_any (l : List Pc) (hl : l.length ≤ 9223372036854775807) (A A' : Option Addr) (c c' : Nat) (W : World) (hR : Row W W.heap.size A (l.flatMap pcC)) (hR' : Row W W.heap.size A' (l.flatMap pcC)) :
    Calls Try.prog 30 #[.slice A l.length c, .slice A' l.length c'] W fun e w' => e = .returned (.bool true) ∧ Below W.heap.size W w' := by
  have HR := Lib.hid hR
  have HR' := Lib.hid hR'
  clear hR hR'
  go_enter Try.func30, Try.ntmps30
  go_wp2
  go_loopw [5] (fun v3 wr => ∃ k : Nat, v3 = .int .i64 k ∧ k ≤ l.length ∧ Below W.heap.size W wr) (fun v3 _ => l.length - (intOf v3).toNat)
  case atStart => exact ⟨0, rfl, Nat.zero_le _, Below.refl _ _⟩
  case round =>
    obtain ⟨k, rfl, hk, hB⟩ := hrel
    have HB := Lib.hid hB
    clear hB
    by_cases hlt : k < l.length
    · have hki : (k : Int) < l.length := by omega
      obtain ⟨ad, rfl, hab, r0, r1, r2, r3, r4, r5, r6, r7⟩ := (HR.out.below HB.out).pc hlt
      obtain ⟨ad', rfl, hab', s0, s1, s2, s3, s4, s5, s6, s7⟩ := (HR'.out.below HB.out).pc hlt
      generalize l[k] = x at *
      obtain ⟨x0, x1, x2, x3, x4, x5, x6, x7⟩ := x
      simp only at r0 r1 r2 r3 r4 r5 r6 r7 s0 s1 s2 s3 s4 s5 s6 s7
      go_upto_region 6 with fail
      go_quiet (fail)
      go_wp2
      go_roundw
      case rel => exact ⟨k + 1, by go_num, by omega, Below.drewN' HB.out nq⟩
      case measure => simp [intOf]; omega
    · have hki : ¬ (k : Int) < l.length := by omega
      go_wp2
      go_ret
      exact ⟨rfl, HB.out⟩
end Go.Proofs.Ytmlnpphblicghaa
