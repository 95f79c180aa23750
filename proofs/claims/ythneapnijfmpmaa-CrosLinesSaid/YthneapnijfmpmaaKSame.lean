import Derived.Test.YthneapnijfmpmaaProg
import Derived.Test.YthneapnijfmpmaaCellMem
import Derived.Test.YthneapnijfmpmaaLaneC
/- quoinlaw16.Same of two rows that are the same: out of StkAwake. -/
namespace Go.Proofs.Ythneapnijfmpmaa
open Go Go.RowKit
set_option linter.unusedVariables false
set_option linter.unusedSimpArgs false
set_option maxRecDepth 20000
set_option maxHeartbeats 4000000

theorem ksame_any (A B : Option Addr) (c d n : Nat) (zs : List Int) (w : World) (C D : Nat) (hr : Row w C A (i64s zs)) (hs : Row w D B (i64s zs)) (hn : zs.length = n) (hm : n ≤ 9223372036854775807) :
    Calls Try.prog 16 #[.slice A n c, .slice B n d] w fun e w' => e = .returned (.bool true) ∧ ∃ k, w' = w.drewN k := by
  have HN := Lib.hid hn
  clear hn
  go_enter Try.func16, Try.ntmps16
  go_wp2
  go_loopw [5] (fun i wr => ∃ k q : Nat, k ≤ n ∧ i = .int .i64 k ∧ wr = w.drewN q) (fun i _ => n - (intOf i).toNat)
  case atStart => exact ⟨0, 0, Nat.zero_le _, rfl, rfl⟩
  case round =>
    obtain ⟨k, q, hk, rfl, rfl⟩ := hrel
    by_cases hlt : k < n
    · obtain ⟨ad, rfl, _, hc⟩ := hr.int (show k < zs.length by rw [HN.out]; exact hlt)
      obtain ⟨ae, rfl, _, hd⟩ := hs.int (show k < zs.length by rw [HN.out]; exact hlt)
      clear hr hs
      generalize zs[k]'_ = z at *
      have hlt' : (k : Int) < (n : Int) := by omega
      go_wp2
      go_quiet (fail)
      go_wp2
      go_roundw
      case rel => exact ⟨k + 1, _, by omega, by go_num, rfl⟩
      case measure => simp [intOf]; omega
    · go_wp2
      go_ret
      exact ⟨rfl, _, rfl⟩
end Go.Proofs.Ythneapnijfmpmaa
