import Derived.Test.YtmlnpphblicghaaBrkIdx
import Derived.Test.YtmlnpphblicghaaRecRow
import Derived.Test.YtmlnpphblicghaaLaneC
/- slices.Index, slices.Contains over []int. -/
namespace Go.Proofs.Ytmlnpphblicghaa
open Go Go.RowKit
set_option linter.unusedVariables false
set_option linter.unusedSimpArgs false
set_option maxRecDepth 20000
set_option maxHeartbeats 4000000

theorem index_any (l : List Int) (A : Option Addr) (c : Nat) (v : Int) (W : World) (hR : Row W W.heap.size A (i64s l)) (hl : l.length < 4611686018427387904) :
    Calls Try.prog 63 #[.slice A l.length c, .int .i64 v] W fun e w' => e = .returned (.int .i64 (idxZ v l)) ∧ w' = W := by
  have HR := Lib.hid hR
  clear hR
  go_enter Try.func63, Try.ntmps63
  go_wp2
  go_loopw [8] (fun r wr => ∃ k : Nat, k ≤ l.length ∧ r = .int .i64 k ∧ wr = W ∧ Hid (∀ j (h : j < l.length), j < k → (v == l[j]) = false)) (fun r _ => l.length - (intOf r).toNat)
  case atStart => exact ⟨0, Nat.zero_le _, rfl, rfl, Lib.hid fun j h hj => absurd hj (Nat.not_lt_zero _)⟩
  case round =>
    obtain ⟨k, hk, rfl, rfl, I⟩ := hrel
    by_cases hlt : k < l.length
    · have hki : (k : Int) < l.length := by omega
      obtain ⟨ad, rfl, hab, hcell⟩ := HR.out.get (k := k) (by simp [i64s_length]; exact hlt)
      have IN := Lib.hid (fun h => idxZ_at v l k hlt I.out h)
      have IO := Lib.hid (fun (h : (v == l[k]) = false) j (hj : j < l.length) (hj2 : j < k + 1) => (show (v == l[j]) = false from (by
        rcases Nat.lt_or_ge j k with h3 | h3
        · exact I.out j hj h3
        · obtain rfl : j = k := by omega
          exact h)))
      simp only [i64s, List.getElem_map] at hcell
      generalize l[k] = x at *
      cases hv : v == x
      · go_wp2
        go_roundw
        case rel => exact ⟨k + 1, by omega, by go_num, by first | rfl | trivial, Lib.hid (IO.out hv)⟩
        case measure => simp [intOf]; omega
      · have hvi := Lib.hid (IN.out hv)
        clear IN IO
        go_wp2
        go_ret
        exact ⟨ret_int hvi.out.symm, rfl⟩
    · obtain rfl : k = l.length := by omega
      have hki : ¬ (l.length : Int) < l.length := by omega
      have HE := Lib.hid (idxZ_none v l fun j h => I.out j h h)
      go_wp2
      go_ret
      exact ⟨ret_int HE.out.symm, rfl⟩
theorem contains_any (l : List Int) (A : Option Addr) (c : Nat) (v : Int) (W : World) (hR : Row W W.heap.size A (i64s l)) (hl : l.length < 4611686018427387904) :
    Calls Try.prog 53 #[.slice A l.length c, .int .i64 v] W fun e w' => e = .returned (.bool (l.contains v)) ∧ w' = W := by
  have HE := Lib.hid (idxZ_in v l)
  have IX := Lib.hid (index_any l A c v W hR hl)
  clear hR
  generalize idxZ v l = z at *
  go_enter Try.func53, Try.ntmps53
  go_wp2_with (go_at_call 63; refine IX.out.mono ?_; rintro e w' ⟨rfl, rfl⟩)
  go_ret
  exact ⟨ret_bool HE.out, by first | rfl | trivial⟩
end Go.Proofs.Ytmlnpphblicghaa
