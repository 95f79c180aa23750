import Derived.Test.YtmlnpphblicghaaZQ
import Derived.Lib.MinMax
import Derived.Test.YtmlnpphblicghaaPieceMemQ
import Derived.Test.YtmlnpphblicghaaPlaceNumQ
/- row.held, row.start, row.highest. -/
namespace Go.Proofs.Ytmlnpphblicghaa
open Go Go.RowKit
set_option linter.unusedVariables false
set_option linter.unusedSimpArgs false
set_option maxRecDepth 20000
set_option maxHeartbeats 2000000

theorem within_all (n m : Int) (w : World) (h0 : 0 ≤ m) (h1 : m ≤ 4611686018427387904) :
    Calls Try.prog 67 #[.int .i64 n, .int .i64 m] w fun e w' => e = .returned (.int .i64 (max (-m) (min n m))) ∧ w = w' := by
  rcases (show n < -m ∨ (-m ≤ n ∧ n ≤ m) ∨ m < n by omega) with h | ⟨h, h'⟩ | h
  all_goals
    go_enter Try.func67, Try.ntmps67
    go_wp2
    all_goals (go_ret; exact ⟨ret_int (by omega), rfl⟩)
theorem hold_all (n : Int) (w : World) :
    Calls Try.prog 58 #[.int .i64 n] w fun e w' => e = .returned (.int .i64 (holdZ n)) ∧ w = w' := by
  go_enter Try.func58, Try.ntmps58
  go_wp2_with (go_at_call 67; refine (within_all _ _ _ (by omega) (by omega)).mono ?_; rintro e w' ⟨rfl, rfl⟩)
  go_ret
  exact ⟨rfl, rfl⟩
theorem cline_any (n : Int) (w : World) : Calls Try.prog 42 #[.int .i64 n] w fun e w' => e = .returned (.int .i64 (lineZ n)) ∧ w = w' := by
  go_enter Try.func42, Try.ntmps42
  go_wp2_with (go_at_call 58; refine (hold_all _ _).mono ?_; rintro e w' ⟨rfl, rfl⟩)
  go_ret
  exact ⟨ret_int (by unfold lineZ holdZ; omega), rfl⟩
theorem start_any (a v k : Int) (w : World) (ha : -2199023255552 ≤ a ∧ a ≤ 2199023255552) (hv : -4611686018427387904 ≤ v ∧ v ≤ 4611686018427387904) :
    Calls Try.prog 44 #[.int .i64 a, .int .i64 v, .int .i64 k] w fun e w' => e = .returned (.int .i64 (startX a v k)) ∧ w = w' := by
  obtain ⟨X, hX⟩ : ∃ X, startX a v k = X := ⟨_, rfl⟩
  have hx3 : (a < v ∧ X = 0) ∨ (¬ a < v ∧ k = 1 ∧ X = a - v) ∨ (¬ a < v ∧ k = 2 ∧ X = (a - v) / 2) ∨ (¬ a < v ∧ k ≠ 1 ∧ k ≠ 2 ∧ X = 0) := by
    unfold startX at hX
    split at hX
    · omega
    · split at hX
      · omega
      · omega
  rw [hX]
  clear hX
  rcases hx3 with ⟨h1, h2⟩ | ⟨h1, h2, h3⟩ | ⟨h1, h2, h3⟩ | ⟨h1, h2, h3, h4⟩
  · subst h2
    go_enter Try.func44, Try.ntmps44
    go_wp2
    go_ret
    exact ⟨rfl, rfl⟩
  · subst h2 h3
    go_enter Try.func44, Try.ntmps44
    go_wp2
    go_ret
    exact ⟨rfl, rfl⟩
  · subst h2 h3
    have hq : (a - v).tdiv 2 = (a - v) / 2 := Int.tdiv_eq_ediv_of_nonneg (by omega)
    go_enter Try.func44, Try.ntmps44
    go_wp2
    go_ret
    exact ⟨rfl, rfl⟩
  · subst h4
    have b1 : (k == 1) = false := by rw [beq_eq_false_iff_ne]; exact h2
    have b2 : (k == 2) = false := by rw [beq_eq_false_iff_ne]; exact h3
    clear h2 h3
    go_enter Try.func44, Try.ntmps44
    go_wp2
    go_ret
    exact ⟨rfl, rfl⟩
theorem highZ_snoc (u : Int) (l : List Pc) (k : Nat) (h : k < l.length) : highZ u (l.take (k + 1)) = max (highZ u (l.take k)) l[k].h := by
  unfold highZ
  rw [List.take_succ_eq_append_getElem h, List.foldl_append]
  rfl
theorem high_any (u : Int) (l : List Pc) (A : Option Addr) (c : Nat) (W : World) (hR : Row W W.heap.size A (l.flatMap pcC)) (hl : l.length ≤ 1000000) :
    Calls Try.prog 41 #[.int .i64 u, .slice A l.length c] W fun e w' => e = .returned (.int .i64 (highZ u l)) ∧ Below W.heap.size W w' := by
  have HR := Lib.hid hR
  clear hR
  go_enter Try.func41, Try.ntmps41
  go_wp2
  go_loopw [5, 11] (fun v5 v11 wr => ∃ k : Nat, v5 = .int .i64 (highZ u (l.take k)) ∧ v11 = .int .i64 k ∧ k ≤ l.length ∧ Below W.heap.size W wr) (fun _ v11 _ => l.length - (intOf v11).toNat)
  case atStart => exact ⟨0, rfl, rfl, Nat.zero_le _, Below.refl _ _⟩
  case round =>
    obtain ⟨k, rfl, rfl, hk, hB⟩ := hrel
    have HB := Lib.hid hB
    clear hB
    by_cases hlt : k < l.length
    · have hki : (k : Int) < l.length := by omega
      obtain ⟨ad, rfl, hab, r0, r1, r2, r3, r4, r5, r6, r7⟩ := (HR.out.below HB.out).pc hlt
      have e1 := Lib.hid (highZ_snoc u l k hlt)
      generalize l[k] = x at *
      obtain ⟨xn, xx, xy, xw, xh, xf, xt, xl⟩ := x
      simp only at r0 r1 r2 r3 r4 r5 r6 r7 e1
      go_wp2_with fail
      go_roundw
      case rel => exact ⟨k + 1, by rw [e1.out], by go_num, by omega, HB.out.alloc HB.out.size _⟩
      case measure => simp [intOf]; omega
    · have hki : ¬ (k : Int) < l.length := by omega
      have HE : Hid (highZ u (l.take k) = highZ u l) := Lib.hid (by rw [List.take_of_length_le (by omega)])
      go_wp2
      go_ret
      exact ⟨ret_int HE.out, HB.out⟩
end Go.Proofs.Ytmlnpphblicghaa
