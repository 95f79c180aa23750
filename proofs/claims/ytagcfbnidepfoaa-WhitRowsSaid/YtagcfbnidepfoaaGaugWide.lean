import Derived.Test.YtagcfbnidepfoaaMet
/- gaug.Wide. -/
namespace Go.Proofs.Ytagcfbnidepfoaa
open Go Go.RowKit
set_option linter.unusedVariables false
set_option linter.unusedSimpArgs false
set_option maxRecDepth 20000
set_option maxHeartbeats 4000000

theorem gheld_any (n : Int) (w : World) : Calls Try.prog 25 #[.int .i64 n] w fun e w' => e = .returned (.int .i64 (advZ n)) ∧ w = w' := by
  rcases (show n < 0 ∨ (n = 0) ∨ (0 < n ∧ n ≤ 65536) ∨ 65536 < n by omega) with h | h | ⟨h, h'⟩ | h
  all_goals
    go_enter Try.func25, Try.ntmps25
    go_wp2
    all_goals (go_ret; exact ⟨ret_int (by unfold advZ; omega), rfl⟩)
theorem wide_any (zs : List Int) (hz : zs.length = 256) (s : ByteArray) (hs : s.size ≤ 1000000) (W : World) :
    Calls Try.prog 22 #[.agg (i64s zs).toArray, .string s] W fun e w' => e = .returned (.int .i64 (wideZ zs s)) ∧ Below W.heap.size W w' := by
  have HZ := Lib.hid hz
  clear hz
  have MW := Lib.hid (Whole.mk W 24 (i64s zs).toArray)
  go_enter Try.func22, Try.ntmps22
  go_wp2
  go_loop [5, 6, 9] (fun t v i => ∃ k : Nat, k ≤ s.size ∧ i = .int .i64 k ∧ t = .int .i64 (wideL zs ((bytesOf s).take k))) (fun _ _ i => s.size - (intOf i).toNat)
  case atStart => exact ⟨0, Nat.zero_le _, rfl, by simp [wideL]⟩
  case round =>
    obtain ⟨k, hk, rfl, rfl⟩ := hrel
    by_cases hlt : k < s.size
    · have hs2 := Lib.hid (wideL_take zs s k hlt)
      obtain ⟨b1, b2⟩ := wideL_bd zs ((bytesOf s).take k)
      have b3 : ((bytesOf s).take k).length ≤ 1000000 := by rw [List.length_take, bytesOf_length]; omega
      have hby : (s[k].toNat : Int) < 256 := by have := s[k].toNat_lt; omega
      have hc := MW.out.num s[k].toNat (by rw [HZ.out]; omega)
      obtain ⟨b4, b5⟩ := advZ_bd (zs.getD s[k].toNat 0)
      generalize zs.getD s[k].toNat 0 = z at *
      generalize wideL zs ((bytesOf s).take k) = t at *
      go_wp2_with (go_at_call 25; refine (gheld_any _ _).mono ?_; rintro e w' ⟨rfl, rfl⟩)
      go_round
      case rel => exact ⟨k + 1, by omega, by go_num, by rw [hs2.out]⟩
      case measure => simp [intOf]; omega
    · go_wp2
      obtain rfl : k = s.size := by omega
      go_ret
      exact ⟨ret_int (wideL_all zs s), (Below.refl _ _).alloc (Nat.le_refl _) _⟩
end Go.Proofs.Ytagcfbnidepfoaa
