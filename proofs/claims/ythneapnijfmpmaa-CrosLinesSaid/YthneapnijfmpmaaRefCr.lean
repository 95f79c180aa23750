import Derived.Test.YthneapnijfmpmaaCrNum
import Derived.Test.YthneapnijfmpmaaRHlf
import Derived.Test.YthneapnijfmpmaaRClamp
/- quoinref9's Self, Stretch, Off, CrossLines. -/
namespace Go.Proofs.Ythneapnijfmpmaa
open Go Go.RowKit
set_option linter.unusedVariables false
set_option linter.unusedSimpArgs false
set_option maxRecDepth 20000
set_option maxHeartbeats 4000000

theorem rself_any (items self : Int) (w : World) : Calls Try.prog 13 #[.int .i64 items, .int .i64 self] w fun e w' => e = .returned (.int .i64 (selfZ items self)) ∧ w' = w := by
  by_cases h : self = 0
  · have z : (self == 0) = true := by rw [beq_iff_eq]; exact h
    have HZ : Hid (selfZ items self = items) := Lib.hid (by unfold selfZ; rw [if_pos h])
    have H0 := Lib.hid h
    clear h
    go_enter Try.func13, Try.ntmps13
    go_wp2_with fail
    go_ret
    exact ⟨ret_int (by rw [HZ.out]), rfl⟩
  · have z : (self == 0) = false := by rw [beq_eq_false_iff_ne]; exact h
    have HZ : Hid (selfZ items self = wrap64 (self - 1)) := Lib.hid (by unfold selfZ; rw [if_neg h])
    clear h
    go_enter Try.func13, Try.ntmps13
    go_wp2_with fail
    go_ret
    exact ⟨ret_int (by rw [HZ.out]), rfl⟩
theorem rfill_any (line around least most : Int) (w : World) (h : -9223372036854775808 ≤ line - around ∧ line - around ≤ 9223372036854775807) : Calls Try.prog 14 #[.int .i64 line, .int .i64 around, .int .i64 least, .int .i64 most] w fun e w' => e = .returned (.int .i64 (fillZ line around least most)) ∧ w' = w := by
  go_enter Try.func14, Try.ntmps14
  go_wp2_with fail
  refine (rclamp_any _ _ _ _).mono ?_
  rintro e w' ⟨rfl, rfl⟩
  have HZ : Hid (fillZ line around least most = max (max 0 least) (if 0 ≤ most then min (line - around) most else line - around)) := Lib.hid rfl
  rw [← HZ.out]
  go_wp2_with fail
  go_ret
  exact ⟨rfl, rfl⟩
theorem roff_any (line outer : Int) (before after : Bool) (self : Int) (rev : Bool) (w : World) (h : -4611686018427387904 ≤ line - outer ∧ line - outer ≤ 4611686018427387904) :
    Calls Try.prog 15 #[.int .i64 line, .int .i64 outer, .bool before, .bool after, .int .i64 self, .bool rev] w fun e w' => e = .returned (.int .i64 (offZ line outer before after self rev)) ∧ w' = w := by
  obtain ⟨f, hf⟩ : ∃ f, line - outer = f := ⟨_, rfl⟩
  have HO : ∀ z, (if before || after then (if f ≤ 0 ∨ before = false then 0 else if after then f / 2 else f) else if self = 2 then f / 2 else if decide (self = 1) != rev then f else 0) = z → Hid (offZ line outer before after self rev = z) := fun z hz => Lib.hid (by unfold offZ; rw [hf]; exact hz)
  have n0 : -9223372036854775808 ≤ f ∧ f ≤ 9223372036854775807 := by omega
  rw [hf] at h
  have HH := Lib.hid (fun w => rhalf_any f w (by omega) (by omega))
  cases before <;> cases after
  · by_cases h2 : self = 2
    · have z2 : (self == 2) = true := by rw [beq_iff_eq]; exact h2
      have E := HO (f / 2) (by simp [h2])
      clear HO h2
      go_enter Try.func15, Try.ntmps15
      go_wp2_with fail
      refine (HH.out _).mono ?_
      rintro e w' ⟨rfl, rfl⟩
      go_wp2_with fail
      go_ret
      exact ⟨ret_int (by rw [E.out]), rfl⟩
    · have z2 : (self == 2) = false := by rw [beq_eq_false_iff_ne]; exact h2
      by_cases h1 : self = 1
      · have z1 : (self == 1) = true := by rw [beq_iff_eq]; exact h1
        cases rev
        · have E := HO (f) (by simp [h2, h1])
          clear HO h2 h1
          go_enter Try.func15, Try.ntmps15
          go_wp2_with fail
          go_ret
          exact ⟨ret_int (by rw [E.out]), rfl⟩
        · have E := HO (0) (by simp [h2, h1])
          clear HO h2 h1
          go_enter Try.func15, Try.ntmps15
          go_wp2_with fail
          go_ret
          exact ⟨ret_int (by rw [E.out]), rfl⟩
      · have z1 : (self == 1) = false := by rw [beq_eq_false_iff_ne]; exact h1
        cases rev
        · have E := HO (0) (by simp [h2, h1])
          clear HO h2 h1
          go_enter Try.func15, Try.ntmps15
          go_wp2_with fail
          go_ret
          exact ⟨ret_int (by rw [E.out]), rfl⟩
        · have E := HO (f) (by simp [h2, h1])
          clear HO h2 h1
          go_enter Try.func15, Try.ntmps15
          go_wp2_with fail
          go_ret
          exact ⟨ret_int (by rw [E.out]), rfl⟩
  · by_cases h0 : f ≤ 0
    · have z0 : decide (f ≤ 0) = true := decide_eq_true h0
      have E := HO (0) (by simp [h0])
      clear HO h0
      go_enter Try.func15, Try.ntmps15
      go_wp2_with fail
      go_ret
      exact ⟨ret_int (by rw [E.out]), rfl⟩
    · have z0 : decide (f ≤ 0) = false := decide_eq_false h0
      have E := HO (0) (by simp [h0])
      clear HO h0
      go_enter Try.func15, Try.ntmps15
      go_wp2_with fail
      go_ret
      exact ⟨ret_int (by rw [E.out]), rfl⟩
  · by_cases h0 : f ≤ 0
    · have z0 : decide (f ≤ 0) = true := decide_eq_true h0
      have E := HO (0) (by simp [h0])
      clear HO h0
      go_enter Try.func15, Try.ntmps15
      go_wp2_with fail
      go_ret
      exact ⟨ret_int (by rw [E.out]), rfl⟩
    · have z0 : decide (f ≤ 0) = false := decide_eq_false h0
      have E := HO (f) (by simp [h0])
      clear HO h0
      go_enter Try.func15, Try.ntmps15
      go_wp2_with fail
      go_ret
      exact ⟨ret_int (by rw [E.out]), rfl⟩
  · by_cases h0 : f ≤ 0
    · have z0 : decide (f ≤ 0) = true := decide_eq_true h0
      have E := HO (0) (by simp [h0])
      clear HO h0
      go_enter Try.func15, Try.ntmps15
      go_wp2_with fail
      go_ret
      exact ⟨ret_int (by rw [E.out]), rfl⟩
    · have z0 : decide (f ≤ 0) = false := decide_eq_false h0
      have E := HO (f / 2) (by simp [h0])
      clear HO h0
      go_enter Try.func15, Try.ntmps15
      go_wp2_with fail
      refine (HH.out _).mono ?_
      rintro e w' ⟨rfl, rfl⟩
      go_wp2_with fail
      go_ret
      exact ⟨ret_int (by rw [E.out]), rfl⟩
end Go.Proofs.Ythneapnijfmpmaa
