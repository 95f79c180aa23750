import Derived.Test.YtbhdpfacfgldiaaGreatDoorZRQ
import Derived.Laws.BitsAllLaws
/- quoinlaw6.Data: a short text. -/
namespace Go.Proofs.YtbhdpfacfgldiaaGreatDoor
open Go Go.RowKit
set_option linter.unusedVariables false
set_option linter.unusedSimpArgs false
set_option maxRecDepth 20000
set_option maxHeartbeats 4000000

def dataS : List ByteArray := [⟨#[97]⟩, ⟨#[98]⟩, ⟨#[32]⟩, ⟨#[32, 32]⟩, ⟨#[10]⟩, ⟨#[97, 98]⟩, ⟨#[99, 32]⟩, ⟨#[]⟩]
def dataC : Array Value := #[.string ⟨#[97]⟩, .string ⟨#[98]⟩, .string ⟨#[32]⟩, .string ⟨#[32, 32]⟩, .string ⟨#[10]⟩, .string ⟨#[97, 98]⟩, .string ⟨#[99, 32]⟩, .string ⟨#[]⟩]
theorem data_at (w : World) (t : TypeId) (j : Nat) (hj : j < 8) : ∃ s : ByteArray, s.size ≤ 2 ∧ (w.alloc (.cells dataC t)).cell? ⟨w.heap.size, j, none⟩ = some (.string s) := by
  have h := Whole.mk w t dataC
  have h2 := h.cell j
  rcases (show j = 0 ∨ j = 1 ∨ j = 2 ∨ j = 3 ∨ j = 4 ∨ j = 5 ∨ j = 6 ∨ j = 7 by omega) with rfl | rfl | rfl | rfl | rfl | rfl | rfl | rfl <;> exact ⟨_, by decide, h2⟩
theorem data_any (n : Int) (W : World) : Calls Tryz.prog 28 #[.int .i64 n] W fun e w' => ∃ s : ByteArray, e = .returned (.string s) ∧ s.size ≤ 1000 ∧ Below W.heap.size W w' := by
  have a7 : ∀ x : Int, bits .and .i64 x 7 = x % 8 := fun x => and_mask_i64 x 3 (by decide)
  have B0 := Lib.hid (Below.refl W.heap.size W)
  go_enter Tryz.func28, Tryz.ntmps28
  go_upto_region 3 with fail
  go_loopw [3, 4] (fun v3 v4 wr => ∃ (s : ByteArray) (i : Nat), i ≤ 10 ∧ v3 = .string s ∧ v4 = .int .i64 i ∧ s.size ≤ 2 * i ∧ Hid (Below W.heap.size W wr)) (fun _ v4 _ => 10 - (intOf v4).toNat)
  case atStart => exact ⟨⟨#[]⟩, 0, Nat.zero_le _, rfl, rfl, by decide, B0⟩
  case round =>
    obtain ⟨s, i, hi, rfl, rfl, hs, B⟩ := hrel
    have hsz := B.out.size
    rcases (show i = 0 ∨ i = 1 ∨ i = 2 ∨ i = 3 ∨ i = 4 ∨ i = 5 ∨ i = 6 ∨ i = 7 ∨ i = 8 ∨ i = 9 ∨ i = 10 by omega) with rfl | rfl | rfl | rfl | rfl | rfl | rfl | rfl | rfl | rfl | rfl
    rotate_right
    · go_wp2_with fail
      go_ret
      exact ⟨s, rfl, by omega, B.out⟩
    · obtain ⟨t, ht, hc⟩ := data_at wr 9 (n % 8).toNat (by omega)
      unfold dataC at hc
      have B2 := Lib.hid (B.out.alloc hsz (.cells dataC 9))
      go_wp2_with fail
      go_roundw
      case rel => exact ⟨_, 1, by omega, rfl, by go_num, by simp [ByteArray.size_append]; omega, B2⟩
      case measure => simp [intOf]
    · obtain ⟨t, ht, hc⟩ := data_at wr 9 (n / 8 % 8).toNat (by omega)
      unfold dataC at hc
      have B2 := Lib.hid (B.out.alloc hsz (.cells dataC 9))
      go_wp2_with fail
      go_roundw
      case rel => exact ⟨_, 2, by omega, rfl, by go_num, by simp [ByteArray.size_append]; omega, B2⟩
      case measure => simp [intOf]
    · obtain ⟨t, ht, hc⟩ := data_at wr 9 (n / 64 % 8).toNat (by omega)
      unfold dataC at hc
      have B2 := Lib.hid (B.out.alloc hsz (.cells dataC 9))
      go_wp2_with fail
      go_roundw
      case rel => exact ⟨_, 3, by omega, rfl, by go_num, by simp [ByteArray.size_append]; omega, B2⟩
      case measure => simp [intOf]
    · obtain ⟨t, ht, hc⟩ := data_at wr 9 (n / 512 % 8).toNat (by omega)
      unfold dataC at hc
      have B2 := Lib.hid (B.out.alloc hsz (.cells dataC 9))
      go_wp2_with fail
      go_roundw
      case rel => exact ⟨_, 4, by omega, rfl, by go_num, by simp [ByteArray.size_append]; omega, B2⟩
      case measure => simp [intOf]
    · obtain ⟨t, ht, hc⟩ := data_at wr 9 (n / 4096 % 8).toNat (by omega)
      unfold dataC at hc
      have B2 := Lib.hid (B.out.alloc hsz (.cells dataC 9))
      go_wp2_with fail
      go_roundw
      case rel => exact ⟨_, 5, by omega, rfl, by go_num, by simp [ByteArray.size_append]; omega, B2⟩
      case measure => simp [intOf]
    · obtain ⟨t, ht, hc⟩ := data_at wr 9 (n / 32768 % 8).toNat (by omega)
      unfold dataC at hc
      have B2 := Lib.hid (B.out.alloc hsz (.cells dataC 9))
      go_wp2_with fail
      go_roundw
      case rel => exact ⟨_, 6, by omega, rfl, by go_num, by simp [ByteArray.size_append]; omega, B2⟩
      case measure => simp [intOf]
    · obtain ⟨t, ht, hc⟩ := data_at wr 9 (n / 262144 % 8).toNat (by omega)
      unfold dataC at hc
      have B2 := Lib.hid (B.out.alloc hsz (.cells dataC 9))
      go_wp2_with fail
      go_roundw
      case rel => exact ⟨_, 7, by omega, rfl, by go_num, by simp [ByteArray.size_append]; omega, B2⟩
      case measure => simp [intOf]
    · obtain ⟨t, ht, hc⟩ := data_at wr 9 (n / 2097152 % 8).toNat (by omega)
      unfold dataC at hc
      have B2 := Lib.hid (B.out.alloc hsz (.cells dataC 9))
      go_wp2_with fail
      go_roundw
      case rel => exact ⟨_, 8, by omega, rfl, by go_num, by simp [ByteArray.size_append]; omega, B2⟩
      case measure => simp [intOf]
    · obtain ⟨t, ht, hc⟩ := data_at wr 9 (n / 16777216 % 8).toNat (by omega)
      unfold dataC at hc
      have B2 := Lib.hid (B.out.alloc hsz (.cells dataC 9))
      go_wp2_with fail
      go_roundw
      case rel => exact ⟨_, 9, by omega, rfl, by go_num, by simp [ByteArray.size_append]; omega, B2⟩
      case measure => simp [intOf]
    · obtain ⟨t, ht, hc⟩ := data_at wr 9 (n / 134217728 % 8).toNat (by omega)
      unfold dataC at hc
      have B2 := Lib.hid (B.out.alloc hsz (.cells dataC 9))
      go_wp2_with fail
      go_roundw
      case rel => exact ⟨_, 10, by omega, rfl, by go_num, by simp [ByteArray.size_append]; omega, B2⟩
      case measure => simp [intOf]
end Go.Proofs.YtbhdpfacfgldiaaGreatDoor
