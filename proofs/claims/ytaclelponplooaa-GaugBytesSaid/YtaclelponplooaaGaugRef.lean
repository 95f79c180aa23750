import Derived.Test.YtaclelponplooaaRHeld
import Derived.Test.YtaclelponplooaaGaug
/- The document's own answers for widths (quoinref9): the same numbers as package gaug's. -/
namespace Go.Proofs.Ytaclelponplooaa
open Go Go.RowKit
set_option linter.unusedVariables false
set_option linter.unusedSimpArgs false
set_option maxRecDepth 20000
set_option maxHeartbeats 4000000

theorem radv_any (zs : List Int) (hz : zs.length = 256) (b : UInt8) (W : World) :
    Calls Try.prog 15 #[.agg (i64s zs).toArray, .int .u8 b.toNat] W fun e w' => e = .returned (.int .i64 (advZ (zs.getD b.toNat 0))) ∧ Below W.heap.size W w' := by
  have hby : (b.toNat : Int) < 256 := by have := b.toNat_lt; omega
  have hc := (Whole.mk W 24 (i64s zs).toArray).num b.toNat (by rw [hz]; omega)
  generalize zs.getD b.toNat 0 = z at *
  clear hz
  go_enter Try.func15, Try.ntmps15
  go_wp2_with (go_at_call 16; refine (rheld_any _ _ _ _).mono ?_; rintro e w' ⟨rfl, rfl⟩)
  go_ret
  exact ⟨ret_int (by unfold advZ; omega), (Below.refl _ _).alloc (Nat.le_refl _) _⟩
theorem rwide_any (zs : List Int) (hz : zs.length = 256) (s : ByteArray) (hs : s.size ≤ 1000000) (W : World) :
    Calls Try.prog 11 #[.agg (i64s zs).toArray, .string s] W fun e w' => e = .returned (.int .i64 (wideZ zs s)) ∧ Below W.heap.size W w' := by
  have HZ := Lib.hid hz
  clear hz
  have MW := Lib.hid (Whole.mk W 24 (i64s zs).toArray)
  have B0 := Lib.hid ((Below.refl W.heap.size W).alloc (Nat.le_refl _) (.cells (i64s zs).toArray 24))
  have hgt : W.heap.size < (W.alloc (.cells (i64s zs).toArray 24)).heap.size := by simp
  go_enter Try.func11, Try.ntmps11
  go_wp2
  generalize W.alloc (.cells (i64s zs).toArray 24) = W1 at *
  go_loopw [5, 6] (fun t i wr => ∃ k : Nat, k ≤ s.size ∧ i = .int .i64 k ∧ t = .int .i64 (wideL zs ((bytesOf s).take k)) ∧ Whole wr W.heap.size 24 (i64s zs) ∧ Below W.heap.size W wr) (fun _ i _ => s.size - (intOf i).toNat)
  case atStart => exact ⟨0, Nat.zero_le _, rfl, by simp [wideL], MW.out, B0.out⟩
  case round =>
    obtain ⟨k, hk, rfl, rfl, hM, hB⟩ := hrel
    have HM := Lib.hid hM
    have HB := Lib.hid hB
    have hz1 := hM.size
    clear hM hB
    by_cases hlt : k < s.size
    · have hs2 := Lib.hid (wideL_take zs s k hlt)
      obtain ⟨b1, b2⟩ := wideL_bd zs ((bytesOf s).take k)
      have b3 : ((bytesOf s).take k).length ≤ 1000000 := by rw [List.length_take, bytesOf_length]; omega
      obtain ⟨b4, b5⟩ := advZ_bd (zs.getD s[k].toNat 0)
      have HC := Lib.hid (fun w => radv_any zs HZ.out s[k] w)
      generalize advZ (zs.getD s[k].toNat 0) = z at *
      generalize wideL zs ((bytesOf s).take k) = t at *
      have zw := hz1
      go_upto_region 5 with fail
      refine region_lane [] [0, 1, 2, 3, 4, 5, 6] [7] (by kernel_rfl) (by kernel_rfl) (fun _ _ _ _ _ h => h) ?_
      simp only [pick, List.map_nil]
      refine wpQuiet_nil ⟨rfl, ?_⟩
      simp only [List.map_cons, List.map_nil, List.getD_cons_zero, List.getD_cons_succ, List.drop_succ_cons, List.drop_zero]
      refine laneO_run 1 (by kernel_rfl) ?_
      simp only [List.take_succ_cons, List.take_zero, List.drop_succ_cons, List.drop_zero]
      repeat (go_big_quiet_step (fail))
      refine wpQuiet_nil ?_
      refine laneO_fixed (v := .agg (i64s zs).toArray) (by kernel_rfl) (fun w hw => .inl ⟨by rfl, flat_gives met_flat (.tmp 2) rfl W.heap.size rfl zs HZ.out 24 (HM.out.under hw zw)⟩) ?_
      simp only [Act.put, List.setIfInBounds_toArray, List.set_cons_zero, List.set_cons_succ]
      refine laneO_run 3 (by kernel_rfl) ?_
      simp only [List.take_succ_cons, List.take_zero, List.drop_succ_cons, List.drop_zero]
      repeat (go_big_quiet_step (fail))
      refine wpQuiet_nil ?_
      refine laneO_call (v := .int .i64 z) (by kernel_rfl) (by rfl) (fun C hC h0 => ?_) ?_
      focus (go_big_quiet_op; exact ⟨_, fun w hw => (HC.out w).mono fun e w' ⟨he, hb⟩ => ⟨he, hC _ _ hw hb⟩, rfl⟩)
      simp only [Act.put, List.setIfInBounds_toArray, List.set_cons_zero, List.set_cons_succ]
      refine laneO_run 1 (by kernel_rfl) ?_
      simp only [List.take_succ_cons, List.take_zero, List.drop_succ_cons, List.drop_zero]
      repeat (go_big_quiet_step (fail))
      refine wpQuiet_nil ?_
      refine laneO_end0 rfl rfl fun w2 b6 => ?_
      have HM2 := Lib.hid (HM.out.under b6 hz1)
      have HB2 := Lib.hid (HB.out.trans (Below.mono b6 (by omega)))
      clear b6
      go_wp2_with fail
      go_roundw
      case rel => exact ⟨k + 1, by omega, by go_num, by rw [hs2.out], HM2.out, HB2.out⟩
      case measure => simp [intOf]; omega
    · go_wp2
      obtain rfl : k = s.size := by omega
      go_ret
      exact ⟨ret_int (wideL_all zs s), HB.out⟩
theorem rup_any (n : Int) (w : World) (hn : -9223372036854775808 ≤ n) (hn' : n ≤ 9223372036854775807) : Calls Try.prog 13 #[.int .i64 n] w fun e w' => e = .returned (.int .i64 (upZ n)) ∧ w = w' := by
  by_cases h : n < 0
  · go_enter Try.func13, Try.ntmps13
    go_wp2
    go_ret
    exact ⟨ret_int (by unfold upZ; rw [if_pos h]), rfl⟩
  · have e1 : n.tdiv 2 = n / 2 := Int.tdiv_eq_ediv_of_nonneg (by omega)
    go_enter Try.func13, Try.ntmps13
    go_wp2
    go_ret
    exact ⟨ret_int (by unfold upZ; rw [if_neg (by omega)]; omega), rfl⟩
theorem rok_any (zs : List Int) (hz : zs.length = 256) (W : World) :
    Calls Try.prog 10 #[.agg (i64s zs).toArray] W fun e w' => e = .returned (.bool (okZ zs)) ∧ Below W.heap.size W w' := by
  have HZ := Lib.hid hz
  clear hz
  have MW := Lib.hid (Whole.mk W 24 (i64s zs).toArray)
  go_enter Try.func10, Try.ntmps10
  go_wp2
  go_loop [3] (fun i => ∃ k : Nat, k ≤ 256 ∧ i = .int .i64 k ∧ Hid (∀ z ∈ zs.take k, advZ z = z)) (fun i => 256 - (intOf i).toNat)
  case atStart => exact ⟨0, Nat.zero_le _, rfl, Lib.hid (by simp)⟩
  case round =>
    obtain ⟨k, hk, rfl, HA⟩ := hrel
    by_cases hlt : k < 256
    · have hzl : k < zs.length := by rw [HZ.out]; exact hlt
      have HS := Lib.hid (all_take zs k hzl HA.out)
      have HF := Lib.hid (okZ_false zs k hzl)
      have hc := MW.out.num k hzl
      generalize zs.getD k 0 = z at *
      rcases (show z < 0 ∨ 65536 < z ∨ (0 ≤ z ∧ z ≤ 65536) by omega) with h | h | ⟨h, h'⟩
      · have HF2 := Lib.hid (HF.out (by unfold advZ; omega))
        go_wp2
        go_ret
        exact ⟨ret_bool HF2.out.symm, (Below.refl _ _).alloc (Nat.le_refl _) _⟩
      · have HF2 := Lib.hid (HF.out (by unfold advZ; omega))
        go_wp2
        go_ret
        exact ⟨ret_bool HF2.out.symm, (Below.refl _ _).alloc (Nat.le_refl _) _⟩
      · have HS2 := Lib.hid (HS.out (by unfold advZ; omega))
        go_wp2
        go_round
        case rel => exact ⟨k + 1, by omega, by go_num, HS2⟩
        case measure => simp [intOf]; omega
    · go_wp2
      obtain rfl : k = 256 := by omega
      have HT := Lib.hid (okZ_true zs (by have := HA.out; rw [List.take_of_length_le (by rw [HZ.out]; omega)] at this; exact this))
      go_ret
      exact ⟨ret_bool HT.out.symm, (Below.refl _ _).alloc (Nat.le_refl _) _⟩
end Go.Proofs.Ytaclelponplooaa
