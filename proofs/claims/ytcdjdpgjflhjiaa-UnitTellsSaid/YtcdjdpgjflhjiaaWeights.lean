import Derived.Test.YtcdjdpgjflhjiaaSame
import Derived.Deep.RegionHeld3
/- quoinlaw1.Weights by its contract. -/
namespace Go.Proofs.Ytcdjdpgjflhjiaa
open Go.RowKit
set_option linter.unusedVariables false
set_option linter.unusedSimpArgs false

theorem and31 (n : Int) : bits .and .i64 n 31 = n % 32 := and_mask_i64 n 5 (by decide)
def wtZ (z : Int) : Int := (z % 18446744073709551616) / 2 ^ (14 + (z % 32).toNat)
def weightsZ (zs : List Int) : List Int := (zs.take 40).map wtZ
theorem wt_pow (m : Nat) (h1 : 14 ≤ m) : 16384 ≤ (2 : Int) ^ m := by
  have : (2 : Nat) ^ 14 ≤ 2 ^ m := Nat.pow_le_pow_right (by decide) h1
  have e : ((2 ^ m : Nat) : Int) = (2 : Int) ^ m := by simp
  omega
theorem wt_eq (z : Int) : IntKind.i64.wrap (IntKind.u64.wrap z / 2 ^ min (IntKind.u64.wrap (IntKind.i64.wrap (14 + z % 32))).toNat 64) = wtZ z := by
  have h1 : IntKind.i64.wrap (14 + z % 32) = 14 + z % 32 := IntWalk.i64_in _ (by omega)
  have h2 : IntKind.u64.wrap (14 + z % 32) = 14 + z % 32 := by rw [IntKind.wrap_u64]; omega
  have h3 : min (14 + z % 32).toNat 64 = 14 + (z % 32).toNat := by omega
  rw [h1, h2, h3, IntKind.wrap_u64]
  have hp := wt_pow (14 + (z % 32).toNat) (by omega)
  have h4 : 0 ≤ z % 18446744073709551616 := Int.emod_nonneg _ (by omega)
  have h5 : z % 18446744073709551616 < 18446744073709551616 := Int.emod_lt_of_pos _ (by omega)
  unfold wtZ
  have h6 := Int.ediv_nonneg h4 (show 0 ≤ (2 : Int) ^ (14 + (z % 32).toNat) by omega)
  have h7 : z % 18446744073709551616 / 2 ^ (14 + (z % 32).toNat) < 1125899906842624 := by
    rw [Int.ediv_lt_iff_lt_mul (by omega)]
    have := Int.mul_le_mul_of_nonneg_left hp (show (0 : Int) ≤ 1125899906842624 by decide)
    omega
  rw [IntKind.wrap_i64]
  omega
theorem wt_bd (z : Int) : 0 ≤ wtZ z ∧ wtZ z ≤ 1125899906842624 := by
  have hp := wt_pow (14 + (z % 32).toNat) (by omega)
  have h4 : 0 ≤ z % 18446744073709551616 := Int.emod_nonneg _ (by omega)
  have h5 : z % 18446744073709551616 < 18446744073709551616 := Int.emod_lt_of_pos _ (by omega)
  unfold wtZ
  have h6 := Int.ediv_nonneg h4 (show 0 ≤ (2 : Int) ^ (14 + (z % 32).toNat) by omega)
  have h7 : z % 18446744073709551616 / 2 ^ (14 + (z % 32).toNat) < 1125899906842624 := by
    rw [Int.ediv_lt_iff_lt_mul (by omega)]
    have := Int.mul_le_mul_of_nonneg_left hp (show (0 : Int) ≤ 1125899906842624 by decide)
    omega
  omega
theorem weights_ok (zs : List Int) : sumOk (weightsZ zs) = true := by
  simp only [sumOk, Bool.and_eq_true, decide_eq_true_eq, List.all_eq_true, weightsZ]
  refine ⟨by simp; omega, fun z hz => ?_⟩
  obtain ⟨y, _, rfl⟩ := List.mem_map.1 hz
  simpa [wOk] using wt_bd y
theorem weights_length (zs : List Int) : (weightsZ zs).length ≤ 40 := by simp [weightsZ]; omega
theorem weights_any (A : Option Addr) (c : Nat) (zs : List Int) (w : World) (hr : Row w w.heap.size A (i64s zs)) (hz : ints64 zs) (hm : zs.length ≤ 9223372036854775807) :
    Calls Try.prog 24 #[.slice A zs.length c] w fun e w' => ∃ A' c', e = .returned (.slice A' (weightsZ zs).length c') ∧ Row w' w'.heap.size A' (i64s (weightsZ zs)) ∧ Below w.heap.size w w' := by
  have HZ := Lib.hid hz
  clear hz
  go_enter Try.func24, Try.ntmps24
  go_wp2_with fail
  go_loopw [3, 4] (fun v i wr => ∃ (k : Nat) (A1 : Option Addr) (c1 : Nat), k ≤ zs.length ∧ k ≤ 40 ∧ i = .int .i64 k ∧ v = .slice A1 k c1 ∧
        wr.ownsRow w.heap.size 2 1 (.slice A1 k c1) k (i64s ((zs.take k).map wtZ)) ∧ Below w.heap.size w wr)
      (fun _ i _ => zs.length - (intOf i).toNat)
  case atStart => exact ⟨0, none, 0, Nat.zero_le _, by omega, rfl, rfl, by simp [i64s]; exact World.ownsRow_nil _ _ _ _, Below.refl _ _⟩
  case round =>
    obtain ⟨k, A1, c1, hk, hk', rfl, rfl, hown, hbel⟩ := hrel
    by_cases hlt : k < zs.length
    · by_cases hl4 : k < 40
      · obtain ⟨ad, rfl, hadb, hcell⟩ := (hr.below hbel).int hlt
        rw [← add_block ad k] at hadb
        obtain ⟨h1, h2⟩ := HZ.out k hlt
        have a31 := and31 zs[k]
        have HE := Lib.hid (take_succ' zs k hlt)
        generalize zs[k] = z at *
        have hlt' : (k : Int) < (zs.length : Int) := by omega
        go_wp2_with fail
        go_region_held3 (fun w' => w'.cell? (ad.add k) = some (.int .i64 z)) (first | go_keep | (rw [hbel3.cell hadb]; assumption))
          ((go_loud (refine step_new (w := wr) (by rfl) _ _ _ (by rfl) w.heap.size 2 1 8 (.int .i64 0) Try.underlying22 int_info rfl (by decide) k c1 A1 _ (by rfl) hown (by rfl) ⟨by omega, by unfold maxLen; omega, hbel.size⟩ (by rfl) (by simp [Value.oneCell']) _ ⟨1, rfl⟩ ?_); intro A3 c3 w3 hown3 hbel3))
        go_wp2
        go_roundw
        case rel =>
          refine ⟨k + 1, A3, c3, by omega, by omega, by go_num, rfl, ?_, hbel.trans hbel3⟩
          have hx : (zs.take (k + 1)).map wtZ = (zs.take k).map wtZ ++ [wtZ z] := by rw [HE.out, List.map_append]; rfl
          rw [hx, i64s_append]
          rw [← wt_eq z]
          exact hown3
        case measure => simp [intOf]; omega
      · obtain rfl : k = 40 := by omega
        go_wp2
        go_ret
        have e : weightsZ zs = (zs.take 40).map wtZ := rfl
        refine ⟨A1, c1, ?_, by rw [e]; exact row_of_own hown, hbel⟩
        rw [e]; simp; omega
    · obtain rfl : k = zs.length := by omega
      go_wp2
      go_ret
      have e : weightsZ zs = (zs.take zs.length).map wtZ := by unfold weightsZ; rw [List.take_of_length_le hk', List.take_length]
      refine ⟨A1, c1, ?_, by rw [e]; exact row_of_own hown, hbel⟩
      rw [e]; simp
end Go.Proofs.Ytcdjdpgjflhjiaa
