import Derived.Test.YtodnplllkpgfaaaFreeAwakeQ
import Derived.Test.YtodnplllkpgfaaaFreeMoreNQ
import Derived.Test.YtodnplllkpgfaaaZQ
import Derived.Test.YtodnplllkpgfaaaFlexInfoQ
/- FreeMore: in more room no item is smaller. -/
namespace Go.Proofs.Ytodnplllkpgfaaa
open Go Go.RowKit
set_option linter.unusedVariables false
set_option linter.unusedSimpArgs false
set_option maxRecDepth 20000
set_option maxHeartbeats 8000000

def moF (z : Int) : Fx := ⟨z % 4096, 0, -1, 1, 1, 0⟩
theorem moF_ok (z : Int) : FxOk (moF z) := by
  have h1 := Int.emod_nonneg z (show (4096 : Int) ≠ 0 by decide)
  have h2 := Int.emod_lt_of_pos z (show (0 : Int) < 4096 by decide)
  constructor <;> simp only [moF] <;> omega
theorem res_yes {inner : Int} {l : List Fx} (hr : InRoom inner) (hok : ∀ x ∈ l, FxOk x) (hlen : l.length ≤ 500) : resF inner l = sizesF inner l := by
  unfold resF
  have h1 : okL l = true := by unfold okL; rw [Bool.and_eq_true, List.all_eq_true, decide_eq_true_eq]; exact ⟨fun x hx => okF_iff.2 (hok x hx), hlen⟩
  have h2 : inR inner = true := by unfold inR; rw [Bool.and_eq_true, decide_eq_true_eq, decide_eq_true_eq]; exact ⟨hr.lo, hr.hi⟩
  rw [h1, h2]; rfl
theorem fmore_any (zs : List Int) (hl : zs.length ≤ 9223372036854775807) (A : Option Addr) (c : Nat) (inner more : Int) (W : World) (hR : Row W W.heap.size A (i64s zs)) :
    Calls Try.prog 4 #[.slice A zs.length c, .int .i64 inner, .int .i64 more] W fun e w' => e = .returned (.bool true) ∧ Below W.heap.size W w' := by
  have HR := Lib.hid hR
  clear hR
  have AW := Lib.hid (fun w => fawake_any w)
  have k12 : ∀ x : Int, bits .and .i64 x 4095 = x % 4096 := fun x => and_mask_i64 x 12 (by decide)
  have k15 : ∀ x : Int, bits .and .i64 x 32767 = x % 32768 := fun x => and_mask_i64 x 15 (by decide)
  go_enter Try.func4, Try.ntmps4
  go_wp2_with fail
  go_loopw [7, 8] (fun v7 v8 wr => ∃ (k : Nat) (A' : Option Addr) (c' : Nat), v7 = .slice A' k c' ∧ v8 = .int .i64 k ∧ k ≤ zs.length ∧ k ≤ 8 ∧ Hid (wr.ownsRow W.heap.size 26 6 (.slice A' k c') k (((zs.take k).map moF).flatMap fxC)) ∧ Hid (Below W.heap.size W wr)) (fun _ v8 _ => zs.length - (intOf v8).toNat)
  case atStart => exact ⟨0, none, 0, rfl, rfl, Nat.zero_le _, by omega, Lib.hid ⟨rfl, .inl ⟨rfl, rfl⟩⟩, Lib.hid (Below.refl _ _)⟩
  case round =>
    obtain ⟨k, A', c', rfl, rfl, hk, hk2, O, B⟩ := hrel
    by_cases hlt : k < zs.length ∧ k < 8
    · have hki : (k : Int) < zs.length := by omega
      have hkj : (k : Int) < 8 := by omega
      have z1 : decide ((k : Int) < zs.length) = true := decide_eq_true hki
      have z2 : decide ((k : Int) < 8) = true := decide_eq_true hkj
      obtain ⟨ad, rfl, hb, d0⟩ := (HR.out.below B.out).int hlt.1
      have ET : Hid (((zs.take (k + 1)).map moF).flatMap fxC = ((zs.take k).map moF).flatMap fxC ++ fxC (moF zs[k])) := Lib.hid (by
        rw [List.take_succ_eq_append_getElem hlt.1, List.map_append, List.flatMap_append]; simp)
      obtain ⟨z, hz⟩ : ∃ z, zs[k] = z := ⟨_, rfl⟩
      rw [hz] at d0 ET
      clear hz
      have n1 := Int.emod_nonneg z (show (4096 : Int) ≠ 0 by decide)
      have n2 := Int.emod_lt_of_pos z (show (0 : Int) < 4096 by decide)
      have O5 := Lib.hid (own_below O.out ((Below.refl _ wr).alloc (Nat.le_refl _) (.cells #[.int .i64 (z % 4096), .int .i64 0, .int .i64 (-1), .int .i64 1, .int .i64 1, .int .i64 0] 26)) (Nat.le_refl _))
      have B5 := Lib.hid (B.out.alloc B.out.size (.cells #[.int .i64 (z % 4096), .int .i64 0, .int .i64 (-1), .int .i64 1, .int .i64 1, .int .i64 0] 26))
      have W5 := Lib.hid (Whole.mk wr 26 #[.int .i64 (z % 4096), .int .i64 0, .int .i64 (-1), .int .i64 1, .int .i64 1, .int .i64 0])
      clear O B
      go_upto_region 4 with (at_builtin; refine wpList_pushOne rfl (.tmp 22) (.tmp 29) _ rfl W.heap.size 26 6 48 fxV0 Try.underlying23 fx_info rfl (by decide) k (.slice A' k c') _ rfl O5.out B5.out.size wr.heap.size [.int .i64 (z % 4096), .int .i64 0, .int .i64 (-1), .int .i64 1, .int .i64 1, .int .i64 0] rfl W5.out rfl (by simp [Value.oneCell']) (by unfold maxLen; omega) (by omega) ?_; intro A6 c6 w7 h5 ho5 hk5)
      have O7 : Hid (w7.ownsRow W.heap.size 26 6 (.slice A6 (k + 1) c6) (k + 1) (((zs.take (k + 1)).map moF).flatMap fxC)) := Lib.hid (by rw [ET.out]; exact h5)
      have B7 := Lib.hid (own_push O5.out B5.out B5.out.size ho5)
      clear h5 ho5 hk5 O5 B5 W5
      go_wp2_with fail
      go_roundw
      case rel => exact ⟨k + 1, A6, c6, by go_num, by go_num, by omega, by omega, O7, B7⟩
      case measure => simp [intOf] <;> omega
    · have z1 : decide ((k : Int) < zs.length) = false ∨ decide ((k : Int) < zs.length) = true ∧ decide ((k : Int) < 8) = false := by
        by_cases h1 : k < zs.length
        · exact .inr ⟨decide_eq_true (by omega), decide_eq_false (by omega)⟩
        · exact .inl (decide_eq_false (by omega))
      have Z1 := Lib.hid z1
      have i0 := Int.emod_nonneg inner (show (32768 : Int) ≠ 0 by decide)
      have i1 := Int.emod_lt_of_pos inner (show (0 : Int) < 32768 by decide)
      have m0 := Int.emod_nonneg more (show (32768 : Int) ≠ 0 by decide)
      have m1 := Int.emod_lt_of_pos more (show (0 : Int) < 32768 by decide)
      obtain ⟨a, ha⟩ : ∃ a, inner % 32768 = a := ⟨_, rfl⟩
      obtain ⟨b, hb⟩ : ∃ b, more % 32768 = b := ⟨_, rfl⟩
      rw [ha] at i0 i1
      rw [hb] at m0 m1
      obtain ⟨L, hL⟩ : ∃ L, (zs.take k).map moF = L := ⟨_, rfl⟩
      have hLk : L.length = k := by rw [← hL, List.length_map, List.length_take]; omega
      have hx : ∀ x ∈ L, FxOk x ∧ Free1 x ∧ x.grow = 1 ∧ x.shrink = 1 ∧ x.around = 0 := fun x hx => by
        rw [← hL] at hx
        obtain ⟨z, -, rfl⟩ := List.mem_map.1 hx
        exact ⟨moF_ok z, ⟨(by show (-1 : Int) < 0; decide), rfl, (moF_ok z).b0⟩, rfl, rfl, rfl⟩
      rw [hL] at O
      have ra : InRoom a := ⟨by omega, by omega⟩
      have rb : InRoom (a + b) := ⟨by omega, by omega⟩
      have MS := Lib.hid (more_sizes hx (by omega) ra rb i0 (by omega))
      have SA := Lib.hid (sizes_bd ra (fun x h => (hx x h).1) (by omega))
      have SB := Lib.hid (sizes_bd rb (fun x h => (hx x h).1) (by omega))
      have la : (sizesF a L).length = k := by rw [sizesF_len]; exact hLk
      have lb : (sizesF (a + b) L).length = k := by rw [sizesF_len]; exact hLk
      have ea := res_yes ra (fun x h => (hx x h).1) (by omega)
      have eb := res_yes rb (fun x h => (hx x h).1) (by omega)
      have FA := Lib.hid (fun (w : World) (h : Row w w.heap.size A' (L.flatMap fxC)) => (fres_any L A' c' a w h (by omega)).mono fun e w' hp => res_row hp ea la)
      have FB := Lib.hid (fun (w : World) (h : Row w w.heap.size A' (L.flatMap fxC)) => (fres_any L A' c' (a + b) w h (by omega)).mono fun e w' hp => res_row hp eb lb)
      rw [hLk] at FA FB
      obtain ⟨P, hP⟩ : ∃ P, sizesF a L = P := ⟨_, rfl⟩
      obtain ⟨Q, hQ⟩ : ∃ Q, sizesF (a + b) L = Q := ⟨_, rfl⟩
      rw [hP] at MS SA la FA
      rw [hQ] at MS SB lb FB
      have LA := Lib.hid la
      have LB := Lib.hid lb
      have RO := Lib.hid (row_of_own O.out)
      have HA := Lib.hid ha
      have HB := Lib.hid hb
      clear z1 hL hLk hx ra rb la lb ea eb hP hQ ha hb O
      rcases Z1.out with z1 | ⟨z1, z2⟩
      · have hki : ¬ (k : Int) < zs.length := of_decide_eq_false z1
        go_upto_region 7 with fail
        rw [HA.out, HB.out]
        clear k12 k15
        go_wp2_with fail
        refine (FA.out _ RO.out).mono ?_
        rintro e w1 ⟨A1, c1, rfl, r1, hb1⟩
        have R1 := Lib.hid r1
        have RO1 := Lib.hid ((RO.out.below hb1).more hb1.size)
        have B1 := Lib.hid (B.out.trans (hb1.mono B.out.size))
        clear r1 hb1 FA RO B
        have nab : -9223372036854775808 ≤ a + b ∧ a + b ≤ 9223372036854775807 := by omega
        go_wp2_with fail
        refine (FB.out _ RO1.out).mono ?_
        rintro e w2 ⟨A2, c2, rfl, r2, hb2⟩
        have R2 := Lib.hid r2
        have S1 := Lib.hid ((R1.out.below hb2).more hb2.size)
        have B2 := Lib.hid (B1.out.trans (hb2.mono B1.out.size))
        clear r2 hb2 FB RO1 B1 R1
        go_wp2_with fail
        go_loopw [11] (fun v11 wr => ∃ i : Nat, v11 = .int .i64 i ∧ i ≤ k ∧ Hid (Below w2.heap.size w2 wr)) (fun v11 _ => k - (intOf v11).toNat)
        case atStart => exact ⟨0, rfl, Nat.zero_le _, Lib.hid (Below.refl _ _)⟩
        case round =>
          generalize wr = w3 at *
          obtain ⟨i, rfl, hi, B3⟩ := hrel
          by_cases hlt2 : i < k
          · have hltz : (i : Int) < k := by omega
            have hp : i < P.length := by rw [LA.out]; exact hlt2
            have hq : i < Q.length := by rw [LB.out]; exact hlt2
            obtain ⟨a1, rfl, hab1, d1⟩ := (S1.out.below B3.out).int hp
            obtain ⟨a2, rfl, hab2, d2⟩ := (R2.out.below B3.out).int hq
            have q1 := MS.out i hp hq
            have q2 := SA.out _ (List.getElem_mem hp)
            have q3 := SB.out _ (List.getElem_mem hq)
            obtain ⟨x, hx⟩ : ∃ x, P[i] = x := ⟨_, rfl⟩
            obtain ⟨y, hy⟩ : ∃ y, Q[i] = y := ⟨_, rfl⟩
            rw [hx] at d1 q1 q2
            rw [hy] at d2 q1 q3
            clear hx hy
            have z3 : decide (y < x - 1) = false := decide_eq_false (by omega)
            have z4 : decide (x < 0) = false := decide_eq_false (by omega)
            have z3p : ¬ y < x - 1 := by omega
            have z4p : ¬ x < 0 := by omega
            have cx : ∀ q, (w3.drewN q).cell? (a1.add i) = some (.int .i64 x) := fun q => d1
            have cy : ∀ q, (w3.drewN q).cell? (a2.add i) = some (.int .i64 y) := fun q => d2
            go_upto_region 13 with fail
            go_quiet (fail)
            have B4 := Lib.hid (Below.drewN' B3.out nq)
            clear B3 d1 d2 cx cy
            generalize w3.drewN nq = w4 at *
            go_wp2_with fail
            go_roundw
            case rel => exact ⟨i + 1, by go_num, by omega, B4⟩
            case measure => simp [intOf] <;> omega
          · have hltz : ¬ (i : Int) < k := by omega
            have B4 := Lib.hid (B2.out.trans (B3.out.mono B2.out.size))
            go_wp2_with fail
            refine (AW.out _).mono ?_
            rintro e w4 ⟨rfl, hb4⟩
            have B5 := Lib.hid (B4.out.trans (hb4.mono B4.out.size))
            clear hb4
            go_wp2_with fail
            go_ret
            exact ⟨rfl, B5.out⟩
      · have hki : (k : Int) < zs.length := of_decide_eq_true z1
        have hkj : ¬ (k : Int) < 8 := of_decide_eq_false z2
        go_upto_region 7 with fail
        rw [HA.out, HB.out]
        clear k12 k15
        go_wp2_with fail
        refine (FA.out _ RO.out).mono ?_
        rintro e w1 ⟨A1, c1, rfl, r1, hb1⟩
        have R1 := Lib.hid r1
        have RO1 := Lib.hid ((RO.out.below hb1).more hb1.size)
        have B1 := Lib.hid (B.out.trans (hb1.mono B.out.size))
        clear r1 hb1 FA RO B
        have nab : -9223372036854775808 ≤ a + b ∧ a + b ≤ 9223372036854775807 := by omega
        go_wp2_with fail
        refine (FB.out _ RO1.out).mono ?_
        rintro e w2 ⟨A2, c2, rfl, r2, hb2⟩
        have R2 := Lib.hid r2
        have S1 := Lib.hid ((R1.out.below hb2).more hb2.size)
        have B2 := Lib.hid (B1.out.trans (hb2.mono B1.out.size))
        clear r2 hb2 FB RO1 B1 R1
        go_wp2_with fail
        go_loopw [11] (fun v11 wr => ∃ i : Nat, v11 = .int .i64 i ∧ i ≤ k ∧ Hid (Below w2.heap.size w2 wr)) (fun v11 _ => k - (intOf v11).toNat)
        case atStart => exact ⟨0, rfl, Nat.zero_le _, Lib.hid (Below.refl _ _)⟩
        case round =>
          generalize wr = w3 at *
          obtain ⟨i, rfl, hi, B3⟩ := hrel
          by_cases hlt2 : i < k
          · have hltz : (i : Int) < k := by omega
            have hp : i < P.length := by rw [LA.out]; exact hlt2
            have hq : i < Q.length := by rw [LB.out]; exact hlt2
            obtain ⟨a1, rfl, hab1, d1⟩ := (S1.out.below B3.out).int hp
            obtain ⟨a2, rfl, hab2, d2⟩ := (R2.out.below B3.out).int hq
            have q1 := MS.out i hp hq
            have q2 := SA.out _ (List.getElem_mem hp)
            have q3 := SB.out _ (List.getElem_mem hq)
            obtain ⟨x, hx⟩ : ∃ x, P[i] = x := ⟨_, rfl⟩
            obtain ⟨y, hy⟩ : ∃ y, Q[i] = y := ⟨_, rfl⟩
            rw [hx] at d1 q1 q2
            rw [hy] at d2 q1 q3
            clear hx hy
            have z3 : decide (y < x - 1) = false := decide_eq_false (by omega)
            have z4 : decide (x < 0) = false := decide_eq_false (by omega)
            have z3p : ¬ y < x - 1 := by omega
            have z4p : ¬ x < 0 := by omega
            have cx : ∀ q, (w3.drewN q).cell? (a1.add i) = some (.int .i64 x) := fun q => d1
            have cy : ∀ q, (w3.drewN q).cell? (a2.add i) = some (.int .i64 y) := fun q => d2
            go_upto_region 13 with fail
            go_quiet (fail)
            have B4 := Lib.hid (Below.drewN' B3.out nq)
            clear B3 d1 d2 cx cy
            generalize w3.drewN nq = w4 at *
            go_wp2_with fail
            go_roundw
            case rel => exact ⟨i + 1, by go_num, by omega, B4⟩
            case measure => simp [intOf] <;> omega
          · have hltz : ¬ (i : Int) < k := by omega
            have B4 := Lib.hid (B2.out.trans (B3.out.mono B2.out.size))
            go_wp2_with fail
            refine (AW.out _).mono ?_
            rintro e w4 ⟨rfl, hb4⟩
            have B5 := Lib.hid (B4.out.trans (hb4.mono B4.out.size))
            clear hb4
            go_wp2_with fail
            go_ret
            exact ⟨rfl, B5.out⟩
end Go.Proofs.Ytodnplllkpgfaaa
