import Derived.Test.YteaenomfighaoaaAlAwake
import Derived.Test.YteaenomfighaoaaAlTame
/- AlongTwice: turned over each is as far from the end as else from the beginning. -/
namespace Go.Proofs.Yteaenomfighaoaa
open Go Go.RowKit
set_option linter.unusedVariables false
set_option linter.unusedSimpArgs false
set_option maxRecDepth 20000
set_option maxHeartbeats 8000000

theorem altwice_any (l0 : List Al) (hl : l0.length ≤ 9223372036854775807) (A : Option Addr) (c : Nat) (inner just : Int) (W : World) (hR : Row W W.heap.size A (l0.flatMap alC)) :
    Calls Try.prog 3 #[.slice A l0.length c, .int .i64 inner, .int .i64 just] W fun e w' => e = .returned (.bool true) ∧ Below W.heap.size W w' := by
  have AW := Lib.hid (fun w => alawake_any w)
  have TM := Lib.hid (altame_any l0 hl A c true W hR)
  clear hR
  have k10 : ∀ x : Int, bits .and .i64 x 1023 = x % 1024 := fun x => and_mask_i64 x 10 (by decide)
  have k8 : ∀ x : Int, bits .and .i64 x 255 = x % 256 := fun x => and_mask_i64 x 8 (by decide)
  have t0 := Int.emod_nonneg inner (show (1024 : Int) ≠ 0 by decide)
  have t1 := Int.emod_lt_of_pos inner (show (0 : Int) < 1024 by decide)
  obtain ⟨t, ht⟩ : ∃ t, inner % 1024 = t := ⟨_, rfl⟩
  rw [ht] at t0 t1
  obtain ⟨j, hj⟩ : ∃ j, just % 256 % 5 = j := ⟨_, rfl⟩
  go_enter Try.func3, Try.ntmps3
  go_wp2_with fail
  refine TM.out.mono ?_
  rintro e w1 ⟨L, A1, c1, rfl, o1, hl20, htm, hb1⟩
  have R1 := Lib.hid (row_of_own o1)
  have B1 := Lib.hid hb1
  have hok : ∀ x ∈ L, AlOk x := fun x hx => (htm x hx).1
  have hsm : ∀ x ∈ L, AlSm x := fun x hx => (htm x hx).2 rfl
  have HSM := Lib.hid hsm
  clear o1 hb1 TM htm hsm
  obtain ⟨n, hn⟩ : ∃ n, L.length = n := ⟨_, rfl⟩
  have HN := Lib.hid hn
  have FBD := freeA_bd (inner := t) hok (by omega) (by omega)
  have PB := Lib.hid (fun k (hk : k < L.length) => posA_bd (f := freeA t L) (j := j) hok (by omega) (by omega) hk)
  have CL := Lib.hid (fun (rev : Bool) (w : World) (h : Row w w.heap.size A1 (L.flatMap alC)) => (along_any L A1 c1 t j rev w h hok (by omega) (by omega)).mono fun e w' hp => pl_row hp rfl hn)
  rw [hn] at CL hl20 ⊢
  have LP : Hid ((placeA t L j false).length = n) := Lib.hid (by rw [placeA_len, hn])
  have LQ : Hid ((placeA t L j true).length = n) := Lib.hid (by rw [placeA_len, hn])
  have EP := Lib.hid (fun k (h : k < L.length) (h' : k < (placeA t L j false).length) => placeA_at (inner := t) (l := L) (j := j) (rev := false) rfl h h')
  have EQ := Lib.hid (fun k (h : k < L.length) (h' : k < (placeA t L j true).length) => placeA_at (inner := t) (l := L) (j := j) (rev := true) rfl h h')
  have CP := Lib.hid (CL.out false)
  have CQ := Lib.hid (CL.out true)
  clear CL
  generalize placeA t L j false = P at *
  generalize placeA t L j true = Q at *
  clear hn hok FBD
  go_upto_region 3 with fail
  rw [hj]
  clear ht hj k10 k8
  go_wp2_with fail
  refine (CP.out _ R1.out).mono ?_
  rintro e w2 ⟨A2, c2, rfl, r2, hb2⟩
  have R2 := Lib.hid r2
  have S1 := Lib.hid ((R1.out.below hb2).more hb2.size)
  have B2 := Lib.hid (B1.out.trans (hb2.mono B1.out.size))
  clear r2 hb2 R1 B1
  go_wp2_with fail
  refine (CQ.out _ S1.out).mono ?_
  rintro e w3 ⟨A3, c3, rfl, r3, hb3⟩
  have R3 := Lib.hid r3
  have R4 := Lib.hid ((R2.out.below hb3).more hb3.size)
  have S2 := Lib.hid ((S1.out.below hb3).more hb3.size)
  have B3 := Lib.hid (B2.out.trans (hb3.mono B2.out.size))
  clear r3 hb3 R2 S1 B2 CP CQ
  go_wp2_with fail
  go_loopw [10] (fun v10 wr => ∃ i : Nat, v10 = .int .i64 i ∧ i ≤ n ∧ Hid (Below w3.heap.size w3 wr)) (fun v10 _ => n - (intOf v10).toNat)
  case atStart => exact ⟨0, rfl, Nat.zero_le _, Lib.hid (Below.refl _ _)⟩
  case round =>
    generalize wr = w4 at *
    obtain ⟨i, rfl, hi, B4⟩ := hrel
    by_cases hlt : i < n
    · have hltz : (i : Int) < n := by omega
      have hil : i < L.length := by rw [HN.out]; exact hlt
      have hip : i < P.length := by rw [LP.out]; exact hlt
      have hiq : i < Q.length := by rw [LQ.out]; exact hlt
      obtain ⟨a1, rfl, hab1, d0, d1, d2, d3, d4⟩ := Row.al (S2.out.below B4.out) hil
      obtain ⟨a2, rfl, hab2, dp⟩ := (R4.out.below B4.out).int hip
      obtain ⟨a3, rfl, hab3, dq⟩ := (R3.out.below B4.out).int hiq
      have hx := HSM.out _ (List.getElem_mem hil)
      have e1 := EP.out i hil hip
      have e2 := EQ.out i hil hiq
      obtain ⟨-, -, -, -, -, -, p0, p1⟩ := PB.out i hil
      rw [e1] at dp
      rw [e2] at dq
      simp only [Bool.false_eq_true, if_false, if_true] at dp dq
      obtain ⟨p, hp⟩ : ∃ p, posA (freeA t L) L j i = p := ⟨_, rfl⟩
      rw [hp] at p0 p1 dp dq
      obtain ⟨s, hs⟩ : ∃ s, L[i].s = s := ⟨_, rfl⟩
      have s0 := hx.s0
      have s1 := hx.s1
      rw [hs] at d2 dq s0 s1
      obtain ⟨q, hq⟩ : ∃ q, t - p - s = q := ⟨_, rfl⟩
      rw [hq] at dq
      have n1 : -9223372036854775808 ≤ t - q ∧ t - q ≤ 9223372036854775807 := by omega
      have n2 : -9223372036854775808 ≤ t - q - s ∧ t - q - s ≤ 9223372036854775807 := by omega
      have z1 : (t - q - s != p) = false := by rw [bne_eq_false_iff_eq]; omega
      clear hx e1 e2 hp hs hq d0 d1 d3 d4 s0 s1 p0 p1
      have c2 : ∀ m, (w4.drewN m).cell? ⟨(a1.add (i * 5)).block, (a1.add (i * 5)).off + 2, none⟩ = some (.int .i64 s) := fun m => d2
      have cp : ∀ m, (w4.drewN m).cell? (a2.add i) = some (.int .i64 p) := fun m => dp
      have cq : ∀ m, (w4.drewN m).cell? (a3.add i) = some (.int .i64 q) := fun m => dq
      go_upto_region 9 with fail
      go_quiet (fail)
      have B5 := Lib.hid (Below.drewN' B4.out nq)
      clear B4 c2 cp cq d2 dp dq
      generalize w4.drewN nq = w5 at *
      go_wp2_with fail
      go_roundw
      case rel => exact ⟨i + 1, by go_num, by omega, B5⟩
      case measure => simp [intOf] <;> omega
    · have hltz : ¬ (i : Int) < n := by omega
      have B5 := Lib.hid (B3.out.trans (B4.out.mono B3.out.size))
      go_wp2_with fail
      refine (AW.out _).mono ?_
      rintro e w5 ⟨rfl, hb5⟩
      have B6 := Lib.hid (B5.out.trans (hb5.mono B5.out.size))
      clear hb5
      go_wp2_with fail
      go_ret
      exact ⟨rfl, B6.out⟩
end Go.Proofs.Yteaenomfighaoaa
