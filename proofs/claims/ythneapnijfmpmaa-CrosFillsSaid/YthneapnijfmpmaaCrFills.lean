import Derived.Test.YthneapnijfmpmaaCrAwake
import Derived.Lib.MinMax
/- CrosFills: what is stretched fills its line; where an item stands. -/
namespace Go.Proofs.Ythneapnijfmpmaa
open Go Go.RowKit
set_option linter.unusedVariables false
set_option linter.unusedSimpArgs false
set_option maxRecDepth 20000
set_option maxHeartbeats 8000000

theorem crfills_any (line0 around0 least0 most0 outer0 : Int) (W : World) :
    Calls Try.prog 3 #[.int .i64 line0, .int .i64 around0, .int .i64 least0, .int .i64 most0, .int .i64 outer0] W fun e w' => e = .returned (.bool true) ∧ Below W.heap.size W w' := by
  have AW := Lib.hid (fun w => crawake_any w)
  have k8 : ∀ x : Int, bits .and .i64 x 255 = x % 256 := fun x => and_mask_i64 x 8 (by decide)
  have k12 : ∀ x : Int, bits .and .i64 x 4095 = x % 4096 := fun x => and_mask_i64 x 12 (by decide)
  have k16 : ∀ x : Int, bits .and .i64 x 65535 = x % 65536 := fun x => and_mask_i64 x 16 (by decide)
  obtain ⟨li, h1⟩ : ∃ z, line0 % 65536 = z := ⟨_, rfl⟩
  obtain ⟨ar, h2⟩ : ∃ z, around0 % 256 = z := ⟨_, rfl⟩
  obtain ⟨le, h3⟩ : ∃ z, least0 % 4096 = z := ⟨_, rfl⟩
  obtain ⟨mo, h4⟩ : ∃ z, most0 % 65536 = z := ⟨_, rfl⟩
  obtain ⟨ou, h5⟩ : ∃ z, outer0 % 65536 = z := ⟨_, rfl⟩
  have a0 : 0 ≤ li ∧ li < 65536 := by omega
  have b0 : 0 ≤ ar ∧ ar < 256 := by omega
  have c0 : 0 ≤ le ∧ le < 4096 := by omega
  have d0 : 0 ≤ mo ∧ mo < 65536 := by omega
  have e0 : 0 ≤ ou ∧ ou < 65536 := by omega
  have F1 := Lib.hid (fun w => cfill_any li ar le (-1) w (by omega))
  have F2 := Lib.hid (fun w => cfill_any li ar 0 mo w (by omega))
  have O1 := Lib.hid (fun w => coff_any li ou false false 0 false w (by omega))
  have O2 := Lib.hid (fun w => coff_any li ou false false 1 false w (by omega))
  have O3 := Lib.hid (fun w => coff_any li ou false false 2 false w (by omega))
  have O4 := Lib.hid (fun w => coff_any li ou false false 3 false w (by omega))
  have S1 := Lib.hid (fun w => cself_any 2 0 w)
  have S2 := Lib.hid (fun w => cself_any 2 4 w)
  rw [show selfZ 2 0 = 2 from rfl] at S1
  rw [show selfZ 2 4 = 3 by decide +kernel] at S2
  rw [show offZ li ou false false 0 false = 0 from rfl] at O1
  rw [show offZ li ou false false 1 false = li - ou from rfl] at O2
  rw [show offZ li ou false false 2 false = (li - ou) / 2 from rfl] at O3
  rw [show offZ li ou false false 3 false = 0 from rfl] at O4
  have g1 : fillZ li ar le (-1) = max (max (li - ar) le) 0 := by unfold fillZ; rw [if_neg (by omega)]; omega
  have g2 : fillZ li ar 0 mo = max (min (li - ar) mo) 0 := by unfold fillZ; rw [if_pos (by omega)]; omega
  rw [g1] at F1
  rw [g2] at F2
  clear g1 g2
  obtain ⟨f, hf⟩ : ∃ f, li - ou = f := ⟨_, rfl⟩
  obtain ⟨x, hx⟩ : ∃ x, li - ar = x := ⟨_, rfl⟩
  rw [hf] at O2 O3
  rw [hx] at F1 F2
  have hfb : -65536 ≤ f ∧ f ≤ 65536 := by omega
  have hxb : -65536 ≤ x ∧ x ≤ 65536 := by omega
  obtain ⟨h, hh⟩ : ∃ h, f / 2 = h := ⟨_, rfl⟩
  rw [hh] at O3
  have hhb : 0 ≤ f - h - h ∧ f - h - h ≤ 1 := by omega
  have hhc : -65536 ≤ h ∧ h ≤ 65536 := by omega
  have n1 : -9223372036854775808 ≤ f - h ∧ f - h ≤ 9223372036854775807 := by omega
  have n2 : -9223372036854775808 ≤ f - h - h ∧ f - h - h ≤ 9223372036854775807 := by omega
  have n3 : -9223372036854775808 ≤ f + ou ∧ f + ou ≤ 9223372036854775807 := by omega
  have z1 : (f + ou == li) = true := by rw [beq_iff_eq]; omega
  have z2 : decide (f - h - h ≥ 0) = true := decide_eq_true (by omega)
  have z3 : decide (f - h - h ≤ 1) = true := decide_eq_true (by omega)
  have B0 := Lib.hid (Below.refl W.heap.size W)
  clear hh
  go_enter Try.func3, Try.ntmps3
  go_wp2_with fail
  refine (F1.out _).mono ?_
  rintro e w1 ⟨rfl, hb⟩
  have B1 := Lib.hid (B0.out.trans (hb.mono B0.out.size))
  clear hb F1 B0
  obtain ⟨m1, hm1⟩ : ∃ m, max (max x le) 0 = m := ⟨_, rfl⟩
  rw [hm1]
  go_upto_region 3 with fail
  go_cut [50] from 31 to 50 (fun v wx => v = .bool false ∧ Hid (Below W.heap.size W wx))
  case first =>
    by_cases hc : x < le
    · have e : m1 = le := by omega
      have h0 : ¬ le < 0 := by omega
      have z : (le != le) = false := by simp
      subst e
      clear hm1
      go_wp2_with fail
      refine (F2.out _).mono ?_
      rintro e w2 ⟨rfl, hb⟩
      have B2 := Lib.hid (B1.out.trans (hb.mono B1.out.size))
      clear hb F2 B1
      go_wp2_with fail
      go_meet
      exact ⟨rfl, B2⟩
    · have e : m1 = x := by omega
      have h0 : ¬ x < 0 := by omega
      have z : (x != x) = false := by simp
      subst e
      clear hm1
      go_wp2_with fail
      refine (F2.out _).mono ?_
      rintro e w2 ⟨rfl, hb⟩
      have B2 := Lib.hid (B1.out.trans (hb.mono B1.out.size))
      clear hb F2 B1
      go_wp2_with fail
      go_meet
      exact ⟨rfl, B2⟩
  case rest =>
  obtain ⟨rfl, B2⟩ := hcut
  generalize wc = w2 at *
  clear B1 F2 hm1
  go_wp2_with fail
  refine (O1.out _).mono ?_
  rintro e w3 ⟨rfl, hb⟩
  have B3 := Lib.hid (B2.out.trans (hb.mono B2.out.size))
  clear hb O1 B2
  go_wp2_with fail
  refine (O2.out _).mono ?_
  rintro e w4 ⟨rfl, hb⟩
  have B4 := Lib.hid (B3.out.trans (hb.mono B3.out.size))
  clear hb O2 B3
  go_wp2_with fail
  refine (O3.out _).mono ?_
  rintro e w5 ⟨rfl, hb⟩
  have B5 := Lib.hid (B4.out.trans (hb.mono B4.out.size))
  clear hb O3 B4
  go_wp2_with fail
  refine (O4.out _).mono ?_
  rintro e w6 ⟨rfl, hb⟩
  have B6 := Lib.hid (B5.out.trans (hb.mono B5.out.size))
  clear hb O4 B5
  go_wp2_with fail
  refine (S1.out _).mono ?_
  rintro e w7 ⟨rfl, hb⟩
  have B7 := Lib.hid (B6.out.trans (hb.mono B6.out.size))
  clear hb S1 B6
  go_wp2_with fail
  refine (S2.out _).mono ?_
  rintro e w8 ⟨rfl, hb⟩
  have B8 := Lib.hid (B7.out.trans (hb.mono B7.out.size))
  clear hb S2 B7
  go_wp2_with fail
  refine (AW.out _).mono ?_
  rintro e w ⟨rfl, hb⟩
  have B10 := Lib.hid (B8.out.trans (hb.mono B8.out.size))
  clear hb
  go_wp2_with fail
  go_ret
  exact ⟨rfl, B10.out⟩
end Go.Proofs.Ythneapnijfmpmaa
