import Derived.Test.YthneapnijfmpmaaCrAwake
import Derived.Test.YthneapnijfmpmaaLTame
/- CrosTells: Self, Stretch, Off, Lines as the document says. -/
namespace Go.Proofs.Ythneapnijfmpmaa
open Go Go.RowKit
set_option linter.unusedVariables false
set_option linter.unusedSimpArgs false
set_option maxRecDepth 20000
set_option maxHeartbeats 8000000

theorem crtells_any (line0 outer0 least0 most0 : Int) (before after : Bool) (items0 self0 : Int) (rev : Bool) (l0 : List Int) (hl : l0.length ≤ 9223372036854775807) (A : Option Addr) (c : Nat) (W : World) (hR : Row W W.heap.size A (i64s l0)) :
    Calls Try.prog 5 #[.int .i64 line0, .int .i64 outer0, .int .i64 least0, .int .i64 most0, .bool before, .bool after, .int .i64 items0, .int .i64 self0, .bool rev, .slice A l0.length c] W fun e w' => e = .returned (.bool true) ∧ Below W.heap.size W w' := by
  have AW := Lib.hid (fun w => crawake_any w)
  have TM := Lib.hid (ctame_any l0 1099511627776 (by decide) (by decide) A c W hR hl)
  clear hR
  have k3 : ∀ x : Int, bits .and .i64 x 3 = x % 4 := fun x => and_mask_i64 x 2 (by decide)
  have k8 : ∀ x : Int, bits .and .i64 x 255 = x % 256 := fun x => and_mask_i64 x 8 (by decide)
  obtain ⟨a0, a1⟩ := tmod_bd line0 35184372088832 (by decide)
  obtain ⟨b0, b1⟩ := tmod_bd outer0 35184372088832 (by decide)
  obtain ⟨line, h1⟩ : ∃ z, line0.tmod 35184372088832 = z := ⟨_, rfl⟩
  obtain ⟨outer, h2⟩ : ∃ z, outer0.tmod 35184372088832 = z := ⟨_, rfl⟩
  obtain ⟨least, h3⟩ : ∃ z, least0.tmod 35184372088832 = z := ⟨_, rfl⟩
  obtain ⟨most, h4⟩ : ∃ z, most0.tmod 35184372088832 = z := ⟨_, rfl⟩
  rw [h1] at a0 a1
  rw [h2] at b0 b1
  go_enter Try.func5, Try.ntmps5
  go_wp2_with fail
  refine TM.out.mono ?_
  rintro e w1 ⟨A1, c1, rfl, o1, hb1⟩
  have R1 := Lib.hid (row_of_own o1)
  have B1 := Lib.hid hb1
  have hbd := tameC_bd 1099511627776 (by decide) l0
  have h60 : (tameC 1099511627776 l0).length ≤ 60 := by rw [tameC_len]; omega
  clear o1 hb1 TM
  generalize tameC 1099511627776 l0 = L at *
  obtain ⟨n, hn⟩ : ∃ n, L.length = n := ⟨_, rfl⟩
  have OK := Lib.hid (fun (wh : Int) (h : -140737488355328 ≤ wh ∧ wh ≤ 140737488355328) => (⟨fun z hz => by have := hbd z hz; omega, h60, h⟩ : BegOk L wh))
  have CL := Lib.hid (fun (wh : Int) (h : -140737488355328 ≤ wh ∧ wh ≤ 140737488355328) (w : World) (hr : Row w w.heap.size A1 (i64s L)) => (clines_any L A1 c1 wh rev w hr (OK.out wh h)).mono fun e w' hp => bg_row hp rfl hn)
  have DL := Lib.hid (fun (wh : Int) (h : -140737488355328 ≤ wh ∧ wh ≤ 140737488355328) (w : World) (hr : Row w w.heap.size A1 (i64s L)) => (rbegs_any L A1 c1 wh rev w hr (OK.out wh h)).mono fun e w' hp => bg_row hp rfl hn)
  have LN := Lib.hid (fun (wh : Int) => (by rw [begsZ_len, hn] : (begsZ L wh rev).length = n))
  rw [hn] at CL DL h60 ⊢
  clear hbd hn hl
  go_wp2_with fail
  clear h1 h2 h3 h4
  go_loopw [0, 1, 6, 7, 21] (fun v0 v1 v6 v7 v21 wr => ∃ (i : Nat) (ln ou it se : Int), v0 = .int .i64 ln ∧ v1 = .int .i64 ou ∧ v6 = .int .i64 it ∧ v7 = .int .i64 se ∧ v21 = .int .i64 i ∧ i ≤ 2 ∧ -35184372088832 ≤ ln ∧ ln ≤ 35184372088832 ∧ -35184372088832 ≤ ou ∧ ou ≤ 35184372088832 ∧ Hid (Below w1.heap.size w1 wr)) (fun _ _ _ _ v21 _ => 2 - (intOf v21).toNat)
  case atStart => exact ⟨0, line, outer, items0, self0, rfl, rfl, rfl, rfl, rfl, by omega, by omega, by omega, by omega, by omega, Lib.hid (Below.refl _ _)⟩
  case round =>
    generalize wr = w2 at *
    obtain ⟨i, ln, ou, it, se, rfl, rfl, rfl, rfl, rfl, hi, e0, e1, e2, e3, B2⟩ := hrel
    by_cases hlt : i < 2
    · have hltz : (i : Int) < 2 := by omega
      have S1 := Lib.hid (cself_any it se)
      have S2 := Lib.hid (rself_any it se)
      have F1 := Lib.hid (fun w => cfill_any ln ou least most w (by omega))
      have F2 := Lib.hid (fun w => rfill_any ln ou least most w (by omega))
      have O1 := Lib.hid (fun w => coff_any ln ou before after se rev w (by omega))
      have O2 := Lib.hid (fun w => roff_any ln ou before after se rev w (by omega))
      have C1 := Lib.hid (CL.out ln (by omega))
      have C2 := Lib.hid (DL.out ln (by omega))
      have LL := Lib.hid (LN.out ln)
      obtain ⟨z1, hz1⟩ : ∃ z, selfZ it se = z := ⟨_, rfl⟩
      obtain ⟨z2, hz2⟩ : ∃ z, fillZ ln ou least most = z := ⟨_, rfl⟩
      obtain ⟨z3, hz3⟩ : ∃ z, offZ ln ou before after se rev = z := ⟨_, rfl⟩
      obtain ⟨zs, hz4⟩ : ∃ z, begsZ L ln rev = z := ⟨_, rfl⟩
      rw [hz1] at S1 S2
      rw [hz2] at F1 F2
      rw [hz3] at O1 O2
      rw [hz4] at C1 C2 LL
      clear hz1 hz2 hz3 hz4
      go_wp2_with fail
      refine (S1.out _).mono ?_
      rintro e w3 ⟨rfl, hb⟩
      have B3 := Lib.hid (B2.out.trans (hb.mono B2.out.size))
      clear hb S1
      go_wp2_with fail
      refine (S2.out _).mono ?_
      rintro e w' ⟨rfl, rfl⟩
      go_wp2_with fail
      refine (F1.out _).mono ?_
      rintro e w4 ⟨rfl, hb⟩
      have B4 := Lib.hid (B3.out.trans (hb.mono B3.out.size))
      clear hb F1 B3 S2
      go_wp2_with fail
      refine (F2.out _).mono ?_
      rintro e w' ⟨rfl, rfl⟩
      go_wp2_with fail
      refine (O1.out _).mono ?_
      rintro e w5 ⟨rfl, hb⟩
      have B5 := Lib.hid (B4.out.trans (hb.mono B4.out.size))
      clear hb O1 B4 F2
      go_wp2_with fail
      refine (O2.out _).mono ?_
      rintro e w' ⟨rfl, rfl⟩
      have R5 := Lib.hid ((R1.out.below B5.out).more B5.out.size)
      go_wp2_with fail
      refine (C1.out _ R5.out).mono ?_
      rintro e w6 ⟨A6, c6, rfl, r6, hb⟩
      have B6 := Lib.hid (B5.out.trans (hb.mono B5.out.size))
      have Q6 := Lib.hid r6
      have R6 := Lib.hid ((R5.out.below hb).more hb.size)
      clear hb r6 C1 O2 B5 R5
      go_wp2_with fail
      refine (C2.out _ R6.out).mono ?_
      rintro e w7 ⟨A7, c7, rfl, r7, hb⟩
      have B7 := Lib.hid (B6.out.trans (hb.mono B6.out.size))
      have Q7 := Lib.hid r7
      have P7 := Lib.hid ((Q6.out.below hb).more hb.size)
      clear hb r7 C2 R6 B6 Q6
      go_wp2_with fail
      refine (ksame_any A6 A7 c6 c7 n zs w7 _ _ P7.out Q7.out LL.out (by omega)).mono ?_
      rintro e w8 ⟨rfl, q, rfl⟩
      have B8 := Lib.hid (Below.drewN' B7.out q)
      clear B7 P7 Q7 LL
      generalize w7.drewN q = w9 at *
      have f0 := Int.emod_nonneg ln (show (256 : Int) ≠ 0 by decide)
      have f1 := Int.emod_lt_of_pos ln (show (0 : Int) < 256 by decide)
      have f2 := Int.emod_nonneg ou (show (256 : Int) ≠ 0 by decide)
      have f3 := Int.emod_lt_of_pos ou (show (0 : Int) < 256 by decide)
      go_wp2_with fail
      go_roundw
      case rel => exact ⟨i + 1, ln % 256, ou % 256, _, _, rfl, rfl, rfl, rfl, by go_num, by omega, by omega, by omega, by omega, by omega, B8⟩
      case measure => simp [intOf] <;> omega
    · have hltz : ¬ (i : Int) < 2 := by omega
      have B3 := Lib.hid (B1.out.trans (B2.out.mono B1.out.size))
      go_wp2_with fail
      refine (AW.out _).mono ?_
      rintro e w3 ⟨rfl, hb⟩
      have B4 := Lib.hid (B3.out.trans (hb.mono B3.out.size))
      clear hb
      go_wp2_with fail
      go_ret
      exact ⟨rfl, B4.out⟩
end Go.Proofs.Ythneapnijfmpmaa
