import Derived.Test.YteaenomfighaoaaAlAwake
import Derived.Test.YteaenomfighaoaaConv
import Derived.Test.YteaenomfighaoaaTwoOwn
import Derived.Test.YteaenomfighaoaaAlGapN
import Derived.Lib.MinMax
import Derived.Deep.CutBlock
/- AlongGaps: automatic margins take all free space; between and around part it alike. -/
namespace Go.Proofs.Yteaenomfighaoaa
open Go Go.RowKit
set_option linter.unusedVariables false
set_option linter.unusedSimpArgs false
set_option maxRecDepth 20000
set_option maxHeartbeats 8000000

abbrev AE : TypeId × Nat := (27, 5)
theorem addr_nil (a : Addr) : a.add 0 = a := by unfold Addr.add; simp
theorem algaps_any (l0 : List Al) (hl : l0.length ≤ 9223372036854775807) (A : Option Addr) (c : Nat) (more au : Int) (W : World) (hR : Row W W.heap.size A (l0.flatMap alC)) :
    Calls Try.prog 6 #[.slice A l0.length c, .int .i64 more, .int .i64 au] W fun e w' => e = .returned (.bool true) ∧ Below W.heap.size W w' := by
  have AW := Lib.hid (fun w => alawake_any w)
  have HR := Lib.hid hR
  clear hR
  have k10 : ∀ x : Int, bits .and .i64 x 1023 = x % 1024 := fun x => and_mask_i64 x 10 (by decide)
  go_enter Try.func6, Try.ntmps6
  go_upto_block 0 with fail
  go_cut [7, 8, 9, 10, 11, 12] from 25 to 80 (fun v7 v8 v9 v10 v11 v12 wx => ∃ (k m : Nat) (A1 A2 : Option Addr) (c1 c2 : Nat) (zs : List Int) (us : List Al), v7 = .slice A1 k c1 ∧ v8 = .slice A2 k c2 ∧ v9 = .int .i64 zs.sum ∧ v10 = .int .i64 m ∧ v11 = .int .i64 k ∧ k ≤ l0.length ∧ k ≤ 10 ∧ m ≤ 2 * k ∧ Hid (m = autosA us) ∧ Hid (zs.length = k) ∧ Hid (us.length = k) ∧ Hid (∀ z ∈ zs, 0 ≤ z ∧ z < 50) ∧ Hid (Sized us zs) ∧
    Hid (TwoOwn W wx AE AE (.slice A1 k c1) k ((zs.map bareA).flatMap alC) (.slice A2 k c2) k (us.flatMap alC)))
  case first =>
    go_wp2_with fail
    go_loopw [7, 8, 9, 10, 11] (fun v7 v8 v9 v10 v11 wr => ∃ (k m : Nat) (A1 A2 : Option Addr) (c1 c2 : Nat) (zs : List Int) (us : List Al), v7 = .slice A1 k c1 ∧ v8 = .slice A2 k c2 ∧ v9 = .int .i64 zs.sum ∧ v10 = .int .i64 m ∧ v11 = .int .i64 k ∧ k ≤ l0.length ∧ k ≤ 10 ∧ m ≤ 2 * k ∧ Hid (m = autosA us) ∧ Hid (zs.length = k) ∧ Hid (us.length = k) ∧ Hid (∀ z ∈ zs, 0 ≤ z ∧ z < 50) ∧ Hid (Sized us zs) ∧
      Hid (TwoOwn W wr AE AE (.slice A1 k c1) k ((zs.map bareA).flatMap alC) (.slice A2 k c2) k (us.flatMap alC))) (fun _ _ _ _ v11 _ => l0.length - (intOf v11).toNat)
    case atStart => exact ⟨0, 0, none, none, 0, 0, [], [], rfl, rfl, rfl, rfl, rfl, Nat.zero_le _, by omega, by omega, Lib.hid rfl, Lib.hid rfl, Lib.hid rfl, Lib.hid (by simp), Lib.hid rfl, Lib.hid ⟨⟨rfl, .inl ⟨rfl, rfl⟩⟩, ⟨rfl, .inl ⟨rfl, rfl⟩⟩, by simp [Value.ownBlock], Below.refl _ _⟩⟩
    case round =>
      generalize wr = w1 at *
      obtain ⟨k, m, A1, A2, c1, c2, zs, us, rfl, rfl, rfl, rfl, rfl, hk, hk2, hm, HM, HZ, HA, HZB, HE, T⟩ := hrel
      have hzb := sumC_bd (c := 50) (by decide) zs (fun z hz => by have := HZB.out z hz; omega)
      by_cases hlt : k < l0.length ∧ k < 10
      · have hki : (k : Int) < l0.length := by omega
        have hkj : (k : Int) < 10 := by omega
        have z1 : decide ((k : Int) < l0.length) = true := decide_eq_true hki
        have z2 : decide ((k : Int) < 10) = true := decide_eq_true hkj
        obtain ⟨ad, rfl, hb, d0, d1, d2, d3, d4⟩ := Row.al (HR.out.below T.out.low) hlt.1
        clear d0 d1 d3 d4
        generalize l0[k].s = s0 at *
        obtain ⟨z, uz, iz, jz⟩ := conv_lt s0 50 (by decide) (by decide)
        have X0 := Lib.hid (Whole.mk w1 27 #[.int .i64 0, .int .i64 0, .int .i64 z, .bool false, .bool false])
        have T1 := Lib.hid (T.out.behind ((Below.refl _ w1).alloc (Nat.le_refl _) (.cells #[.int .i64 0, .int .i64 0, .int .i64 z, .bool false, .bool false] 27)))
        have OFF := Lib.hid (T.out.off (g := w1.heap.size) (Nat.le_refl _))
        have lw := T.out.low.size
        go_upto_region 8 with fail
        clear T d2 z1 z2
        generalize w1.alloc _ = w2 at *
        obtain ⟨g, hg⟩ : ∃ g, w1.heap.size = g := ⟨_, rfl⟩
        rw [hg] at X0 OFF lw ⊢
        clear hg uz
        have x0 := X0.out.cell 0
        have x1 := X0.out.cell 1
        have x2 := X0.out.cell 2
        have x3 := X0.out.cell 3
        have x4 := X0.out.cell 4
        simp only [List.getElem?_cons_zero, List.getElem?_cons_succ] at x0 x1 x2 x3 x4
        have T2 := Lib.hid (T1.out.behind ((Below.refl _ w2).alloc (Nat.le_refl _) (.cells #[.int .i64 0, .int .i64 0, .int .i64 z, .bool false, .bool false] 27)))
        have X2 := Lib.hid (X0.out.made (.cells #[.int .i64 0, .int .i64 0, .int .i64 z, .bool false, .bool false] 27))
        have Y2 := Lib.hid (Whole.mk w2 27 #[.int .i64 0, .int .i64 0, .int .i64 z, .bool false, .bool false])
        clear T1 X0
        go_upto_region 9 with (at_builtin; refine wpList_pushOne rfl (.tmp 44) (.tmp 46) _ rfl W.heap.size 27 5 32 alV0 Try.underlying22 al_info rfl (by decide) k (.slice A1 k c1) _ rfl T2.out.one T2.out.low.size w2.heap.size [.int .i64 0, .int .i64 0, .int .i64 z, .bool false, .bool false] rfl Y2.out rfl (by simp [Value.oneCell']) (by unfold maxLen; omega) (by omega) ?_; intro A6 c6 w7 h5 ho5 hk5)
        have T3 := Lib.hid (T2.out.push1 h5 ho5 hk5)
        have X3 := Lib.hid (ho5.whole X2.out (by intro h; exact OFF.out.1 (by simpa using h)))
        have OF6 : Hid ((Value.slice A6 (k + 1) c6).ownBlock ≠ some g ∧ (Value.slice A2 k c2).ownBlock ≠ some g ∧ W.heap.size ≤ g) := Lib.hid ⟨fun e => by
          rcases hk5 g e with h | h
          · exact OFF.out.1 h
          · have := X2.out.size; omega, OFF.out.2, lw⟩
        clear h5 ho5 hk5 T2 X2 Y2 x0 x1 x2 x3 x4 OFF
        have x3 := X3.out.cell 3
        have x4 := X3.out.cell 4
        have f3 := X3.out.free 3
        have f4 := X3.out.free 4
        simp only [List.getElem?_cons_zero, List.getElem?_cons_succ] at x3 x4
        go_upto_region 10 with fail
        obtain ⟨ab, hab⟩ : ∃ b, (bits .and .i64 (au / 2 ^ (2 * k)) 1 == 1) = b := ⟨_, rfl⟩
        obtain ⟨aa, haa⟩ : ∃ b, (bits .and .i64 (au / 2 ^ (2 * k + 1)) 1 == 1) = b := ⟨_, rfl⟩
        rw [hab, haa]
        clear hab haa
        obtain ⟨w3, hX, hT, hw3⟩ : ∃ w3, Whole w3 g 27 [.int .i64 0, .int .i64 0, .int .i64 z, .bool ab, .bool aa] ∧ TwoOwn W w3 AE AE (.slice A6 (k + 1) c6) (k + 1) ((zs.map bareA).flatMap alC ++ [.int .i64 0, .int .i64 0, .int .i64 z, .bool false, .bool false]) (.slice A2 k c2) k (us.flatMap alC) ∧
            w3 = ((w7.setCell ⟨g, 3, none⟩ (.bool ab)).setCell ⟨g, 4, none⟩ (.bool aa)) :=
          ⟨_, (X3.out.put 3 (.bool ab)).put 4 (.bool aa), T3.out.only (((Only.refl [g] w7).setCell ⟨g, 3, none⟩ (.inl (by simp)) _).setCell ⟨g, 4, none⟩ (.inl (by simp)) _) (fun x hx => by
            have : x = g := by simpa using hx
            subst this; exact OF6.out), rfl⟩
        rw [← hw3]
        have X4 := Lib.hid hX
        have T4 := Lib.hid hT
        clear hX hT hw3 X3 T3 x3 x4 f3 f4
        have x0 := X4.out.cell 0
        have x1 := X4.out.cell 1
        have x2 := X4.out.cell 2
        have x3 := X4.out.cell 3
        have x4 := X4.out.cell 4
        simp only [List.getElem?_cons_zero, List.getElem?_cons_succ] at x0 x1 x2 x3 x4
        go_upto_if 66 with fail
        go_cut [10] from 67 to 72 (fun v wx => v = .int .i64 ((m + bN ab : Nat) : Int) ∧ wx = w3)
        case first =>
          cases ab
          · go_wp2_with fail
            go_meet
            exact ⟨rfl, rfl⟩
          · go_wp2_with fail
            go_meet
            exact ⟨by simp [bN], rfl⟩
        case rest =>
          obtain ⟨rfl, rfl⟩ := hcut
          have hb1 := bN_le ab
          have hb2 := bN_le aa
          obtain ⟨m1, hm1⟩ : ∃ q, m + bN ab = q := ⟨_, rfl⟩
          have HM1 := Lib.hid hm1
          rw [hm1]
          have hm2 : m1 ≤ m + 1 := by omega
          clear hm1
          go_upto_if 70 with fail
          go_cut [10] from 71 to 72 (fun v wx => v = .int .i64 ((m1 + bN aa : Nat) : Int) ∧ wx = wc)
          case first =>
            cases aa
            · go_wp2_with fail
              go_meet
              exact ⟨rfl, rfl⟩
            · go_wp2_with fail
              go_meet
              exact ⟨by simp [bN], rfl⟩
          case rest =>
            obtain ⟨rfl, rfl⟩ := hcut
            obtain ⟨m2, hm3⟩ : ∃ q, m1 + bN aa = q := ⟨_, rfl⟩
            have HM2 := Lib.hid hm3
            rw [hm3]
            have hm4 : m2 ≤ m1 + 1 := by omega
            clear hm3
            generalize wc = w4 at *
            have T5 := Lib.hid (T4.out.behind ((Below.refl _ w4).alloc (Nat.le_refl _) (.cells #[.int .i64 0, .int .i64 0, .int .i64 z, .bool ab, .bool aa] 27)))
            have X5 := Lib.hid (X4.out.made (.cells #[.int .i64 0, .int .i64 0, .int .i64 z, .bool ab, .bool aa] 27))
            have Y5 := Lib.hid (Whole.mk w4 27 #[.int .i64 0, .int .i64 0, .int .i64 z, .bool ab, .bool aa])
            clear T4 X4
            go_upto_region 15 with (at_builtin; refine wpList_pushOne rfl (.tmp 73) (.tmp 75) _ rfl W.heap.size 27 5 32 alV0 Try.underlying22 al_info rfl (by decide) k (.slice A2 k c2) _ rfl T5.out.two T5.out.low.size w4.heap.size [.int .i64 0, .int .i64 0, .int .i64 z, .bool ab, .bool aa] rfl Y5.out rfl (by simp [Value.oneCell']) (by unfold maxLen; omega) (by omega) ?_; intro A8 c8 w8 h5 ho5 hk5)
            have T6 : Hid (TwoOwn W w8 AE AE (.slice A6 (k + 1) c6) (k + 1) (((zs ++ [z]).map bareA).flatMap alC) (.slice A8 (k + 1) c8) (k + 1) ((us ++ [(⟨0, 0, ab, aa, z⟩ : Al)]).flatMap alC)) := Lib.hid (by
              have h := T5.out.push2 h5 ho5 hk5
              rw [List.map_append, List.flatMap_append, List.flatMap_append]; exact h)
            have X6 := ho5.whole X5.out (by intro h; exact OF6.out.2.1 (by simpa using h))
            clear h5 ho5 hk5 T5 X5 Y5 x0 x1 x2 x3 x4 OF6
            have x2 := X6.cell 2
            simp only [List.getElem?_cons_zero, List.getElem?_cons_succ] at x2
            clear X6
            have ES : Hid ((zs ++ [z]).sum = zs.sum + z) := Lib.hid (by rw [List.sum_append]; simp)
            have zl := HZ.out
            obtain ⟨S, hS⟩ : ∃ S, zs.sum = S := ⟨_, rfl⟩
            rw [hS] at hzb ES ⊢
            clear hS
            have n1 : -9223372036854775808 ≤ S + z ∧ S + z ≤ 9223372036854775807 := by omega
            go_wp2_with fail
            go_roundw
            case rel => exact ⟨k + 1, m2, A6, A8, c6, c8, zs ++ [z], us ++ [(⟨0, 0, ab, aa, z⟩ : Al)], by go_num, by go_num, by rw [ES.out], rfl, by go_num, by omega, by omega, by omega,
              Lib.hid (by rw [← HM2.out, ← HM1.out, HM.out]; unfold autosA; rw [List.map_append, List.sum_append]; simp; omega), Lib.hid (by rw [List.length_append, zl]; rfl), Lib.hid (by rw [List.length_append, HA.out]; rfl),
              Lib.hid (fun y hy => by rcases List.mem_append.1 hy with h | h; exact HZB.out y h; rw [List.mem_singleton] at h; subst h; exact ⟨iz, jz⟩),
              Lib.hid (by have h := HE.out; unfold Sized at *; rw [List.map_append, List.map_append, h]; rfl), T6⟩
            case measure => simp [intOf] <;> omega
      · have z1 : decide ((k : Int) < l0.length) = false ∨ decide ((k : Int) < l0.length) = true ∧ decide ((k : Int) < 10) = false := by
          by_cases h1 : k < l0.length
          · exact .inr ⟨decide_eq_true (by omega), decide_eq_false (by omega)⟩
          · exact .inl (decide_eq_false (by omega))
        have Z1 := Lib.hid z1
        clear z1 hlt
        rcases Z1.out with z1 | ⟨z1, z2⟩
        · have hki : ¬ (k : Int) < l0.length := of_decide_eq_false z1
          go_wp2_with fail
          go_meet
          exact ⟨k, m, A1, A2, c1, c2, zs, us, rfl, rfl, rfl, rfl, rfl, hk, hk2, hm, HM, HZ, HA, HZB, HE, T⟩
        · have hki : (k : Int) < l0.length := of_decide_eq_true z1
          have hkj : ¬ (k : Int) < 10 := of_decide_eq_false z2
          go_wp2_with fail
          go_meet
          exact ⟨k, m, A1, A2, c1, c2, zs, us, rfl, rfl, rfl, rfl, rfl, hk, hk2, hm, HM, HZ, HA, HZB, HE, T⟩
  case rest =>
    generalize wc = w1 at *
    obtain ⟨k, m, A1, A2, c1, c2, zs, us, rfl, rfl, rfl, rfl, rfl, hk, hk2, hm, HM, HZ, HA, HZB, HE, T⟩ := hcut
    have hzb := sumC_bd (c := 50) (by decide) zs (fun z hz => by have := HZB.out z hz; omega)
    by_cases hk0 : k = 0
    · have z0 : ((k : Int) == 0) = true := by rw [beq_iff_eq]; omega
      have H0 := Lib.hid hk0
      have B1 := Lib.hid T.out.low
      clear hk0
      go_wp2_with fail
      refine (AW.out _).mono ?_
      rintro e w9 ⟨rfl, hb9⟩
      have B9 := Lib.hid (B1.out.trans (hb9.mono B1.out.size))
      clear hb9
      go_wp2_with fail
      go_ret
      exact ⟨rfl, B9.out⟩
    · have z0 : ((k : Int) == 0) = false := by rw [beq_eq_false_iff_ne]; omega
      have hpos : 0 < k := by omega
      clear hk0
      have t0 := Int.emod_nonneg more (show (1024 : Int) ≠ 0 by decide)
      have t1 := Int.emod_lt_of_pos more (show (0 : Int) < 1024 by decide)
      obtain ⟨t', ht'⟩ : ∃ t, more % 1024 = t := ⟨_, rfl⟩
      rw [ht'] at t0 t1
      have n0 : -9223372036854775808 ≤ t' + 1 ∧ t' + 1 ≤ 9223372036854775807 := by omega
      have hsb := hzb
      rw [HZ.out] at hsb
      have zs0 : 0 ≤ zs.sum := by
        have := needA_bd (us) (sized_ok HE.out HZB.out)
        have h2 := sumC_nn zs (fun z hz => (HZB.out z hz).1)
        exact h2
      obtain ⟨t, ht⟩ : ∃ t, t' + 1 = t := ⟨_, rfl⟩
      have tt0 : 0 < t := by omega
      have tt1 : t ≤ 1024 := by omega
      have RL := Lib.hid (row_of_own T.out.one)
      have RU := Lib.hid (row_of_own T.out.two)
      have B1 := Lib.hid T.out.low
      have ok1 := sized_ok (sized_bare zs) HZB.out
      have ok2 := sized_ok HE.out HZB.out
      have hl1 : (zs.map bareA).length = k := by rw [List.length_map, HZ.out]
      have hl2 : us.length = k := HA.out
      have hinn : -35184372088832 ≤ zs.sum + t ∧ zs.sum + t ≤ 35184372088832 := by omega
      have CP := Lib.hid (fun (j : Int) (w : World) (h : Row w w.heap.size A1 ((zs.map bareA).flatMap alC)) => (along_any (zs.map bareA) A1 c1 (zs.sum + t) j false w h ok1 (by omega) hinn).mono fun e w' hp => pl_row hp rfl hl1)
      have CQ := Lib.hid (fun (j : Int) (w : World) (h : Row w w.heap.size A2 (us.flatMap alC)) => (along_any us A2 c2 (zs.sum + t) j false w h ok2 (by omega) hinn).mono fun e w' hp => pl_row hp rfl hl2)
      rw [hl1] at CP
      rw [hl2] at CQ
      have PL1 := Lib.hid (fun (j : Int) => (by rw [placeA_len, hl1] : (placeA (zs.sum + t) (zs.map bareA) j false).length = k))
      have PL2 := Lib.hid (fun (j : Int) => (by rw [placeA_len, hl2] : (placeA (zs.sum + t) us j false).length = k))
      have WF := Lib.hid (fun (j : Int) => wayF_of (t := t) (j := j) (zs := zs) HZ.out tt0 (by omega) (by omega) rfl)
      have AF := Lib.hid (fun (j : Int) => autF_of (t := t) (j := j) HE.out HZ.out tt0 (by omega) (by omega) HM.out rfl)
      have BP := Lib.hid (fun (j : Int) => place_bd (t := t) (j := j) (sized_bare zs) HZB.out HZ.out tt0 tt1 (by omega) rfl)
      have BQ := Lib.hid (fun (j : Int) => place_bd (t := t) (j := j) HE.out HZB.out HZ.out tt0 tt1 (by omega) rfl)
      obtain ⟨SS, hSS⟩ : ∃ S, zs.sum = S := ⟨_, rfl⟩
      have HSS := Lib.hid hSS
      rw [hSS] at CP CQ PL1 PL2 WF AF BP BQ zs0 hsb ⊢
      clear hSS ok1 ok2 hl1 hl2 hinn T HE HM hzb
      have n1 : -9223372036854775808 ≤ SS + t ∧ SS + t ≤ 9223372036854775807 := by omega
      go_upto_region 20 with fail
      clear ht k10 ht' z0
      obtain ⟨inn, hin⟩ : ∃ z, SS + t = z := ⟨_, rfl⟩
      have HIN := Lib.hid hin
      rw [hin] at CP CQ PL1 PL2 WF AF BP BQ ⊢
      have hi0 : 0 ≤ inn ∧ inn ≤ 2000 := by omega
      clear hin n1 n0
      obtain ⟨kk, hkk⟩ : ∃ kk : Nat, (k : Int) - 1 = (kk : Int) := ⟨k - 1, by omega⟩
      have hk9 : kk + 1 ≤ k ∧ k ≤ kk + 1 := by omega
      have HKK := Lib.hid hkk
      clear hkk
      go_wp2_with fail
      go_loopw [15] (fun v15 wr => ∃ y : Nat, v15 = .int .i64 y ∧ y ≤ 5 ∧ Hid (Below w1.heap.size w1 wr)) (fun v15 _ => 5 - (intOf v15).toNat)
      case atStart => exact ⟨0, rfl, by omega, Lib.hid (Below.refl _ _)⟩
      case round =>
        generalize wr = w2 at *
        obtain ⟨y, rfl, hy, B2⟩ := hrel
        by_cases hlt5 : y < 5
        · have hltz : (y : Int) < 5 := by omega
          have RL2 := Lib.hid ((RL.out.below B2.out).more B2.out.size)
          have WFy := WF.out y
          have AFy := AF.out y
          have BPy := BP.out y
          have BQy := BQ.out y
          have LPy := PL1.out y
          have LQy := PL2.out y
          have CPy := Lib.hid (CP.out y)
          have CQy := Lib.hid (CQ.out y)
          obtain ⟨P, hP⟩ : ∃ P, placeA inn (zs.map bareA) y false = P := ⟨_, rfl⟩
          obtain ⟨Q, hQ⟩ : ∃ Q, placeA inn us y false = Q := ⟨_, rfl⟩
          rw [hP] at WFy BPy LPy CPy
          rw [hQ] at AFy BQy LQy CQy
          have WFy := Lib.hid WFy
          have AFy := Lib.hid AFy
          have BPy := Lib.hid BPy
          have BQy := Lib.hid BQy
          have LPy := Lib.hid LPy
          have LQy := Lib.hid LQy
          clear hP hQ
          go_wp2_with fail
          refine (CPy.out _ RL2.out).mono ?_
          rintro e w3 ⟨A3, c3, rfl, r3, hb3⟩
          have R3 := Lib.hid r3
          have B3 := Lib.hid (B2.out.trans (hb3.mono B2.out.size))
          have RU3 := Lib.hid ((RU.out.below B3.out).more B3.out.size)
          clear r3 hb3 RL2 CPy
          go_wp2_with fail
          refine (CQy.out _ RU3.out).mono ?_
          rintro e w4 ⟨A4, c4, rfl, r4, hb4⟩
          have RQ := Lib.hid r4
          have RP := Lib.hid ((R3.out.below hb4).more hb4.size)
          have B4 := Lib.hid (B3.out.trans (hb4.mono B3.out.size))
          have RL4 := Lib.hid ((RL.out.below B4.out).more B4.out.size)
          have RU4 := Lib.hid ((RU.out.below B4.out).more B4.out.size)
          clear r4 hb4 R3 B3 RU3 CQy
          have h0p : 0 < P.length := by rw [LPy.out]; exact hpos
          have hkp : kk < P.length := by rw [LPy.out]; omega
          have hkz : kk < zs.length := by rw [HZ.out]; omega
          obtain ⟨a3, rfl, hab3, dp0⟩ := RP.out.int h0p
          obtain ⟨a3', he3, -, dpk⟩ := RP.out.int hkp
          injection he3 with he3
          subst he3
          rw [addr_nil] at dp0
          obtain ⟨a1, rfl, hab1, d0, d1, d2, d3, d4⟩ := Row.al RL4.out (k := kk) (by rw [List.length_map]; exact hkz)
          rw [List.getElem_map, show (bareA zs[kk]).s = zs[kk] from rfl] at d2
          have bp0 := BPy.out 0 h0p
          have bpk := BPy.out kk hkp
          have bzk := HZB.out _ (List.getElem_mem hkz)
          have FST := Lib.hid (WFy.out.fst h0p)
          have LST := Lib.hid (WFy.out.lst kk hkp hkz (by omega))
          have HG0 : Hid (∀ h : kk < P.length, P[kk] = P.getD kk 0) := Lib.hid (fun h => by simp [List.getD, h])
          have HG1 : Hid (P.getD 0 0 = P[0]) := Lib.hid (by simp [List.getD, h0p])
          have SKK : Hid ((zs.take kk).sum + zs[kk] = SS) := Lib.hid (by
            rw [← sumC_take zs hkz, List.take_of_length_le (by rw [HZ.out]; omega)]; exact HSS.out)
          obtain ⟨p0, hp0⟩ : ∃ p, P[0] = p := ⟨_, rfl⟩
          obtain ⟨pk, hpk⟩ : ∃ p, P[kk] = p := ⟨_, rfl⟩
          obtain ⟨zk, hzk⟩ : ∃ z, zs[kk] = z := ⟨_, rfl⟩
          rw [hp0] at dp0 bp0 FST HG1
          rw [hpk] at dpk bpk LST
          rw [hzk] at d2 bzk LST SKK
          have HPK := Lib.hid hpk
          clear hp0 hpk hzk d0 d1 d3 d4
          have hkk := HKK.out
          have m1 : -9223372036854775808 ≤ inn - pk ∧ inn - pk ≤ 9223372036854775807 := by omega
          have m2 : -9223372036854775808 ≤ inn - pk - zk ∧ inn - pk - zk ≤ 9223372036854775807 := by omega
          have e0 : ∀ q, (w4.drewN q).cell? a3 = some (.int .i64 p0) := fun q => dp0
          have e1 : ∀ q, (w4.drewN q).cell? (a3.add kk) = some (.int .i64 pk) := fun q => dpk
          have e2 : ∀ q, (w4.drewN q).cell? ⟨(a1.add (kk * 5)).block, (a1.add (kk * 5)).off + 2, none⟩ = some (.int .i64 zk) := fun q => d2
          have hposz : (0 : Int) < k := by omega
          have hkkz : (kk : Int) < k := by omega
          go_upto_region 26 with fail
          go_quiet (fail)
          have B5 := Lib.hid (Below.drewN' B4.out nq)
          have BB := Lib.hid (Below.drewN' (Below.refl w4.heap.size w4) nq)
          clear e0 e1 e2 dp0 dpk d2
          have RP5 := Lib.hid ((RP.out.below BB.out).more BB.out.size)
          have RQ5 := Lib.hid ((RQ.out.below BB.out).more BB.out.size)
          have RL5 := Lib.hid ((RL4.out.below BB.out).more BB.out.size)
          have RU5 := Lib.hid ((RU4.out.below BB.out).more BB.out.size)
          clear B4 BB RP RQ RL4 RU4 RL RU CP CQ
          generalize w4.drewN nq = w5 at *
          obtain ⟨lt, hlt⟩ : ∃ l, inn - pk - zk = l := ⟨_, rfl⟩
          have HLT := Lib.hid hlt
          rw [hlt]
          clear hlt m1 m2 hkk
          go_wp2_with fail
          go_loopw [20, 21] (fun v20 v21 wr => ∃ i q : Nat, v20 = .int .i64 (P.getD i 0 - P.getD 0 0 - (zs.take i).sum) ∧ v21 = .int .i64 q ∧ Hid (q = i + 1) ∧ i + 1 ≤ q ∧ q ≤ i + 1 ∧ q ≤ k ∧ Hid (Below w5.heap.size w5 wr)) (fun _ v21 _ => k - (intOf v21).toNat)
          case atStart => exact ⟨0, 1, by simp, rfl, Lib.hid rfl, by omega, by omega, by omega, Lib.hid (Below.refl _ _)⟩
          case round =>
            generalize wr = w6 at *
            obtain ⟨i, q, rfl, rfl, HQ, hq1, hq2, hqk, B6⟩ := hrel
            by_cases hlt : q < k
            · as_aux_lemma =>
                have hltz : (q : Int) < k := by omega
                have hiltz : (i : Int) < k := by omega
                have hqi : (q : Int) - 1 = (i : Int) := by omega
                have hip : i < P.length := by rw [LPy.out]; omega
                have hqp : q < P.length := by rw [LPy.out]; omega
                have hiz : i < zs.length := by rw [HZ.out]; omega
                have hiq : i < Q.length := by rw [LQy.out]; omega
                have hqq : q < Q.length := by rw [LQy.out]; omega
                have hiu : i < us.length := by rw [HA.out]; omega
                have hqu : q < us.length := by rw [HA.out]; omega
                obtain ⟨b3, he, -, dpa⟩ := (RP5.out.below B6.out).int hip
                injection he with he
                subst he
                obtain ⟨b3, he, -, dpb⟩ := (RP5.out.below B6.out).int hqp
                injection he with he
                subst he
                obtain ⟨a4, rfl, -, dqa⟩ := (RQ5.out.below B6.out).int hiq
                obtain ⟨b4, he, -, dqb⟩ := (RQ5.out.below B6.out).int hqq
                injection he with he
                subst he
                obtain ⟨b1, he, -, -, -, dz, -, -⟩ := Row.al (RL5.out.below B6.out) (k := i) (by rw [List.length_map]; exact hiz)
                injection he with he
                subst he
                rw [List.getElem_map, show (bareA zs[i]).s = zs[i] from rfl] at dz
                obtain ⟨a2, rfl, -, -, -, -, -, du4⟩ := Row.al (RU5.out.below B6.out) hiu
                obtain ⟨b2, he, -, -, -, -, du3, -⟩ := Row.al (RU5.out.below B6.out) hqu
                injection he with he
                subst he
                have eP : ∀ (h : i + 1 < P.length), P[i + 1] = P[q] := fun h => by have := HQ.out; subst this; rfl
                have eQ : ∀ (h : i + 1 < Q.length), Q[i + 1] = Q[q] := fun h => by have := HQ.out; subst this; rfl
                have eU : ∀ (h : i + 1 < us.length), us[i + 1] = us[q] := fun h => by have := HQ.out; subst this; rfl
                have gf := WFy.out.gap i hiz hip (by omega)
                rw [eP, HKK.out] at gf
                have af := fun (h0 : 0 < m) => AFy.out.gap h0 i hiz hiu (by omega) hiq (by omega)
                rw [eU, eQ] at af
                have bpa := BPy.out i hip
                have bpb := BPy.out q hqp
                have bqa := BQy.out i hiq
                have bqb := BQy.out q hqq
                have bz := HZB.out _ (List.getElem_mem hiz)
                have hsi := sumC_bd (c := 50) (by decide) (zs.take i) (fun z hz => by have := HZB.out z (List.mem_of_mem_take hz); omega)
                have hsl : (zs.take i).length ≤ 10 := by rw [List.length_take]; omega
                have EG : P.getD q 0 - P.getD 0 0 - (zs.take q).sum = (P.getD i 0 - P.getD 0 0 - (zs.take i).sum) + (P[q] - P[i] - zs[i]) := by
                  have h1 : P.getD i 0 = P[i] := by simp [List.getD, hip]
                  have h2 : P.getD q 0 = P[q] := by simp [List.getD, hqp]
                  have h3 : (zs.take q).sum = (zs.take i).sum + zs[i] := by have := HQ.out; subst this; exact sumC_take zs hiz
                  rw [h1, h2, h3]; omega
                have EG := Lib.hid EG
                have GB : -9000000000000000 ≤ P.getD i 0 - P.getD 0 0 - (zs.take i).sum ∧ P.getD i 0 - P.getD 0 0 - (zs.take i).sum ≤ 9000000000000000 := by
                  have h1 : P.getD i 0 = P[i] := by simp [List.getD, hip]
                  rw [h1, HG1.out]; omega
                obtain ⟨G, hG⟩ : ∃ g, P.getD i 0 - P.getD 0 0 - (zs.take i).sum = g := ⟨_, rfl⟩
                rw [hG] at EG GB ⊢
                obtain ⟨pa, hpa⟩ : ∃ p, P[i] = p := ⟨_, rfl⟩
                obtain ⟨pb, hpb⟩ : ∃ p, P[q] = p := ⟨_, rfl⟩
                obtain ⟨qa, hqa⟩ : ∃ p, Q[i] = p := ⟨_, rfl⟩
                obtain ⟨qb, hqb⟩ : ∃ p, Q[q] = p := ⟨_, rfl⟩
                obtain ⟨z, hz⟩ : ∃ z, zs[i] = z := ⟨_, rfl⟩
                obtain ⟨ab, hab⟩ : ∃ z, us[q].ab = z := ⟨_, rfl⟩
                obtain ⟨aa, haa⟩ : ∃ z, us[i].aa = z := ⟨_, rfl⟩
                rw [hpa] at dpa gf bpa EG
                rw [hpb] at dpb gf bpb EG
                rw [hqa] at dqa af bqa
                rw [hqb] at dqb af bqb
                rw [hz] at dz gf af bz EG
                rw [hab] at du3 af
                rw [haa] at du4 af
                clear hG hpa hpb hqa hqb hz hab haa eP eQ eU hsi hsl
                have GF := Lib.hid gf
                have AFF := Lib.hid af
                clear gf af
                have c0 : ∀ m, (w6.drewN m).cell? (a3.add i) = some (.int .i64 pa) := fun m => dpa
                have c1 : ∀ m, (w6.drewN m).cell? (a3.add q) = some (.int .i64 pb) := fun m => dpb
                have c2 : ∀ m, (w6.drewN m).cell? ⟨(a1.add (i * 5)).block, (a1.add (i * 5)).off + 2, none⟩ = some (.int .i64 z) := fun m => dz
                have n1 : -9223372036854775808 ≤ pb - pa ∧ pb - pa ≤ 9223372036854775807 := by omega
                have n2 : -9223372036854775808 ≤ pb - pa - z ∧ pb - pa - z ≤ 9223372036854775807 := by omega
                have DZ := Lib.hid dz
                have DQ := Lib.hid dqa
                have DR := Lib.hid dqb
                have D3 := Lib.hid du3
                have D4 := Lib.hid du4
                clear dpa dpb dz dqa dqb du3 du4
                go_upto_region 31 with fail
                go_quiet (fail)
                have B7 := Lib.hid (Below.drewN' B6.out nq)
                have dz : (w6.drewN nq).cell? ⟨(a1.add (i * 5)).block, (a1.add (i * 5)).off + 2, none⟩ = some (.int .i64 z) := DZ.out
                have dqa : (w6.drewN nq).cell? (a4.add i) = some (.int .i64 qa) := DQ.out
                have dqb : (w6.drewN nq).cell? (a4.add q) = some (.int .i64 qb) := DR.out
                have du3 : (w6.drewN nq).cell? ⟨(a2.add (q * 5)).block, (a2.add (q * 5)).off + 3, none⟩ = some (.bool ab) := D3.out
                have du4 : (w6.drewN nq).cell? ⟨(a2.add (i * 5)).block, (a2.add (i * 5)).off + 4, none⟩ = some (.bool aa) := D4.out
                clear B6 c0 c1 c2 DZ DQ DR D3 D4
                generalize w6.drewN nq = w7 at *
                obtain ⟨gv, hgv⟩ : ∃ g, pb - pa - z = g := ⟨_, rfl⟩
                rw [hgv] at GF EG ⊢
                have gb : -5000000000000000 ≤ gv ∧ gv ≤ 5000000000000000 := by omega
                clear hgv n1 n2
                have n3 : -9223372036854775808 ≤ G + gv ∧ G + gv ≤ 9223372036854775807 := by omega
                have hkk := HKK.out
                go_upto_region 34 with fail
                clear hkk n3
                go_cut [212] from 163 to 212 (fun v wx => v = .bool false ∧ wx = w7)
                case first =>
                  obtain ⟨g1, g2, g3⟩ := GF.out
                  by_cases y3 : y < 3
                  · have z3 : decide ((y : Int) < 3) = true := decide_eq_true (by omega)
                    have zg : (gv != 0) = false := by rw [bne_eq_false_iff_eq]; exact g1 (by omega)
                    have za : ((y : Int) == 3) = false := by rw [beq_eq_false_iff_ne]; omega
                    have zb : ((y : Int) == 4) = false := by rw [beq_eq_false_iff_ne]; omega
                    clear g1 g2 g3
                    go_wp2_with fail
                    go_meet
                    exact ⟨rfl, rfl⟩
                  · by_cases y4 : y = 3
                    · have z3 : decide ((y : Int) < 3) = false := decide_eq_false (by omega)
                      have za : ((y : Int) == 3) = true := by rw [beq_iff_eq]; omega
                      have zb : ((y : Int) == 4) = false := by rw [beq_eq_false_iff_ne]; omega
                      obtain ⟨h1, h2⟩ := g2 (by omega)
                      obtain ⟨d, hd⟩ : ∃ d, t / (kk : Int) = d := ⟨_, rfl⟩
                      have hd1 : t.tdiv (kk : Int) = d := by rw [Int.tdiv_eq_ediv_of_nonneg (by omega)]; exact hd
                      rw [hd] at h1 h2
                      have zk : ((kk : Int) == 0) = false := by rw [beq_eq_false_iff_ne]; omega
                      have d1 : decide (gv < d) = false := decide_eq_false (by omega)
                      have d2 : decide (gv > d + 1) = false := decide_eq_false (by omega)
                      have d1p : ¬ gv < d := by omega
                      have d2p : ¬ gv > d + 1 := by omega
                      have n4 : -9223372036854775808 ≤ d + 1 ∧ d + 1 ≤ 9223372036854775807 := by omega
                      have Y4 := Lib.hid y4
                      clear g1 g2 g3 y4
                      go_wp2_with fail
                      go_meet
                      exact ⟨rfl, rfl⟩
                    · have z3 : decide ((y : Int) < 3) = false := decide_eq_false (by omega)
                      have za : ((y : Int) == 3) = false := by rw [beq_eq_false_iff_ne]; omega
                      have zb : ((y : Int) == 4) = true := by rw [beq_iff_eq]; omega
                      obtain ⟨h1, h2⟩ := g3 (by omega)
                      obtain ⟨M, hM⟩ : ∃ M, 2 * (k : Int) = M := ⟨_, rfl⟩
                      have hM0 : 0 < M ∧ M ≤ 20 := by omega
                      rw [hM] at h1 h2
                      obtain ⟨d, hd⟩ : ∃ d, t / M = d := ⟨_, rfl⟩
                      have hd1 : t.tdiv M = d := by rw [Int.tdiv_eq_ediv_of_nonneg (by omega)]; exact hd
                      rw [hd] at h1 h2
                      have zk : (M == 0) = false := by rw [beq_eq_false_iff_ne]; omega
                      have d1 : decide (gv < 2 * d) = false := decide_eq_false (by omega)
                      have d2 : decide (gv > 2 * d + 2) = false := decide_eq_false (by omega)
                      have d1p : ¬ gv < 2 * d := by omega
                      have d2p : ¬ gv > 2 * d + 2 := by omega
                      have n4 : -9223372036854775808 ≤ 2 * d ∧ 2 * d ≤ 9223372036854775807 := by omega
                      have n5 : -9223372036854775808 ≤ 2 * d + 2 ∧ 2 * d + 2 ≤ 9223372036854775807 := by omega
                      clear g1 g2 g3 y4
                      go_wp2_with fail
                      go_meet
                      exact ⟨rfl, rfl⟩
                case rest =>
                  obtain ⟨rfl, rfl⟩ := hcut
                  generalize wc = w7 at *
                  have c0 : ∀ m, (w7.drewN m).cell? (a4.add i) = some (.int .i64 qa) := fun m => dqa
                  have c1 : ∀ m, (w7.drewN m).cell? (a4.add q) = some (.int .i64 qb) := fun m => dqb
                  have c2 : ∀ m, (w7.drewN m).cell? ⟨(a1.add (i * 5)).block, (a1.add (i * 5)).off + 2, none⟩ = some (.int .i64 z) := fun m => dz
                  have n1 : -9223372036854775808 ≤ qb - qa ∧ qb - qa ≤ 9223372036854775807 := by omega
                  have n2 : -9223372036854775808 ≤ qb - qa - z ∧ qb - qa - z ≤ 9223372036854775807 := by omega
                  have D3 := Lib.hid du3
                  have D4 := Lib.hid du4
                  clear dz dqa dqb du3 du4
                  go_upto_region 36 with fail
                  go_quiet (fail)
                  have B8 := Lib.hid (Below.drewN' B7.out nq)
                  have du3 : (w7.drewN nq).cell? ⟨(a2.add (q * 5)).block, (a2.add (q * 5)).off + 3, none⟩ = some (.bool ab) := D3.out
                  have du4 : (w7.drewN nq).cell? ⟨(a2.add (i * 5)).block, (a2.add (i * 5)).off + 4, none⟩ = some (.bool aa) := D4.out
                  clear B7 c0 c1 c2 D3 D4
                  generalize w7.drewN nq = w8 at *
                  obtain ⟨hh, hhh⟩ : ∃ g, qb - qa - z = g := ⟨_, rfl⟩
                  rw [hhh] at AFF ⊢
                  clear hhh n1 n2
                  go_upto_region 37 with fail
                  go_cut [252] from 230 to 252 (fun v wx => v = .bool false ∧ wx = w8)
                  case first =>
                    by_cases m0 : 0 < m
                    · have zm : decide ((m : Int) > 0) = true := decide_eq_true (by omega)
                      have AF2 := Lib.hid (AFF.out m0)
                      cases ab
                      · cases aa
                        · have zh : (hh != 0) = false := by rw [bne_eq_false_iff_eq]; exact AF2.out rfl rfl
                          go_wp2_with fail
                          go_meet
                          exact ⟨rfl, rfl⟩
                        · go_wp2_with fail
                          go_meet
                          exact ⟨rfl, rfl⟩
                      · go_wp2_with fail
                        go_meet
                        exact ⟨rfl, rfl⟩
                    · have zm : decide ((m : Int) > 0) = false := decide_eq_false (by omega)
                      go_wp2_with fail
                      go_meet
                      exact ⟨rfl, rfl⟩
                  case rest =>
                    obtain ⟨rfl, rfl⟩ := hcut
                    generalize wc = w8 at *
                    go_wp2_with fail
                    go_roundw
                    case rel => exact ⟨q, q + 1, by rw [EG.out], by go_num, Lib.hid rfl, by omega, by omega, by omega, B8⟩
                    case measure => simp [intOf] <;> omega
            · as_aux_lemma =>
                obtain rfl : q = k := by omega
                have hltz : ¬ (q : Int) < q := by omega
                obtain rfl : i = kk := by omega
                have h0q : 0 < Q.length := by rw [LQy.out]; exact hpos
                have h0u : 0 < us.length := by rw [HA.out]; exact hpos
                obtain ⟨a4, rfl, -, dq0⟩ := (RQ5.out.below B6.out).int h0q
                rw [addr_nil] at dq0
                obtain ⟨a2, rfl, -, -, -, -, du3, -⟩ := Row.al (RU5.out.below B6.out) h0u
                rw [Nat.zero_mul, addr_nil] at du3
                have A0 := Lib.hid (fun (h0 : 0 < m) => AFy.out.fst h0 h0u h0q)
                have bq0 := BQy.out 0 h0q
                have hsi := sumC_bd (c := 50) (by decide) (zs.take i) (fun z hz => by have := HZB.out z (List.mem_of_mem_take hz); omega)
                have hsl : (zs.take i).length ≤ 10 := by rw [List.length_take]; omega
                have e1 : P.getD i 0 - P.getD 0 0 - (zs.take i).sum = pk - p0 - (zs.take i).sum := by rw [← HG0.out hkp, HPK.out, HG1.out]
                rw [e1]
                have skk := SKK.out
                obtain ⟨sk, hsk⟩ : ∃ s, (zs.take i).sum = s := ⟨_, rfl⟩
                rw [hsk] at skk hsi ⊢
                obtain ⟨q0, hq0⟩ : ∃ p, Q[0] = p := ⟨_, rfl⟩
                rw [hq0] at dq0 A0 bq0
                obtain ⟨ab, hab⟩ : ∃ z, us[0].ab = z := ⟨_, rfl⟩
                rw [hab] at du3 A0
                clear hsk hq0 hab e1
                have hlt2 := HLT.out
                have hin2 := HIN.out
                have F1 := FST.out
                have F2 := LST.out
                rw [HSS.out] at F2
                have GB : -9000000000000000 ≤ pk - p0 - sk ∧ pk - p0 - sk ≤ 9000000000000000 := by omega
                obtain ⟨G, hG⟩ : ∃ g, pk - p0 - sk = g := ⟨_, rfl⟩
                rw [hG] at GB ⊢
                have zsum : (p0 + G + lt != t) = false := by rw [bne_eq_false_iff_eq]; omega
                have lb : -9000000000000000 ≤ lt ∧ lt ≤ 9000000000000000 := by omega
                have n1 : -9223372036854775808 ≤ p0 + G ∧ p0 + G ≤ 9223372036854775807 := by omega
                have n2 : -9223372036854775808 ≤ p0 + G + lt ∧ p0 + G + lt ≤ 9223372036854775807 := by omega
                have n3 : -9223372036854775808 ≤ p0 + 1 ∧ p0 + 1 ≤ 9223372036854775807 := by omega
                have f0 : y = 0 ∨ y = 3 → p0 = 0 := fun h => F1.1 (by omega)
                have f2 : y = 2 → p0 = t / 2 := fun h => F1.2 (by omega)
                have l1 : y = 1 → lt = 0 := fun h => by have := F2.1 (by omega); omega
                have l2 : y = 2 → lt = t - t / 2 := fun h => by have := F2.2.1 (by omega); omega
                have l3 : y = 3 → 1 < q → lt = 0 := fun h h1 => by have := F2.2.2 (by omega) h1; omega
                have FF := Lib.hid (show (y = 0 ∨ y = 3 → p0 = 0) ∧ (y = 2 → p0 = t / 2) ∧ (y = 1 → lt = 0) ∧ (y = 2 → lt = t - t / 2) ∧ (y = 3 → 1 < q → lt = 0) from ⟨f0, f2, l1, l2, l3⟩)
                clear F1 F2 f0 f2 l1 l2 l3 hG hlt2 hin2 skk hsi hsl
                have D3 := Lib.hid du3
                have DQ := Lib.hid dq0
                clear du3 dq0
                go_upto_region 39 with fail
                go_cut [311] from 253 to 311 (fun v wx => v = .bool false ∧ wx = w6)
                case first =>
                  obtain ⟨f0, f2, l1, l2, l3⟩ := FF.out
                  rcases (show y = 0 ∨ y = 1 ∨ y = 2 ∨ y = 3 ∨ y = 4 by omega) with hh | hh | hh | hh | hh
                  · have z0 : ((y : Int) == 0) = true := by rw [beq_iff_eq]; omega
                    have z1 : ((y : Int) == 1) = false := by rw [beq_eq_false_iff_ne]; omega
                    have z2 : ((y : Int) == 2) = false := by rw [beq_eq_false_iff_ne]; omega
                    have z3 : ((y : Int) == 3) = false := by rw [beq_eq_false_iff_ne]; omega
                    have g0 : (p0 != 0) = false := by rw [bne_eq_false_iff_eq]; exact f0 (.inl hh)
                    have HH := Lib.hid hh
                    clear f0 f2 l1 l2 l3 hh
                    go_wp2_with fail
                    go_meet
                    exact ⟨rfl, rfl⟩
                  · have z0 : ((y : Int) == 0) = false := by rw [beq_eq_false_iff_ne]; omega
                    have z1 : ((y : Int) == 1) = true := by rw [beq_iff_eq]; omega
                    have z2 : ((y : Int) == 2) = false := by rw [beq_eq_false_iff_ne]; omega
                    have z3 : ((y : Int) == 3) = false := by rw [beq_eq_false_iff_ne]; omega
                    have g0 : (lt != 0) = false := by rw [bne_eq_false_iff_eq]; exact l1 hh
                    have HH := Lib.hid hh
                    clear f0 f2 l1 l2 l3 hh
                    go_wp2_with fail
                    go_meet
                    exact ⟨rfl, rfl⟩
                  · have z0 : ((y : Int) == 0) = false := by rw [beq_eq_false_iff_ne]; omega
                    have z1 : ((y : Int) == 1) = false := by rw [beq_eq_false_iff_ne]; omega
                    have z2 : ((y : Int) == 2) = true := by rw [beq_iff_eq]; omega
                    have z3 : ((y : Int) == 3) = false := by rw [beq_eq_false_iff_ne]; omega
                    have e2 := f2 hh
                    have e3 := l2 hh
                    have g0 : decide (lt < p0) = false := decide_eq_false (by omega)
                    have g1 : decide (lt > p0 + 1) = false := decide_eq_false (by omega)
                    have g0p : ¬ lt < p0 := by omega
                    have g1p : ¬ lt > p0 + 1 := by omega
                    clear e2 e3
                    have HH := Lib.hid hh
                    clear f0 f2 l1 l2 l3 hh
                    go_wp2_with fail
                    go_meet
                    exact ⟨rfl, rfl⟩
                  · have z0 : ((y : Int) == 0) = false := by rw [beq_eq_false_iff_ne]; omega
                    have z1 : ((y : Int) == 1) = false := by rw [beq_eq_false_iff_ne]; omega
                    have z2 : ((y : Int) == 2) = false := by rw [beq_eq_false_iff_ne]; omega
                    have z3 : ((y : Int) == 3) = true := by rw [beq_iff_eq]; omega
                    have g0 : (p0 != 0) = false := by rw [bne_eq_false_iff_eq]; exact f0 (.inr hh)
                    by_cases h1 : 1 < q
                    · have y1 : decide ((q : Int) > 1) = true := decide_eq_true (by omega)
                      have y2 : (lt != 0) = false := by rw [bne_eq_false_iff_eq]; exact l3 hh h1
                      have HH := Lib.hid hh
                      clear f0 f2 l1 l2 l3 hh
                      clear h1
                      go_wp2_with fail
                      go_meet
                      exact ⟨rfl, rfl⟩
                    · have y1 : decide ((q : Int) > 1) = false := decide_eq_false (by omega)
                      have HH := Lib.hid hh
                      clear f0 f2 l1 l2 l3 hh
                      clear h1
                      go_wp2_with fail
                      go_meet
                      exact ⟨rfl, rfl⟩
                  · have z0 : ((y : Int) == 0) = false := by rw [beq_eq_false_iff_ne]; omega
                    have z1 : ((y : Int) == 1) = false := by rw [beq_eq_false_iff_ne]; omega
                    have z2 : ((y : Int) == 2) = false := by rw [beq_eq_false_iff_ne]; omega
                    have z3 : ((y : Int) == 3) = false := by rw [beq_eq_false_iff_ne]; omega
                    have HH := Lib.hid hh
                    clear f0 f2 l1 l2 l3 hh
                    go_wp2_with fail
                    go_meet
                    exact ⟨rfl, rfl⟩
                case rest =>
                  obtain ⟨rfl, rfl⟩ := hcut
                  generalize wc = w7 at *
                  have d3 := D3.out
                  have d0 := DQ.out
                  have c0 : ∀ m, (w7.drewN m).cell? a4 = some (.int .i64 q0) := fun m => d0
                  have c3 : ∀ m, (w7.drewN m).cell? ⟨a2.block, a2.off + 3, none⟩ = some (.bool ab) := fun m => d3
                  have hposz2 : (0 : Int) < q := by omega
                  clear D3 DQ d3 d0 zsum n1 n2 n3
                  go_upto_region 41 with fail
                  by_cases m0 : 0 < m
                  · have zm : decide ((m : Int) > 0) = true := decide_eq_true (by omega)
                    obtain ⟨A1', A2'⟩ := A0.out m0
                    have HM0 := Lib.hid m0
                    cases ab
                    · have zq : (q0 != 0) = false := by rw [bne_eq_false_iff_eq]; exact A1' rfl
                      clear A1' A2'
                      go_quiet (fail)
                      have B8 := Lib.hid (Below.drewN' B6.out nq)
                      clear B6 c0 c3
                      generalize w7.drewN nq = w8 at *
                      go_wp2_with fail
                      go_roundw
                      case rel => exact ⟨y + 1, by go_num, by omega, Lib.hid (B5.out.trans (B8.out.mono B5.out.size))⟩
                      case measure => simp [intOf] <;> omega
                    · obtain ⟨h1, h2⟩ := A2' rfl
                      obtain ⟨d, hd⟩ : ∃ d, t / (m : Int) = d := ⟨_, rfl⟩
                      have hd1 : t.tdiv (m : Int) = d := by rw [Int.tdiv_eq_ediv_of_nonneg (by omega)]; exact hd
                      rw [hd] at h1 h2
                      have zk : ((m : Int) == 0) = false := by rw [beq_eq_false_iff_ne]; omega
                      have d1 : decide (q0 < d) = false := decide_eq_false (by omega)
                      have d2 : decide (q0 > d + 1) = false := decide_eq_false (by omega)
                      have d1p : ¬ q0 < d := by omega
                      have d2p : ¬ q0 > d + 1 := by omega
                      have n4 : -9223372036854775808 ≤ d + 1 ∧ d + 1 ≤ 9223372036854775807 := by omega
                      clear A1' A2'
                      go_quiet (fail)
                      have B8 := Lib.hid (Below.drewN' B6.out nq)
                      clear B6 c0 c3
                      generalize w7.drewN nq = w8 at *
                      go_wp2_with fail
                      go_roundw
                      case rel => exact ⟨y + 1, by go_num, by omega, Lib.hid (B5.out.trans (B8.out.mono B5.out.size))⟩
                      case measure => simp [intOf] <;> omega
                  · have zm : decide ((m : Int) > 0) = false := decide_eq_false (by omega)
                    have zm2 : decide ((0 : Int) < (m : Int)) = false := decide_eq_false (by omega)
                    have zm3 : decide (0 < m) = false := decide_eq_false (by omega)
                    have HM0 := Lib.hid m0
                    clear m0
                    go_quiet (fail)
                    have B8 := Lib.hid (Below.drewN' B6.out nq)
                    clear B6 c0 c3
                    generalize w7.drewN nq = w8 at *
                    go_wp2_with fail
                    go_roundw
                    case rel => exact ⟨y + 1, by go_num, by omega, Lib.hid (B5.out.trans (B8.out.mono B5.out.size))⟩
                    case measure => simp [intOf] <;> omega
        · obtain rfl : y = 5 := by omega
          have B3 := Lib.hid (B1.out.trans (B2.out.mono B1.out.size))
          have hltz : ¬ ((5 : Nat) : Int) < 5 := by omega
          go_wp2_with fail
          refine (AW.out _).mono ?_
          rintro e w9 ⟨rfl, hb9⟩
          have B9 := Lib.hid (B3.out.trans (hb9.mono B3.out.size))
          clear hb9
          go_wp2_with fail
          go_ret
          exact ⟨rfl, B9.out⟩
end Go.Proofs.Yteaenomfighaoaa
