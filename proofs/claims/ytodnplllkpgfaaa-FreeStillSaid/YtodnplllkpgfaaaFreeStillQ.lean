import Derived.Test.YtodnplllkpgfaaaFreeMoreQ
import Derived.Test.YtodnplllkpgfaaaFreeTameQ
import Derived.Test.YtodnplllkpgfaaaFreeAlikQ
import Derived.Test.YtodnplllkpgfaaaMinTwoQ
/- FreeStill: items without factors stay; items that are alike stay so but for a unit. -/
namespace Go.Proofs.Ytodnplllkpgfaaa
open Go Go.RowKit
set_option linter.unusedVariables false
set_option linter.unusedSimpArgs false
set_option maxRecDepth 20000
set_option maxHeartbeats 8000000

def bareX (x : Fx) : Fx := ⟨x.base, x.mn, x.mx, 0, 0, x.around⟩
theorem bareX_hyp (x : Fx) : hypF (bareX x) = hypF x := rfl
theorem bareX_ok {x : Fx} (h : FxOk x) : FxOk (bareX x) := ⟨h.b0, h.b1, h.m0, h.m1, h.x0, h.x1, (by decide : (0 : Int) ≤ 0), (by decide : (0 : Int) ≤ 100), (by decide : (0 : Int) ≤ 0), (by decide : (0 : Int) ≤ 100), h.a0, h.a1⟩
theorem addr_nought (a : Addr) : a.add 0 = a := by unfold Addr.add; simp
theorem fstill_any (l0 : List Fx) (hl : l0.length ≤ 9223372036854775807) (A : Option Addr) (c : Nat) (inner nn : Int) (W : World) (hR : Row W W.heap.size A (l0.flatMap fxC)) :
    Calls Try.prog 8 #[.slice A l0.length c, .int .i64 inner, .int .i64 nn] W fun e w' => e = .returned (.bool true) ∧ Below W.heap.size W w' := by
  have AW := Lib.hid (fun w => fawake_any w)
  have TM := Lib.hid (ftame_any l0 hl A c true W hR)
  clear hR
  have k10 : ∀ x : Int, bits .and .i64 x 1023 = x % 1024 := fun x => and_mask_i64 x 10 (by decide)
  have k3 : ∀ x : Int, bits .and .i64 x 7 = x % 8 := fun x => and_mask_i64 x 3 (by decide)
  have t0 := Int.emod_nonneg inner (show (1024 : Int) ≠ 0 by decide)
  have t1 := Int.emod_lt_of_pos inner (show (0 : Int) < 1024 by decide)
  obtain ⟨t, ht⟩ : ∃ t, inner % 1024 = t := ⟨_, rfl⟩
  rw [ht] at t0 t1
  have ra : InRoom t := ⟨by omega, by omega⟩
  have RA := Lib.hid ra
  clear ra
  go_enter Try.func8, Try.ntmps8
  go_wp2_with fail
  refine TM.out.mono ?_
  rintro e w1 ⟨L, A1, c1, rfl, o1, hl12, hok, hb1⟩
  have S0 := Lib.hid hb1.size
  have R1 := Lib.hid (row_of_own o1)
  have B1 := Lib.hid hb1
  have HOK := Lib.hid hok
  clear o1 hb1 TM hok
  obtain ⟨n, hn⟩ : ∃ n, L.length = n := ⟨_, rfl⟩
  have HN := Lib.hid hn
  rw [hn] at hl12 ⊢
  clear hn
  go_wp2_with fail
  clear hl
  go_loopw [8, 9] (fun v8 v9 wr => ∃ (k : Nat) (A' : Option Addr) (c' : Nat), v8 = .slice A' k c' ∧ v9 = .int .i64 k ∧ k ≤ n ∧ Hid (wr.ownsRow w1.heap.size 26 6 (.slice A' k c') k (((L.take k).map bareX).flatMap fxC)) ∧ Hid (Below w1.heap.size w1 wr)) (fun _ v9 _ => n - (intOf v9).toNat)
  case atStart => exact ⟨0, none, 0, rfl, rfl, Nat.zero_le _, Lib.hid ⟨rfl, .inl ⟨rfl, rfl⟩⟩, Lib.hid (Below.refl _ _)⟩
  case round =>
    obtain ⟨k, A', c', rfl, rfl, hk, O, B⟩ := hrel
    by_cases hlt : k < n
    · have hltz : (k : Int) < n := by omega
      have hkl : k < L.length := by rw [HN.out]; exact hlt
      obtain ⟨ad, rfl, hb, d0, d1, d2, d3, d4, d5⟩ := Row.flex (R1.out.below B.out) hkl
      have ET : Hid (((L.take (k + 1)).map bareX).flatMap fxC = ((L.take k).map bareX).flatMap fxC ++ fxC (bareX L[k])) := Lib.hid (by
        rw [List.take_succ_eq_append_getElem hkl, List.map_append, List.flatMap_append]; simp)
      obtain ⟨x, hx⟩ : ∃ x, L[k] = x := ⟨_, rfl⟩
      rw [hx] at d0 d1 d2 d3 d4 d5 ET
      clear hx
      have X0 := Lib.hid (Whole.mk wr 26 #[.int .i64 x.base, .int .i64 x.mn, .int .i64 x.mx, .int .i64 x.grow, .int .i64 x.shrink, .int .i64 x.around])
      have O1 := Lib.hid (own_below O.out ((Below.refl _ wr).alloc (Nat.le_refl _) (.cells #[.int .i64 x.base, .int .i64 x.mn, .int .i64 x.mx, .int .i64 x.grow, .int .i64 x.shrink, .int .i64 x.around] 26)) (Nat.le_refl _))
      have B1 := Lib.hid (B.out.alloc B.out.size (.cells #[.int .i64 x.base, .int .i64 x.mn, .int .i64 x.mx, .int .i64 x.grow, .int .i64 x.shrink, .int .i64 x.around] 26))
      have NB : Hid (∀ g, (Value.slice A' k c').ownBlock = some g → g ≠ wr.heap.size) := Lib.hid (fun g hg => by have := owns_lt O.out hg; omega)
      have hbs := B.out.size
      go_upto_region 7 with fail
      clear O B d0 d1 d2 d3 d4 d5
      generalize wr.alloc _ = w2 at *
      obtain ⟨g, hg⟩ : ∃ g, wr.heap.size = g := ⟨_, rfl⟩
      rw [hg] at X0 NB hbs ⊢
      clear hg
      have n0 : (Value.slice A' k c').ownBlock ≠ some g := fun e => NB.out g e rfl
      have f3 := X0.out.free 3
      have f4 := X0.out.free 4
      have c3 : w2.cell? ⟨g, 3, none⟩ = some (.int .i64 x.grow) := X0.out.cell 3
      have c4 : w2.cell? ⟨g, 4, none⟩ = some (.int .i64 x.shrink) := X0.out.cell 4
      go_upto_region 8 with fail
      obtain ⟨w3, hX, hO, hB, hw3⟩ : ∃ w3, Whole w3 g 26 [.int .i64 x.base, .int .i64 x.mn, .int .i64 x.mx, .int .i64 0, .int .i64 0, .int .i64 x.around] ∧ w3.ownsRow w1.heap.size 26 6 (.slice A' k c') k (((L.take k).map bareX).flatMap fxC) ∧ Below w1.heap.size w1 w3 ∧
          w3 = ((w2.setCell ⟨g, 3, none⟩ (.int .i64 0)).setCell ⟨g, 4, none⟩ (.int .i64 0)) :=
        ⟨((w2.setCell ⟨g, 3, none⟩ (.int .i64 0)).setCell ⟨g, 4, none⟩ (.int .i64 0)), (X0.out.put 3 (.int .i64 0)).put 4 (.int .i64 0),
          ownsRow_setCell_other (ownsRow_setCell_other O1.out (a := ⟨g, 3, none⟩) n0 (.int .i64 0)) (a := ⟨g, 4, none⟩) n0 (.int .i64 0),
          (B1.out.setCell (p := ⟨g, 3, none⟩) hbs (.int .i64 0)).setCell (p := ⟨g, 4, none⟩) hbs (.int .i64 0), rfl⟩
      rw [← hw3]
      have X4 := Lib.hid hX
      have O4 := Lib.hid hO
      have B4 := Lib.hid hB
      clear c3 c4 f3 f4 hX hO hB hw3 X0 O1 B1 n0 hbs NB
      have x0 := X4.out.cell 0
      have x1 := X4.out.cell 1
      have x2 := X4.out.cell 2
      have x3 := X4.out.cell 3
      have x4 := X4.out.cell 4
      have x5 := X4.out.cell 5
      simp only [List.getElem?_cons_zero, List.getElem?_cons_succ] at x0 x1 x2 x3 x4 x5
      have O5 := Lib.hid (own_below O4.out ((Below.refl _ w3).alloc (Nat.le_refl _) (.cells #[.int .i64 x.base, .int .i64 x.mn, .int .i64 x.mx, .int .i64 0, .int .i64 0, .int .i64 x.around] 26)) (Nat.le_refl _))
      have B5 := Lib.hid (B4.out.alloc B4.out.size (.cells #[.int .i64 x.base, .int .i64 x.mn, .int .i64 x.mx, .int .i64 0, .int .i64 0, .int .i64 x.around] 26))
      have W5 := Lib.hid (Whole.mk w3 26 #[.int .i64 x.base, .int .i64 x.mn, .int .i64 x.mx, .int .i64 0, .int .i64 0, .int .i64 x.around])
      go_upto_region 5 with (at_builtin; refine wpList_pushOne rfl (.tmp 33) (.tmp 35) _ rfl w1.heap.size 26 6 48 fxV0 Try.underlying23 fx_info rfl (by decide) k (.slice A' k c') _ rfl O5.out B5.out.size w3.heap.size [.int .i64 x.base, .int .i64 x.mn, .int .i64 x.mx, .int .i64 0, .int .i64 0, .int .i64 x.around] rfl W5.out rfl (by simp [Value.oneCell']) (by unfold maxLen; omega) (by omega) ?_; intro A6 c6 w7 h5 ho5 hk5)
      have O7 : Hid (w7.ownsRow w1.heap.size 26 6 (.slice A6 (k + 1) c6) (k + 1) (((L.take (k + 1)).map bareX).flatMap fxC)) := Lib.hid (by
        rw [ET.out]; exact h5)
      have B7 := Lib.hid (own_push O5.out B5.out B5.out.size ho5)
      clear h5 ho5 hk5 O5 B5 W5 x0 x1 x2 x3 x4 x5
      go_wp2_with fail
      go_roundw
      case rel => exact ⟨k + 1, A6, c6, by go_num, by go_num, by omega, O7, B7⟩
      case measure => simp [intOf] <;> omega
    · obtain rfl : n = k := by omega
      have hltz : ¬ (n : Int) < n := by omega
      have e1 : (L.take n) = L := List.take_of_length_le (by rw [HN.out]; omega)
      rw [e1] at O
      clear e1
      have RB := Lib.hid (row_of_own O.out)
      have T1 := Lib.hid ((R1.out.below B.out).more B.out.size)
      have B2 := Lib.hid (B1.out.trans (B.out.mono S0.out))
      clear O B R1 B1
      have hbok : ∀ x ∈ L.map bareX, FxOk x := fun x hx => by
        obtain ⟨y, hy, rfl⟩ := List.mem_map.1 hx
        exact bareX_ok (HOK.out y hy)
      have hbl : (L.map bareX).length = n := by rw [List.length_map, HN.out]
      have hz : resF t (L.map bareX) = L.map hypF := by
        rw [res_yes RA.out hbok (by rw [hbl]; omega), bare_sizes (fun x hx => by obtain ⟨y, -, rfl⟩ := List.mem_map.1 hx; exact ⟨rfl, rfl⟩), List.map_map]; rfl
      have hzl : (L.map hypF).length = n := by rw [List.length_map, HN.out]
      have FA := Lib.hid (fun (w : World) (h : Row w w.heap.size A' ((L.map bareX).flatMap fxC)) => (fres_any (L.map bareX) A' c' t w h (by omega)).mono fun e w' hp => res_row hp hz hzl)
      rw [hbl] at FA
      clear hz hbok hbl
      obtain ⟨P, hP⟩ : ∃ P, L.map hypF = P := ⟨_, rfl⟩
      have EP := Lib.hid hP
      rw [hP] at FA hzl
      have LA := Lib.hid hzl
      clear hP hzl
      go_wp2_with fail
      refine (FA.out _ RB.out).mono ?_
      rintro e w2 ⟨A2, c2, rfl, r2, hb2⟩
      have R2 := Lib.hid r2
      have S1 := Lib.hid ((T1.out.below hb2).more hb2.size)
      have B3 := Lib.hid (B2.out.trans (hb2.mono B2.out.size))
      clear r2 hb2 FA T1 B2 RB
      go_wp2_with fail
      go_loopw [12] (fun v12 wr => ∃ k : Nat, v12 = .int .i64 k ∧ k ≤ n ∧ Hid (Below w2.heap.size w2 wr)) (fun v12 _ => n - (intOf v12).toNat)
      case atStart => exact ⟨0, rfl, Nat.zero_le _, Lib.hid (Below.refl _ _)⟩
      case round =>
        generalize wr = w3 at *
        obtain ⟨k, rfl, hk, B4⟩ := hrel
        by_cases hlt : k < n
        · have hltz : (k : Int) < n := by omega
          have hkl : k < L.length := by rw [HN.out]; exact hlt
          have hkp : k < P.length := by rw [LA.out]; exact hlt
          obtain ⟨a1, rfl, hab1, d0, d1, d2, d3, d4, d5⟩ := Row.flex (S1.out.below B4.out) hkl
          obtain ⟨a2, rfl, hab2, dp⟩ := (R2.out.below B4.out).int hkp
          have hbl : (a1.add (k * 6)).block < w3.heap.size := by have := B4.out.size; rw [add_block]; omega
          have hbl2 : (a2.add k).block < w3.heap.size := by have := B4.out.size; rw [add_block]; omega
          have ep : P[k] = hypF L[k] := by
            have h : (L.map hypF)[k]? = P[k]? := by rw [EP.out]
            rw [List.getElem?_map, List.getElem?_eq_getElem hkl, List.getElem?_eq_getElem hkp] at h
            simpa using h.symm
          rw [ep] at dp
          obtain ⟨x, hx⟩ : ∃ x, L[k] = x := ⟨_, rfl⟩
          rw [hx] at d0 d1 d2 d3 d4 d5 dp
          clear hx ep
          have HY := Lib.hid (fun w => rhyp_any x w)
          have c0 : ∀ t : Later w3.heap.size w3, t.w.cell? (a1.add (k * 6)) = some (.int .i64 x.base) := fun t => (t.h.cell (p := a1.add (k * 6)) hbl).trans d0
          have c1 : ∀ t : Later w3.heap.size w3, t.w.cell? ⟨(a1.add (k * 6)).block, (a1.add (k * 6)).off + 1, none⟩ = some (.int .i64 x.mn) := fun t => (t.h.cell (p := ⟨(a1.add (k * 6)).block, (a1.add (k * 6)).off + 1, none⟩) hbl).trans d1
          have c2 : ∀ t : Later w3.heap.size w3, t.w.cell? ⟨(a1.add (k * 6)).block, (a1.add (k * 6)).off + 2, none⟩ = some (.int .i64 x.mx) := fun t => (t.h.cell (p := ⟨(a1.add (k * 6)).block, (a1.add (k * 6)).off + 2, none⟩) hbl).trans d2
          have c3 : ∀ t : Later w3.heap.size w3, t.w.cell? ⟨(a1.add (k * 6)).block, (a1.add (k * 6)).off + 3, none⟩ = some (.int .i64 x.grow) := fun t => (t.h.cell (p := ⟨(a1.add (k * 6)).block, (a1.add (k * 6)).off + 3, none⟩) hbl).trans d3
          have c4 : ∀ t : Later w3.heap.size w3, t.w.cell? ⟨(a1.add (k * 6)).block, (a1.add (k * 6)).off + 4, none⟩ = some (.int .i64 x.shrink) := fun t => (t.h.cell (p := ⟨(a1.add (k * 6)).block, (a1.add (k * 6)).off + 4, none⟩) hbl).trans d4
          have c5 : ∀ t : Later w3.heap.size w3, t.w.cell? ⟨(a1.add (k * 6)).block, (a1.add (k * 6)).off + 5, none⟩ = some (.int .i64 x.around) := fun t => (t.h.cell (p := ⟨(a1.add (k * 6)).block, (a1.add (k * 6)).off + 5, none⟩) hbl).trans d5
          have cp : ∀ t : Later w3.heap.size w3, t.w.cell? (a2.add k) = some (.int .i64 (hypF x)) := fun t => (t.h.cell (p := a2.add k) hbl2).trans dp
          go_upto_region 16 with fail
          clear d0 d1 d2 d3 d4 d5 dp
          refine region_lane [] [0, 1, 2, 3, 4, 5, 6, 7, 8] [9] (by kernel_rfl) (by kernel_rfl) (fun _ _ _ _ _ h => h) ?_
          simp only [pick, List.map_nil]
          refine wpQuiet_nil ⟨rfl, ?_⟩
          simp only [List.map_cons, List.map_nil, List.getD_cons_zero, List.getD_cons_succ, List.drop_succ_cons, List.drop_zero]
          refine laneO_run 8 (by kernel_rfl) ?_
          simp only [List.take_succ_cons, List.take_zero, List.drop_succ_cons, List.drop_zero]
          repeat (go_big_quiet_step (fail))
          refine wpQuiet_nil ?_
          refine laneO_call (v := .int .i64 (hypF x)) (by kernel_rfl) (by rfl) (fun C hC h0 => ?_) ?_
          focus (go_big_quiet_op; exact ⟨_, fun w hw => (HY.out w).mono fun e w' ⟨he, hb⟩ => ⟨he, hC _ _ hw hb⟩, rfl⟩)
          simp only [Act.put, List.setIfInBounds_toArray, List.set_cons_zero, List.set_cons_succ]
          refine laneO_end0 rfl rfl fun w5 hb5 => ?_
          have B5 := Lib.hid (B4.out.trans (hb5.mono B4.out.size))
          clear c0 c1 c2 c3 c4 c5 cp hb5 B4
          go_wp2_with fail
          go_roundw
          case rel => exact ⟨k + 1, by go_num, by omega, B5⟩
          case measure => simp [intOf] <;> omega
        · obtain rfl : n = k := by omega
          have hltz : ¬ (n : Int) < n := by omega
          have B5 := Lib.hid (B3.out.trans (B4.out.mono B3.out.size))
          have S2 := Lib.hid ((S1.out.below B4.out).more B4.out.size)
          clear B4 B3 S1 R2
          by_cases h0 : n = 0
          · have z0 : ((n : Int) == 0) = true := by rw [beq_iff_eq]; omega
            have H0 := Lib.hid h0
            clear h0
            go_wp2_with fail
            refine (AW.out _).mono ?_
            rintro e w5 ⟨rfl, hb5⟩
            have B6 := Lib.hid (B5.out.trans (hb5.mono B5.out.size))
            clear hb5
            go_wp2_with fail
            go_ret
            exact ⟨rfl, B6.out⟩
          · have z0 : ((n : Int) == 0) = false := by rw [beq_eq_false_iff_ne]; omega
            have hpos : 0 < n := by omega
            have hposz : (0 : Int) < n := by omega
            clear h0
            have u0 := Int.emod_nonneg nn (show (8 : Int) ≠ 0 by decide)
            have u1 := Int.emod_lt_of_pos nn (show (0 : Int) < 8 by decide)
            obtain ⟨u, hu⟩ : ∃ u, nn % 8 = u := ⟨_, rfl⟩
            rw [hu] at u0 u1
            have nu : -9223372036854775808 ≤ u + 1 ∧ u + 1 ≤ 9223372036854775807 := by omega
            have h0l : 0 < L.length := by rw [HN.out]; exact hpos
            have HX := Lib.hid (HOK.out _ (List.getElem_mem h0l))
            have FX := Lib.hid (fun (w : World) (h : Row w w3.heap.size A1 (L.flatMap fxC)) => Row.flex h h0l)
            obtain ⟨x, hx⟩ : ∃ x, L[0] = x := ⟨_, rfl⟩
            rw [hx] at FX HX
            clear hx
            go_wp2_with fail
            clear z0
            go_loopw [13, 14] (fun v13 v14 wr => ∃ (j : Nat) (A' : Option Addr) (c' : Nat), v13 = .slice A' j c' ∧ v14 = .int .i64 j ∧ j ≤ 8 ∧ (j : Int) ≤ u + 1 ∧ Hid (wr.ownsRow w3.heap.size 26 6 (.slice A' j c') j ((List.replicate j x).flatMap fxC)) ∧ Hid (Below w3.heap.size w3 wr)) (fun _ v14 _ => 9 - (intOf v14).toNat)
            case atStart => exact ⟨0, none, 0, rfl, rfl, by omega, by omega, Lib.hid ⟨rfl, .inl ⟨rfl, rfl⟩⟩, Lib.hid (Below.refl _ _)⟩
            case round =>
              obtain ⟨j, A', c', rfl, rfl, hj, hju, O, B⟩ := hrel
              by_cases hlt : (j : Int) < u + 1
              · have zj : decide ((j : Int) < u + 1) = true := decide_eq_true hlt
                obtain ⟨a1, rfl, hab1, d0, d1, d2, d3, d4, d5⟩ := FX.out _ (S2.out.below B.out)
                rw [show a1.add (0 * 6) = a1 from by rw [Nat.zero_mul]; exact addr_nought a1] at d0 d1 d2 d3 d4 d5
                have ET : Hid ((List.replicate (j + 1) x).flatMap fxC = (List.replicate j x).flatMap fxC ++ fxC x) := Lib.hid (by
                  rw [List.replicate_succ', List.flatMap_append]; simp)
                have O5 := Lib.hid (own_below O.out ((Below.refl _ wr).alloc (Nat.le_refl _) (.cells #[.int .i64 x.base, .int .i64 x.mn, .int .i64 x.mx, .int .i64 x.grow, .int .i64 x.shrink, .int .i64 x.around] 26)) (Nat.le_refl _))
                have B6 := Lib.hid (B.out.alloc B.out.size (.cells #[.int .i64 x.base, .int .i64 x.mn, .int .i64 x.mx, .int .i64 x.grow, .int .i64 x.shrink, .int .i64 x.around] 26))
                have W5 := Lib.hid (Whole.mk wr 26 #[.int .i64 x.base, .int .i64 x.mn, .int .i64 x.mx, .int .i64 x.grow, .int .i64 x.shrink, .int .i64 x.around])
                clear O B
                go_upto_region 23 with (at_builtin; refine wpList_pushOne rfl (.tmp 74) (.tmp 78) _ rfl w3.heap.size 26 6 48 fxV0 Try.underlying23 fx_info rfl (by decide) j (.slice A' j c') _ rfl O5.out B6.out.size wr.heap.size [.int .i64 x.base, .int .i64 x.mn, .int .i64 x.mx, .int .i64 x.grow, .int .i64 x.shrink, .int .i64 x.around] rfl W5.out rfl (by simp [Value.oneCell']) (by unfold maxLen; omega) (by omega) ?_; intro A6 c6 w7 h5 ho5 hk5)
                have O7 : Hid (w7.ownsRow w3.heap.size 26 6 (.slice A6 (j + 1) c6) (j + 1) ((List.replicate (j + 1) x).flatMap fxC)) := Lib.hid (by
                  rw [ET.out]; exact h5)
                have B7 := Lib.hid (own_push O5.out B6.out B6.out.size ho5)
                clear h5 ho5 hk5 O5 B6 W5 d0 d1 d2 d3 d4 d5
                go_wp2_with fail
                go_roundw
                case rel => exact ⟨j + 1, A6, c6, by go_num, by go_num, by omega, by omega, O7, B7⟩
                case measure => simp [intOf] <;> omega
              · have zj : decide ((j : Int) < u + 1) = false := decide_eq_false hlt
                have hj0 : 0 < j := by omega
                have hj0z : (0 : Int) < j := by omega
                have hal := alike_sizes HX.out j (by omega) RA.out
                have hjl : (List.replicate j x).length = j := List.length_replicate
                have hxs : ∀ y ∈ List.replicate j x, FxOk y := fun y hy => by rw [List.eq_of_mem_replicate hy]; exact HX.out
                have hz := res_yes RA.out hxs (by rw [hjl]; omega)
                have hzl : (sizesF t (List.replicate j x)).length = j := by rw [sizesF_len, hjl]
                have hbd := sizes_bd RA.out hxs (by rw [hjl]; omega)
                have FB := Lib.hid (fun (w : World) (h : Row w w.heap.size A' ((List.replicate j x).flatMap fxC)) => (fres_any (List.replicate j x) A' c' t w h (by omega)).mono fun e w' hp => res_row hp hz hzl)
                rw [hjl] at FB
                have RS := Lib.hid (row_of_own O.out)
                have B6 := Lib.hid (B5.out.trans (B.out.mono B5.out.size))
                clear O B B5 S2 hxs hz hjl
                obtain ⟨Q, hQ⟩ : ∃ Q, sizesF t (List.replicate j x) = Q := ⟨_, rfl⟩
                rw [hQ] at hal hzl hbd FB
                clear hQ
                obtain ⟨v, hv⟩ := hal
                have HV := Lib.hid hv
                have LQ := Lib.hid hzl
                have BD := Lib.hid hbd
                clear hv hzl hbd
                go_wp2_with fail
                refine (FB.out _ RS.out).mono ?_
                rintro e w4 ⟨A3, c3, rfl, r3, hb3⟩
                have R3 := Lib.hid r3
                have B7 := Lib.hid (B6.out.trans (hb3.mono B6.out.size))
                clear r3 hb3 FB RS B6
                have h0q : 0 < Q.length := by rw [LQ.out]; exact hj0
                obtain ⟨a3, rfl, hab3, dq⟩ := R3.out.int h0q
                have hv0 := HV.out _ (List.getElem_mem h0q)
                have hd0 := BD.out _ (List.getElem_mem h0q)
                obtain ⟨q0, hq0⟩ : ∃ q, Q[0] = q := ⟨_, rfl⟩
                rw [hq0] at dq hv0 hd0
                clear hq0
                rw [addr_nought] at dq
                have cq : ∀ m, (w4.drewN m).cell? a3 = some (.int .i64 q0) := fun m => dq
                go_upto_region 28 with fail
                go_quiet (fail)
                have B8 := Lib.hid (Below.drewN' B7.out nq)
                have R4 : Hid (Row (w4.drewN nq) (w4.drewN nq).heap.size (some a3) (i64s Q)) := Lib.hid ((R3.out.below (Below.drewN' (Below.refl _ _) nq)).more (Nat.le_refl _))
                clear B7 R3 dq cq
                generalize w4.drewN nq = w5 at *
                go_wp2_with fail
                go_loopw [16, 17, 18] (fun v16 v17 v18 wr => ∃ (i : Nat) (lo hi : Int), v16 = .int .i64 lo ∧ v17 = .int .i64 hi ∧ v18 = .int .i64 i ∧ i ≤ j ∧ v ≤ lo ∧ lo ≤ v + 1 ∧ v ≤ hi ∧ hi ≤ v + 1 ∧ Hid (Below w5.heap.size w5 wr)) (fun _ _ v18 _ => j - (intOf v18).toNat)
                case atStart => exact ⟨0, q0, q0, rfl, rfl, rfl, Nat.zero_le _, by omega, by omega, by omega, by omega, Lib.hid (Below.refl _ _)⟩
                case round =>
                  generalize wr = w6 at *
                  obtain ⟨i, lo, hi, rfl, rfl, rfl, hi1, e1, e2, e3, e4, B9⟩ := hrel
                  by_cases hlt2 : i < j
                  · have hltz : (i : Int) < j := by omega
                    have hiq : i < Q.length := by rw [LQ.out]; exact hlt2
                    obtain ⟨a4, he4, hab4, dq⟩ := (R4.out.below B9.out).int hiq
                    cases he4
                    have hv1 := HV.out _ (List.getElem_mem hiq)
                    obtain ⟨q, hq⟩ : ∃ q, Q[i] = q := ⟨_, rfl⟩
                    rw [hq] at dq hv1
                    clear hq
                    have cq : ∀ m, (w6.drewN m).cell? (a3.add i) = some (.int .i64 q) := fun m => dq
                    go_upto_region 32 with fail
                    go_quiet (fail)
                    have B10 := Lib.hid (Below.drewN' B9.out nq)
                    clear B9 dq cq
                    generalize w6.drewN nq = w7 at *
                    go_wp2_with fail
                    go_roundw
                    case rel => exact ⟨i + 1, min lo q, max hi q, by go_num, by go_num, by go_num, by omega, by omega, by omega, by omega, by omega, B10⟩
                    case measure => simp [intOf] <;> omega
                  · have hltz : ¬ (i : Int) < j := by omega
                    have zh : decide (hi - lo ≤ 1) = true := decide_eq_true (by omega)
                    have nh : -9223372036854775808 ≤ hi - lo ∧ hi - lo ≤ 9223372036854775807 := by omega
                    have B10 := Lib.hid (B8.out.trans (B9.out.mono B8.out.size))
                    go_wp2_with fail
                    refine (AW.out _).mono ?_
                    rintro e w7 ⟨rfl, hb7⟩
                    have B11 := Lib.hid (B10.out.trans (hb7.mono B10.out.size))
                    clear hb7
                    go_wp2_with fail
                    go_ret
                    exact ⟨rfl, B11.out⟩
end Go.Proofs.Ytodnplllkpgfaaa
