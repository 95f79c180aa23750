import Derived.Test.YtnhhalhaefeoeaaStkTame
import Derived.Test.YtnhhalhaefeoeaaStkLaw
import Derived.Test.YtnhhalhaefeoeaaRecSet
/- StakRises answers true. -/
namespace Go.Proofs.Ytnhhalhaefeoeaa
open Go Go.RowKit
set_option linter.unusedVariables false
set_option linter.unusedSimpArgs false
set_option maxRecDepth 20000
set_option maxHeartbeats 4000000

theorem own_putLd {w : World} {B0 n c g : Nat} {L : List Ld} (h : w.ownsRow B0 27 6 (.slice (some ⟨g, 0, none⟩) n c) n (L.flatMap ldC)) {m j : Nat} (hm : m < L.length) (hj : j < 6) (v : Value) (x : Ld) (hx : ldC x = (ldC L[m]).set j v) :
    (w.setCell ⟨g, m * 6 + j, none⟩ v).ownsRow B0 27 6 (.slice (some ⟨g, 0, none⟩) n c) n ((L.set m x).flatMap ldC) := by
  have h1 := (h.stored (m * 6 + j) v).1
  rwa [rec_set ldC_len j hj v L m hm x hx] at h1
theorem half_set {α : Type} (f : α → α) (l : List α) (k : Nat) (h : k < l.length) : ((l.take k).map f ++ l.drop k).set k (f l[k]) = (l.take (k + 1)).map f ++ l.drop (k + 1) := by
  have e : ((l.take k).map f).length = k := by rw [List.length_map, List.length_take]; omega
  rw [List.set_append_right _ _ (by omega), e, Nat.sub_self, List.drop_eq_getElem_cons h, List.set_cons_zero, List.take_succ_eq_append_getElem h, List.map_append]
  simp
theorem half_get {α : Type} (f : α → α) (l : List α) (k : Nat) (h : k < l.length) (h' : k < ((l.take k).map f ++ l.drop k).length) : ((l.take k).map f ++ l.drop k)[k] = l[k] := by
  have e : ((l.take k).map f).length = k := by rw [List.length_map, List.length_take]; omega
  rw [List.getElem_append_right (by omega)]
  simp only [e, Nat.sub_self, List.getElem_drop, Nat.add_zero]
theorem half_len {α : Type} (f : α → α) (l : List α) (k : Nat) (h : k ≤ l.length) : ((l.take k).map f ++ l.drop k).length = l.length := by simp; omega
theorem half_all {α : Type} (f : α → α) (l : List α) : (l.take l.length).map f ++ l.drop l.length = l.map f := by simp
theorem stakRises_any (l0 : List Ld) (hl : l0.length ≤ 9223372036854775807) (A : Option Addr) (c : Nat) (top bottom : Bool) (W : World) (hR : Row W W.heap.size A (l0.flatMap ldC)) :
    Calls Try.prog 4 #[.slice A l0.length c, .bool top, .bool bottom] W fun e w' => e = .returned (.bool true) ∧ Below W.heap.size W w' := by
  have TM := Lib.hid (ktame_any l0 hl A c W hR)
  have hok := tameLd_ok l0
  have hlen := tameLd_len l0
  generalize tameLd l0 = l at *
  have hok2 : ∀ x ∈ l.map noNeg, LdOk x := fun x hx => by obtain ⟨y, hy, rfl⟩ := List.mem_map.1 hx; exact noNeg_ok (hok y hy)
  have HOK := Lib.hid hok2
  have S1 := Lib.hid (fun A c w hR => stack_any (l.map noNeg) (by rw [List.length_map]; omega) hok2 A c top bottom w hR)
  obtain ⟨x, hx⟩ : ∃ x, endS (runS (startS top) (l.map noNeg)) bottom = x := ⟨_, rfl⟩
  have HX := Lib.hid hx
  rw [hx, List.length_map] at S1
  clear hx hok hok2 hR
  obtain ⟨⟨tp, tq⟩, ⟨bp, bq⟩, th, hh⟩ := x
  go_enter Try.func4, Try.ntmps4
  go_wp2_with fail
  refine TM.out.mono ?_
  rintro e w1 ⟨A1, c1, rfl, o1, hb⟩
  have O1 := Lib.hid o1
  have B1 := Lib.hid hb
  clear o1 hb TM
  go_upto_region 3 with fail
  go_loopw [7] (fun v7 wr => ∃ k : Nat, k ≤ l.length ∧ v7 = .int .i64 k ∧ Hid (wr.ownsRow W.heap.size 27 6 (.slice A1 l.length c1) l.length (((l.take k).map noNeg ++ l.drop k).flatMap ldC)) ∧ Hid (Below W.heap.size W wr)) (fun v7 _ => l.length - (intOf v7).toNat)
  case atStart => exact ⟨0, Nat.zero_le _, rfl, O1, B1⟩
  case round =>
    clear O1 B1
    obtain ⟨k, hk, rfl, O, B⟩ := hrel
    by_cases hlt : k < l.length
    · have hki : (k : Int) < l.length := by omega
      obtain ⟨g, c', e, -, -, hg⟩ := owns_some O.out (by omega)
      injection e with e1 _ e2
      subst e1 e2
      have hgl := (O.out.lt g rfl).1
      have hh2 : k < ((l.take k).map noNeg ++ l.drop k).length := by rw [half_len _ _ _ hk]; exact hlt
      have G := half_get noNeg l k hlt hh2
      have HS := Lib.hid (half_set noNeg l k hlt)
      have O2 := Lib.hid (own_putLd (own_putLd O.out hh2 (show 2 < 6 by decide) (.int .i64 0) ⟨l[k].h, ⟨l[k].t.p, 0⟩, l[k].b, l[k].th⟩ (by rw [G]; rfl)) (m := k) (j := 4) (by rw [List.length_set]; exact hh2) (by decide) (.int .i64 0) (noNeg l[k]) (by rw [List.getElem_set_self]; rfl))
      rw [List.set_set, HS.out] at O2
      have B2 := Lib.hid ((B.out.setCell (p := ⟨g, k * 6 + 2, none⟩) hgl (.int .i64 0)).setCell (p := ⟨g, k * 6 + 4, none⟩) hgl (.int .i64 0))
      have f2 := O.out.frozenAt (k * 6 + 2)
      have f4 := O.out.frozenAt (k * 6 + 4)
      obtain ⟨d2, e2⟩ : ∃ v, wr.cell? ⟨g, k * 6 + 2, none⟩ = some v := by
        rw [O.out.cellAt _ (by omega), List.getElem?_eq_getElem (by rw [O.out.1]; omega)]; exact ⟨_, rfl⟩
      obtain ⟨d4, e4⟩ : ∃ v, wr.cell? ⟨g, k * 6 + 4, none⟩ = some v := by
        rw [O.out.cellAt _ (by omega), List.getElem?_eq_getElem (by rw [O.out.1]; omega)]; exact ⟨_, rfl⟩
      clear O B G hh2 HS
      go_wp2_with fail
      go_roundw
      case rel => exact ⟨k + 1, by omega, by go_num, O2, B2⟩
      case measure => simp [intOf]; omega
    · have hq : k = l.length := by omega
      subst hq
      rw [half_all] at O
      have R2 := Lib.hid (row_of_own O.out)
      have B2 := B
      clear O B hlt hk
      go_wp2_with fail
      refine (S1.out _ _ _ R2.out).mono ?_
      rintro e w2 ⟨A2, c2, rfl, o, hb⟩
      have BN := Lib.hid ((B2.out.trans (hb.mono B2.out.size)).alloc (by have := hb.size; have := B2.out.size; omega) (.cells #[.int .i64 tp, .int .i64 tq, .int .i64 bp, .int .i64 bq, .bool th, .int .i64 hh] 31))
      have R2N := Lib.hid ((((R2.out.below hb).more hb.size).below (w' := w2.alloc (.cells #[.int .i64 tp, .int .i64 tq, .int .i64 bp, .int .i64 bq, .bool th, .int .i64 hh] 31)) ((Below.refl _ w2).alloc (Nat.le_refl _) _)).more (B' := (w2.alloc (.cells #[.int .i64 tp, .int .i64 tq, .int .i64 bp, .int .i64 bq, .bool th, .int .i64 hh] 31)).heap.size) (by simp))
      have Y2 := Lib.hid (((row_of_own o).below ((Below.refl _ w2).alloc (Nat.le_refl _) (.cells #[.int .i64 tp, .int .i64 tq, .int .i64 bp, .int .i64 bq, .bool th, .int .i64 hh] 31))).more (B' := (w2.alloc (.cells #[.int .i64 tp, .int .i64 tq, .int .i64 bp, .int .i64 bq, .bool th, .int .i64 hh] 31)).heap.size) (by simp))
      have V2 := Lib.hid (Whole.mk w2 31 #[.int .i64 tp, .int .i64 tq, .int .i64 bp, .int .i64 bq, .bool th, .int .i64 hh])
      clear o hb B2 R2 
      have B2 := BN
      clear BN
      have R2 := R2N
      clear R2N
      clear S1
      go_upto_region 7 with fail
      generalize w2.alloc _ = u2 at *
      generalize w2.heap.size = g2 at *
      go_upto_region 11 with fail
      obtain ⟨l2, hl2⟩ : ∃ m, l.map noNeg = m := ⟨_, rfl⟩
      have hn2 : l2.length = l.length := by rw [← hl2, List.length_map]
      have HN2 := Lib.hid hn2
      have HQ : Hid (∀ (k : Nat) (h : k < l2.length), l2[k].t.q = 0 ∧ l2[k].b.q = 0) := Lib.hid (by subst hl2; intro k h; simp [noNeg])
      rw [hl2] at HOK HX R2 Y2
      clear hl2
      have hlen2 : l2.length ≤ 40 := by omega
      clear hn2
      rw [← HN2.out] at *
      go_loopw [10, 11, 12] (fun v10 v11 v12 wr => ∃ (k : Nat) (e m : Int), k ≤ l2.length ∧ v10 = .int .i64 e ∧ v11 = .int .i64 m ∧ v12 = .int .i64 k ∧ Hid (RiseOk (runS (startS top) (l2.take k)) e m) ∧ Hid (Below u2.heap.size u2 wr)) (fun _ _ v12 _ => l2.length - (intOf v12).toNat)
      case atStart => exact ⟨0, 0, 0, Nat.zero_le _, rfl, rfl, rfl, Lib.hid (rise_start top), Lib.hid (Below.refl _ _)⟩
      case round =>
        obtain ⟨k, e, m, hk, rfl, rfl, rfl, HI, HB⟩ := hrel
        by_cases hlt : k < l2.length
        · have hki : (k : Int) < l2.length := by omega
          have hzl : k < (atL (startS top) l2).length := by rw [atL_length]; exact hlt
          have EZ := Lib.hid (atL_get (startS top) l2 k hzl)
          obtain ⟨ad, rfl, hb, r0, -⟩ := (R2.out.below HB.out).ld hlt
          obtain ⟨ae, rfl, hbe, hc⟩ := (Y2.out.below HB.out).int hzl
          generalize (atL (startS top) l2)[k] = z at *
          have ER := Lib.hid (runS_take (startS top) l2 k hlt)
          have OK := Lib.hid (take_ok HOK.out top k hk)
          have OX := Lib.hid (HOK.out _ (List.getElem_mem hlt))
          have ST := Lib.hid (rise_step HI.out OX.out (HQ.out k hlt).1 (HQ.out k hlt).2)
          have BD := Lib.hid (putS_ok OK.out OX.out)
          have hba : (ad.add (k * 6)).block < u2.heap.size := by rw [add_block]; exact hb
          have hbb : (ae.add k).block < u2.heap.size := by rw [add_block]; exact hbe
          have hsz := HB.out.size
          have H0 := OX.out.h0
          have H1 := OX.out.h1
          rw [← EZ.out] at ST BD
          obtain ⟨h1, h2⟩ := BD.out.2
          have h3 := ST.out.1
          have h4 : m + l2[k].h ≤ (putS (runS (startS top) (l2.take k)) l2[k]).y := ST.out.2.m1
          have h5 := BD.out.1.yh
          have h6 := HI.out.m0
          have h7 := HI.out.e0
          rw [← ER.out] at ST
          have ST2 := Lib.hid ST.out.2
          generalize l2[k].h = h at *
          have v1 : -9223372036854775808 ≤ z + h := by omega
          have v2 : z + h < 9223372036854775808 := by omega
          have v3 : -9223372036854775808 ≤ m + h := by omega
          have v4 : m + h < 9223372036854775808 := by omega
          have v5 : ¬ z < e := by omega
          clear EZ OK OX BD ST H0 H1 h1 h2 h3 h4 h5 h6 h7 HI
          go_upto_region 15 with fail
          have P0 : ∀ t : Later wr.heap.size wr, t.w.cell? (ad.add (k * 6)) = some (.int .i64 h) := fun t => (t.h.cell (by omega)).trans r0
          have PZ : ∀ t : Later wr.heap.size wr, t.w.cell? (ae.add k) = some (.int .i64 z) := fun t => (t.h.cell (by omega)).trans hc
          clear r0 hc
          refine region_lane [] [0, 1, 2, 3, 4, 5, 6, 7, 8, 9, 10, 11, 19, 12, 13, 14, 15, 16, 17, 18] [20] (by kernel_rfl) (by kernel_rfl) (by intro _ _ _ _ _ h; exact h) ?_
          simp only [pick, List.map_cons, List.map_nil, List.getD_cons_zero, List.getD_cons_succ, List.drop_succ_cons, List.drop_zero]
          refine wpQuiet_nil ⟨rfl, ?_⟩
          refine laneO_run 11 (by kernel_rfl) ?_
          simp only [List.take_succ_cons, List.take_zero, List.drop_succ_cons, List.drop_zero]
          repeat (go_big_quiet_step (fail))
          refine wpQuiet_nil ?_
          refine laneO_fixed (v := .int .i64 (max e (z + h))) (by kernel_rfl) (fun w hw => .inl ⟨by rfl, ?_⟩) ?_
          focus (unfold gives; simp [go_sem, run_max_two]; exact Behind.refl w)
          simp only [Act.put, List.setIfInBounds_toArray, List.set_cons_zero, List.set_cons_succ]
          refine laneO_run 8 (by kernel_rfl) ?_
          simp only [List.take_succ_cons, List.take_zero, List.drop_succ_cons, List.drop_zero]
          repeat (go_big_quiet_step (fail))
          refine wpQuiet_nil ?_
          refine laneO_end0 rfl rfl fun w4 hb0 => ?_
          clear P0 PZ
          have HB4 := Lib.hid (HB.out.trans (hb0.mono hsz))
          clear hb0 HB
          go_wp2_with fail
          go_roundw
          case rel => exact ⟨k + 1, max e (z + h), m + h, by omega, by go_num, by go_num, by go_num, ST2, HB4⟩
          case measure => simp [intOf]; omega
        · have hq : k = l2.length := by omega
          subst hq
          have E := Lib.hid (rise_end HI.out bottom)
          rw [List.take_length, HX.out] at E
          obtain ⟨e1, e2, e3⟩ := E.out
          simp only at e1 e2 e3
          subst e2 e3
          have V3 := Lib.hid (V2.out.under HB.out V2.out.size)
          have B3 := Lib.hid (B2.out.trans (HB.out.mono B2.out.size))
          have t1 : wr.cell? ⟨g2, 1, none⟩ = some (.int .i64 0) := V3.out.cell 1
          have t3 : wr.cell? ⟨g2, 3, none⟩ = some (.int .i64 0) := V3.out.cell 3
          have t5 : wr.cell? ⟨g2, 5, none⟩ = some (.int .i64 hh) := V3.out.cell 5
          have v1 : decide (m ≤ hh) = true := by rw [decide_eq_true_eq]; exact e1
          clear E HB V2 B2 R2 Y2 HX HI
          go_wp2_with fail
          refine (kawake_any _).mono ?_
          rintro e w5 ⟨rfl, hb⟩
          have B5 := Lib.hid (B3.out.trans (hb.mono B3.out.size))
          clear hb B3 t1 t3 t5
          go_wp2_with fail
          go_ret
          exact ⟨rfl, B5.out⟩
end Go.Proofs.Ytnhhalhaefeoeaa
