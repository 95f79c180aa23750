import Derived.Test.YtnhhalhaefeoeaaStakRises
/- StakOpens answers true. -/
namespace Go.Proofs.Ytnhhalhaefeoeaa
open Go Go.RowKit
set_option linter.unusedVariables false
set_option linter.unusedSimpArgs false
set_option maxRecDepth 20000
set_option maxHeartbeats 4000000

/-- What the law looks at, of boxes that all have a height. -/
structure OpenFacts (l : List Ld) (m : Nat) (xp xq lp lq y : Int) (bottom : Bool) : Prop where
  fx : ∀ (h : 0 < l.length), l[0].t = ⟨xp, xq⟩
  b : ∀ (h : m < l.length), l[m].b = ⟨lp, lq⟩
  at_ : ∀ (k : Nat) (h : k < (atL (startS true) l).length) (h' : k < (atL (startS false) l).length), (atL (startS false) l)[k] = (atL (startS true) l)[k] + (xp + xq)
  ly : ∀ (h : m < (atL (startS true) l).length) (h' : m < l.length), (atL (startS true) l)[m] + l[m].h = y
  s1 : (endS (runS (startS true) l) bottom).t = ⟨xp, xq⟩
  s2 : (endS (runS (startS false) l) bottom).t = zF
  s3 : endS (runS (startS true) l) true = ⟨⟨xp, xq⟩, ⟨lp, lq⟩, false, max y 0⟩
  s4 : endS (runS (startS true) l) false = ⟨⟨xp, xq⟩, zF, false, max (y + (lp + lq)) 0⟩
theorem open_facts (l : List Ld) (m : Nat) (hm : l.length = m + 1) (hok : ∀ x ∈ l, LdOk x) (hs : ∀ x ∈ l, x.th = false) (bottom : Bool) : ∃ xp xq lp lq y, OpenFacts l m xp xq lp lq y bottom := by
  match l, hm, hok, hs with
  | x :: r, hm, hok, hs =>
    have hx := hok x List.mem_cons_self
    obtain ⟨e1, e2, e3, e4⟩ := opens_t r x (hs x List.mem_cons_self) hx.tp hx.tq
    have hlt : m < (x :: r).length := by omega
    obtain ⟨f1, f2⟩ := last_is (startS true) (x :: r) m hm (hs _ (List.getElem_mem hlt))
    refine ⟨x.t.p, x.t.q, ((x :: r)[m]).b.p, ((x :: r)[m]).b.q, (runS (startS true) (x :: r)).y, fun _ => rfl, fun _ => rfl, fun k h h' => opens r x hs hx.tp hx.tq k h h', fun h h' => f1.symm, ?_, ?_, ?_, ?_⟩
    · rw [endS_f _ _ e2]; cases bottom <;> exact e1
    · rw [endS_f _ _ e4]; cases bottom <;> exact e3
    · rw [endS_f _ _ e2, e1, f2]; rfl
    · rw [endS_f _ _ e2, e1, f2]; rfl
theorem stakOpens_any (l0 : List Ld) (hl : l0.length ≤ 9223372036854775807) (A : Option Addr) (c : Nat) (bottom : Bool) (W : World) (hR : Row W W.heap.size A (l0.flatMap ldC)) :
    Calls Try.prog 3 #[.slice A l0.length c, .bool bottom] W fun e w' => e = .returned (.bool true) ∧ Below W.heap.size W w' := by
  have TM := Lib.hid (ktame_any l0 hl A c W hR)
  have hok := tameLd_ok l0
  have hlen := tameLd_len l0
  generalize tameLd l0 = l at *
  have hok2 : ∀ x ∈ l.map solid, LdOk x := fun x hx => by obtain ⟨y, hy, rfl⟩ := List.mem_map.1 hx; exact solid_ok (hok y hy)
  have hth : ∀ x ∈ l.map solid, x.th = false := fun x hx => by obtain ⟨y, hy, rfl⟩ := List.mem_map.1 hx; rfl
  have HOK := Lib.hid hok2
  have HTH := Lib.hid hth
  clear hok hok2 hth hR
  go_enter Try.func3, Try.ntmps3
  go_wp2_with fail
  refine TM.out.mono ?_
  rintro e w1 ⟨A1, c1, rfl, o1, hb⟩
  have O1 := Lib.hid o1
  have B1 := Lib.hid hb
  clear o1 hb TM
  go_upto_region 3 with fail
  go_loopw [5] (fun v5 wr => ∃ k : Nat, k ≤ l.length ∧ v5 = .int .i64 k ∧ Hid (wr.ownsRow W.heap.size 27 6 (.slice A1 l.length c1) l.length (((l.take k).map solid ++ l.drop k).flatMap ldC)) ∧ Hid (Below W.heap.size W wr)) (fun v5 _ => l.length - (intOf v5).toNat)
  case atStart => exact ⟨0, Nat.zero_le _, rfl, O1, B1⟩
  case round =>
    clear O1 B1
    obtain ⟨k, hk, rfl, O, B⟩ := hrel
    by_cases hlt : k < l.length
    · have hki : (k : Int) < l.length := by omega
      obtain ⟨g, c', e, -, -, hg⟩ := owns_some O.out (by omega)
      injection e with e1 _ e2
      subst e1 e2
      have hgl := (O.out.lt g rfl).1
      have hh2 : k < ((l.take k).map solid ++ l.drop k).length := by rw [half_len _ _ _ hk]; exact hlt
      have G := half_get solid l k hlt hh2
      have HS := Lib.hid (half_set solid l k hlt)
      have O2 := Lib.hid (own_putLd O.out hh2 (show 5 < 6 by decide) (.bool false) (solid l[k]) (by rw [G]; rfl))
      rw [HS.out] at O2
      have B2 := Lib.hid (B.out.setCell (p := ⟨g, k * 6 + 5, none⟩) hgl (.bool false))
      have f5 := O.out.frozenAt (k * 6 + 5)
      obtain ⟨d5, e5⟩ : ∃ v, wr.cell? ⟨g, k * 6 + 5, none⟩ = some v := by
        rw [O.out.cellAt _ (by omega), List.getElem?_eq_getElem (by rw [O.out.1]; omega)]; exact ⟨_, rfl⟩
      clear O B G hh2 HS
      go_wp2_with fail
      go_roundw
      case rel => exact ⟨k + 1, by omega, by go_num, O2, B2⟩
      case measure => simp [intOf]; omega
    · have hq : k = l.length := by omega
      subst hq
      rw [half_all] at O
      have R := Lib.hid (row_of_own O.out)
      have B2 := B
      have HA : Hid (0 < l.length → ∃ g, A1 = some ⟨g, 0, none⟩) := Lib.hid (fun h => by
        obtain ⟨g, c', e, -⟩ := owns_some O.out h
        injection e with e1 _ _
        exact ⟨g, e1⟩)
      clear O B hlt hk
      obtain ⟨l2, hl2⟩ : ∃ m, l.map solid = m := ⟨_, rfl⟩
      have hn2 : l2.length = l.length := by rw [← hl2, List.length_map]
      rw [hl2] at HOK HTH R
      clear hl2
      have hlen2 : l2.length ≤ 40 := by omega
      by_cases h0 : l.length = 0
      · rw [h0]
        have B3 := B2
        clear R HA HOK HTH hn2 hlen2
        go_wp2_with fail
        refine (kawake_any _).mono ?_
        rintro e w5 ⟨rfl, hb⟩
        have B5 := Lib.hid (B3.out.trans (hb.mono B3.out.size))
        clear hb B3
        go_wp2_with fail
        go_ret
        exact ⟨rfl, B5.out⟩
      obtain ⟨m, hm⟩ : ∃ m, l.length = m + 1 := ⟨l.length - 1, by omega⟩
      have hm2 : l2.length = m + 1 := by omega
      obtain ⟨ga, hga⟩ := HA.out (by omega)
      subst hga
      obtain ⟨xp, xq, lp, lq, y, F⟩ := open_facts l2 m hm2 HOK.out HTH.out bottom
      have S1 := Lib.hid (fun A c w hR => stack_any l2 (by omega) HOK.out A c true bottom w hR)
      have S2 := Lib.hid (fun A c w hR => stack_any l2 (by omega) HOK.out A c false bottom w hR)
      have S3 := Lib.hid (fun A c w hR => stack_any l2 (by omega) HOK.out A c true true w hR)
      have S4 := Lib.hid (fun A c w hR => stack_any l2 (by omega) HOK.out A c true false w hR)
      have e1 := F.s1
      have e2 := F.s2
      generalize endS (runS (startS true) l2) bottom = x1 at *
      generalize endS (runS (startS false) l2) bottom = x2 at *
      obtain ⟨t1, ⟨bp1, bq1⟩, th1, h1⟩ := x1
      obtain ⟨t2, ⟨bp2, bq2⟩, th2, h2⟩ := x2
      simp only at e1 e2
      have e2' : t2 = ⟨0, 0⟩ := e2
      clear e2
      subst e1 e2'
      rw [F.s3] at S3
      rw [F.s4] at S4
      simp only [zF] at S4
      rw [show y + (lp + lq) = y + lp + lq by omega] at S4
      have FX := Lib.hid F.fx
      have FB := Lib.hid F.b
      have FA := Lib.hid F.at_
      have FY := Lib.hid F.ly
      have BX : Hid (0 ≤ xp ∧ xp < 4294967296 ∧ xq ≤ 0 ∧ -4294967296 < xq) := Lib.hid (by
        have h := HOK.out _ (List.getElem_mem (show 0 < l2.length by omega))
        have e := F.fx (by omega)
        have a1 := h.tp; have a2 := h.tP; have a3 := h.tq; have a4 := h.tQ
        rw [e] at a1 a2 a3 a4
        exact ⟨a1, a2, a3, a4⟩)
      have BB : Hid (0 ≤ lp ∧ lp < 4294967296 ∧ lq ≤ 0 ∧ -4294967296 < lq ∧ -4503599627370496 ≤ y ∧ y ≤ 4503599627370496) := Lib.hid (by
        have h := HOK.out _ (List.getElem_mem (show m < l2.length by omega))
        have e := F.b (by omega)
        have a1 := h.bp; have a2 := h.bP; have a3 := h.bq; have a4 := h.bQ
        rw [e] at a1 a2 a3 a4
        have e2 := F.ly (by rw [atL_length]; omega) (by omega)
        rw [atL_get] at e2
        have := (putS_ok (take_ok HOK.out true m (by omega)) h).2
        have h0 := h.h0
        have h1 := h.h1
        exact ⟨a1, a2, a3, a4, by omega, by omega⟩)
      have YB : Hid (∀ (k : Nat) (h : k < (atL (startS true) l2).length), -4503599627370496 ≤ (atL (startS true) l2)[k] ∧ (atL (startS true) l2)[k] ≤ 4503599627370496) := Lib.hid (fun k h => by
        have hk : k < l2.length := by rwa [atL_length] at h
        rw [atL_get _ _ _ h]
        have := (putS_ok (take_ok HOK.out true k (by omega)) (HOK.out _ (List.getElem_mem hk))).2
        omega)
      have ZL1 := Lib.hid (atL_length (startS true) l2)
      have ZL2 := Lib.hid (atL_length (startS false) l2)
      have BO := Lib.hid (fun (k : Nat) (h : k < l2.length) => HOK.out _ (List.getElem_mem h))
      clear F HA HTH hn2 h0
      rw [hm2] at S1 S2 S3 S4 ZL1 ZL2
      rw [hm]
      clear hm hlen
      go_wp2_with fail
      refine (S1.out _ _ _ R.out).mono ?_
      rintro e w2 ⟨A2, c2, rfl, o, hb⟩
      have BN := Lib.hid ((B2.out.trans (hb.mono B2.out.size)).alloc (by have := hb.size; have := B2.out.size; omega) (.cells #[.int .i64 xp, .int .i64 xq, .int .i64 bp1, .int .i64 bq1, .bool th1, .int .i64 h1] 31))
      have RN := Lib.hid ((((R.out.below hb).more hb.size).below (w' := w2.alloc (.cells #[.int .i64 xp, .int .i64 xq, .int .i64 bp1, .int .i64 bq1, .bool th1, .int .i64 h1] 31)) ((Below.refl _ w2).alloc (Nat.le_refl _) _)).more (B' := (w2.alloc (.cells #[.int .i64 xp, .int .i64 xq, .int .i64 bp1, .int .i64 bq1, .bool th1, .int .i64 h1] 31)).heap.size) (by simp))
      have Y1 := Lib.hid (((row_of_own o).below ((Below.refl _ w2).alloc (Nat.le_refl _) (.cells #[.int .i64 xp, .int .i64 xq, .int .i64 bp1, .int .i64 bq1, .bool th1, .int .i64 h1] 31))).more (B' := (w2.alloc (.cells #[.int .i64 xp, .int .i64 xq, .int .i64 bp1, .int .i64 bq1, .bool th1, .int .i64 h1] 31)).heap.size) (by simp))
      have V1 := Lib.hid (Whole.mk w2 31 #[.int .i64 xp, .int .i64 xq, .int .i64 bp1, .int .i64 bq1, .bool th1, .int .i64 h1])
      clear o hb B2 R 
      have B2 := BN
      clear BN
      have R := RN
      clear RN
      clear S1
      go_upto_region 9 with fail
      generalize w2.alloc _ = u2 at *
      generalize w2.heap.size = g1 at *
      go_wp2_with fail
      refine (S2.out _ _ _ R.out).mono ?_
      rintro e w3 ⟨A3, c3, rfl, o, hb⟩
      have BN := Lib.hid ((B2.out.trans (hb.mono B2.out.size)).alloc (by have := hb.size; have := B2.out.size; omega) (.cells #[.int .i64 0, .int .i64 0, .int .i64 bp2, .int .i64 bq2, .bool th2, .int .i64 h2] 31))
      have RN := Lib.hid ((((R.out.below hb).more hb.size).below (w' := w3.alloc (.cells #[.int .i64 0, .int .i64 0, .int .i64 bp2, .int .i64 bq2, .bool th2, .int .i64 h2] 31)) ((Below.refl _ w3).alloc (Nat.le_refl _) _)).more (B' := (w3.alloc (.cells #[.int .i64 0, .int .i64 0, .int .i64 bp2, .int .i64 bq2, .bool th2, .int .i64 h2] 31)).heap.size) (by simp))
      have Y1N := Lib.hid ((((Y1.out.below hb).more hb.size).below (w' := w3.alloc (.cells #[.int .i64 0, .int .i64 0, .int .i64 bp2, .int .i64 bq2, .bool th2, .int .i64 h2] 31)) ((Below.refl _ w3).alloc (Nat.le_refl _) _)).more (B' := (w3.alloc (.cells #[.int .i64 0, .int .i64 0, .int .i64 bp2, .int .i64 bq2, .bool th2, .int .i64 h2] 31)).heap.size) (by simp))
      have V1N := Lib.hid ((V1.out.under hb V1.out.size).made (.cells #[.int .i64 0, .int .i64 0, .int .i64 bp2, .int .i64 bq2, .bool th2, .int .i64 h2] 31))
      have Y2 := Lib.hid (((row_of_own o).below ((Below.refl _ w3).alloc (Nat.le_refl _) (.cells #[.int .i64 0, .int .i64 0, .int .i64 bp2, .int .i64 bq2, .bool th2, .int .i64 h2] 31))).more (B' := (w3.alloc (.cells #[.int .i64 0, .int .i64 0, .int .i64 bp2, .int .i64 bq2, .bool th2, .int .i64 h2] 31)).heap.size) (by simp))
      have V2 := Lib.hid (Whole.mk w3 31 #[.int .i64 0, .int .i64 0, .int .i64 bp2, .int .i64 bq2, .bool th2, .int .i64 h2])
      clear o hb B2 R Y1 V1
      have B2 := BN
      clear BN
      have R := RN
      clear RN
      have Y1 := Y1N
      clear Y1N
      have V1 := V1N
      clear V1N
      clear S2
      go_upto_region 12 with fail
      generalize w3.alloc _ = u3 at *
      generalize w3.heap.size = g2 at *
      obtain ⟨b1, b2, b3, b4⟩ := BX.out
      obtain ⟨b5, b6, b7, b8, b9, b10⟩ := BB.out
      have g0 : u3.cell? ⟨g1, 0, none⟩ = some (.int .i64 xp) := V1.out.cell 0
      have g1' : u3.cell? ⟨g1, 1, none⟩ = some (.int .i64 xq) := V1.out.cell 1
      have w1' : -9223372036854775808 ≤ xp + xq := by omega
      have w2' : xp + xq < 9223372036854775808 := by omega
      go_upto_region 14 with fail
      clear g0 g1' w1' w2'
      go_loopw [11] (fun v11 wr => ∃ k : Nat, k ≤ m + 1 ∧ v11 = .int .i64 k ∧ Hid (Below u3.heap.size u3 wr)) (fun v11 _ => (m + 1) - (intOf v11).toNat)
      case atStart => exact ⟨0, Nat.zero_le _, rfl, Lib.hid (Below.refl _ _)⟩
      case round =>
        obtain ⟨k, hk, rfl, HB⟩ := hrel
        by_cases hlt : k < m + 1
        · have hki : (k : Int) < (m : Int) + 1 := by omega
          have hz1 : k < (atL (startS true) l2).length := by rw [ZL1.out]; exact hlt
          have hz2 : k < (atL (startS false) l2).length := by rw [ZL2.out]; exact hlt
          have E := Lib.hid (FA.out k hz1 hz2)
          have Q := YB.out k hz1
          obtain ⟨ad, rfl, hb, hc⟩ := (Y1.out.below HB.out).int hz1
          obtain ⟨ae, rfl, hbe, hc2⟩ := (Y2.out.below HB.out).int hz2
          rw [E.out] at hc2
          generalize (atL (startS true) l2)[k] = z at *
          obtain ⟨q1, q2⟩ := Q
          have v1 : -9223372036854775808 ≤ z + (xp + xq) := by omega
          have v2 : z + (xp + xq) < 9223372036854775808 := by omega
          clear E
          go_wp2
          go_quiet (fail)
          go_wp2
          go_roundw
          case rel => exact ⟨k + 1, by omega, by go_num, Lib.hid (Below.drewN' HB.out _)⟩
          case measure => simp [intOf]; omega
        · have hq : k = m + 1 := by omega
          subst hq
          have R3 := Lib.hid ((R.out.below HB.out).more HB.out.size)
          have Z3 := Lib.hid ((Y1.out.below HB.out).more HB.out.size)
          have V1' := Lib.hid (V1.out.under HB.out V1.out.size)
          have V2' := Lib.hid (V2.out.under HB.out V2.out.size)
          have B3 := Lib.hid (B2.out.trans (HB.out.mono B2.out.size))
          clear R Y1 Y2 V1 V2 B2 HB FA ZL2 hlt hk
          have R := R3
          have Y1 := Z3
          have V1 := V1'
          have V2 := V2'
          have B2 := B3
          clear R3 Z3 V1' V2' B3
          go_wp2_with fail
          refine (S3.out _ _ _ R.out).mono ?_
          rintro e w4 ⟨A4, c4, rfl, o, hb⟩
          have BN := Lib.hid ((B2.out.trans (hb.mono B2.out.size)).alloc (by have := hb.size; have := B2.out.size; omega) (.cells #[.int .i64 xp, .int .i64 xq, .int .i64 lp, .int .i64 lq, .bool false, .int .i64 (max y 0)] 31))
          have RN := Lib.hid ((((R.out.below hb).more hb.size).below (w' := w4.alloc (.cells #[.int .i64 xp, .int .i64 xq, .int .i64 lp, .int .i64 lq, .bool false, .int .i64 (max y 0)] 31)) ((Below.refl _ w4).alloc (Nat.le_refl _) _)).more (B' := (w4.alloc (.cells #[.int .i64 xp, .int .i64 xq, .int .i64 lp, .int .i64 lq, .bool false, .int .i64 (max y 0)] 31)).heap.size) (by simp))
          have Y1N := Lib.hid ((((Y1.out.below hb).more hb.size).below (w' := w4.alloc (.cells #[.int .i64 xp, .int .i64 xq, .int .i64 lp, .int .i64 lq, .bool false, .int .i64 (max y 0)] 31)) ((Below.refl _ w4).alloc (Nat.le_refl _) _)).more (B' := (w4.alloc (.cells #[.int .i64 xp, .int .i64 xq, .int .i64 lp, .int .i64 lq, .bool false, .int .i64 (max y 0)] 31)).heap.size) (by simp))
          have V1N := Lib.hid ((V1.out.under hb V1.out.size).made (.cells #[.int .i64 xp, .int .i64 xq, .int .i64 lp, .int .i64 lq, .bool false, .int .i64 (max y 0)] 31))
          have V2N := Lib.hid ((V2.out.under hb V2.out.size).made (.cells #[.int .i64 xp, .int .i64 xq, .int .i64 lp, .int .i64 lq, .bool false, .int .i64 (max y 0)] 31))
          have Y3 := Lib.hid (((row_of_own o).below ((Below.refl _ w4).alloc (Nat.le_refl _) (.cells #[.int .i64 xp, .int .i64 xq, .int .i64 lp, .int .i64 lq, .bool false, .int .i64 (max y 0)] 31))).more (B' := (w4.alloc (.cells #[.int .i64 xp, .int .i64 xq, .int .i64 lp, .int .i64 lq, .bool false, .int .i64 (max y 0)] 31)).heap.size) (by simp))
          have V3 := Lib.hid (Whole.mk w4 31 #[.int .i64 xp, .int .i64 xq, .int .i64 lp, .int .i64 lq, .bool false, .int .i64 (max y 0)])
          clear o hb B2 R Y1 V1 V2
          have B2 := BN
          clear BN
          have R := RN
          clear RN
          have Y1 := Y1N
          clear Y1N
          have V1 := V1N
          clear V1N
          have V2 := V2N
          clear V2N
          clear S3 Y3
          go_upto_region 19 with fail
          generalize w4.alloc _ = u4 at *
          generalize w4.heap.size = g3 at *
          go_wp2_with fail
          refine (S4.out _ _ _ R.out).mono ?_
          rintro e w5 ⟨A5, c5, rfl, o, hb⟩
          have BN := Lib.hid ((B2.out.trans (hb.mono B2.out.size)).alloc (by have := hb.size; have := B2.out.size; omega) (.cells #[.int .i64 xp, .int .i64 xq, .int .i64 0, .int .i64 0, .bool false, .int .i64 (max (y + lp + lq) 0)] 31))
          have RN := Lib.hid ((((R.out.below hb).more hb.size).below (w' := w5.alloc (.cells #[.int .i64 xp, .int .i64 xq, .int .i64 0, .int .i64 0, .bool false, .int .i64 (max (y + lp + lq) 0)] 31)) ((Below.refl _ w5).alloc (Nat.le_refl _) _)).more (B' := (w5.alloc (.cells #[.int .i64 xp, .int .i64 xq, .int .i64 0, .int .i64 0, .bool false, .int .i64 (max (y + lp + lq) 0)] 31)).heap.size) (by simp))
          have Y1N := Lib.hid ((((Y1.out.below hb).more hb.size).below (w' := w5.alloc (.cells #[.int .i64 xp, .int .i64 xq, .int .i64 0, .int .i64 0, .bool false, .int .i64 (max (y + lp + lq) 0)] 31)) ((Below.refl _ w5).alloc (Nat.le_refl _) _)).more (B' := (w5.alloc (.cells #[.int .i64 xp, .int .i64 xq, .int .i64 0, .int .i64 0, .bool false, .int .i64 (max (y + lp + lq) 0)] 31)).heap.size) (by simp))
          have V1N := Lib.hid ((V1.out.under hb V1.out.size).made (.cells #[.int .i64 xp, .int .i64 xq, .int .i64 0, .int .i64 0, .bool false, .int .i64 (max (y + lp + lq) 0)] 31))
          have V2N := Lib.hid ((V2.out.under hb V2.out.size).made (.cells #[.int .i64 xp, .int .i64 xq, .int .i64 0, .int .i64 0, .bool false, .int .i64 (max (y + lp + lq) 0)] 31))
          have V3N := Lib.hid ((V3.out.under hb V3.out.size).made (.cells #[.int .i64 xp, .int .i64 xq, .int .i64 0, .int .i64 0, .bool false, .int .i64 (max (y + lp + lq) 0)] 31))
          have Y4 := Lib.hid (((row_of_own o).below ((Below.refl _ w5).alloc (Nat.le_refl _) (.cells #[.int .i64 xp, .int .i64 xq, .int .i64 0, .int .i64 0, .bool false, .int .i64 (max (y + lp + lq) 0)] 31))).more (B' := (w5.alloc (.cells #[.int .i64 xp, .int .i64 xq, .int .i64 0, .int .i64 0, .bool false, .int .i64 (max (y + lp + lq) 0)] 31)).heap.size) (by simp))
          have V4 := Lib.hid (Whole.mk w5 31 #[.int .i64 xp, .int .i64 xq, .int .i64 0, .int .i64 0, .bool false, .int .i64 (max (y + lp + lq) 0)])
          clear o hb B2 R Y1 V1 V2 V3
          have B2 := BN
          clear BN
          have R := RN
          clear RN
          have Y1 := Y1N
          clear Y1N
          have V1 := V1N
          clear V1N
          have V2 := V2N
          clear V2N
          have V3 := V3N
          clear V3N
          clear S4 Y4
          go_upto_region 20 with fail
          generalize w5.alloc _ = u5 at *
          generalize w5.heap.size = g4 at *
          have hm40 : m ≤ 39 := by omega
          have hz1 : m < (atL (startS true) l2).length := by rw [ZL1.out]; omega
          have EY := FY.out hz1 (by omega)
          have Q := YB.out m hz1
          obtain ⟨ad, rfl, hb, hc⟩ := Y1.out.int hz1
          generalize (atL (startS true) l2)[m] = z at *
          obtain ⟨a0, e0, hb0, r0, r1⟩ := R.out.ld (show 0 < l2.length by omega)
          obtain ⟨am, em, hbm, s0, s1⟩ := R.out.ld (show m < l2.length by omega)
          injection e0 with e0
          injection em with em
          subst e0 em
          have q1 := r1 1 _ (by decide) rfl
          have q2 := r1 2 _ (by decide) rfl
          have q3 := s1 3 _ (by decide) rfl
          have q4 := s1 4 _ (by decide) rfl
          rw [FX.out (by omega)] at q1 q2
          rw [FB.out (by omega)] at q3 q4
          simp only [head_add] at q1 q2 q3 q4 s0
          have BH := Lib.hid (show 0 ≤ l2[m].h ∧ l2[m].h < 68719476736 from ⟨(BO.out m (by omega)).h0, (BO.out m (by omega)).h1⟩)
          generalize l2[m].h = h at *
          have hga : ga < u5.heap.size := hb0
          have X0 : ∀ t : Later u5.heap.size u5, t.w.cell? (ad.add m) = some (.int .i64 z) := fun t => (t.h.cell (by rw [add_block]; exact hb)).trans hc
          have X1 : ∀ t : Later u5.heap.size u5, t.w.cell? ⟨ga, m * 6, none⟩ = some (.int .i64 h) := fun t => (t.h.cell (p := ⟨ga, m * 6, none⟩) hga).trans s0
          have X2 : ∀ t : Later u5.heap.size u5, t.w.cell? ⟨ga, m * 6 + 3, none⟩ = some (.int .i64 lp) := fun t => (t.h.cell (p := ⟨ga, m * 6 + 3, none⟩) hga).trans q3
          have X3 : ∀ t : Later u5.heap.size u5, t.w.cell? ⟨ga, m * 6 + 4, none⟩ = some (.int .i64 lq) := fun t => (t.h.cell (p := ⟨ga, m * 6 + 4, none⟩) hga).trans q4
          have X4 : ∀ t : Later u5.heap.size u5, t.w.cell? ⟨ga, 1, none⟩ = some (.int .i64 xp) := fun t => (t.h.cell (p := ⟨ga, 1, none⟩) hga).trans (by simpa using q1)
          have X5 : ∀ t : Later u5.heap.size u5, t.w.cell? ⟨ga, 2, none⟩ = some (.int .i64 xq) := fun t => (t.h.cell (p := ⟨ga, 2, none⟩) hga).trans (by simpa using q2)
          have T10 : ∀ t : Later u5.heap.size u5, t.w.cell? ⟨g1, 0, none⟩ = some (.int .i64 xp) := fun t => (V1.out.under t.h V1.out.size).cell 0
          have T11 : ∀ t : Later u5.heap.size u5, t.w.cell? ⟨g1, 1, none⟩ = some (.int .i64 xq) := fun t => (V1.out.under t.h V1.out.size).cell 1
          have T20 : ∀ t : Later u5.heap.size u5, t.w.cell? ⟨g2, 0, none⟩ = some (.int .i64 0) := fun t => (V2.out.under t.h V2.out.size).cell 0
          have T21 : ∀ t : Later u5.heap.size u5, t.w.cell? ⟨g2, 1, none⟩ = some (.int .i64 0) := fun t => (V2.out.under t.h V2.out.size).cell 1
          have T32 : ∀ t : Later u5.heap.size u5, t.w.cell? ⟨g3, 2, none⟩ = some (.int .i64 lp) := fun t => (V3.out.under t.h V3.out.size).cell 2
          have T33 : ∀ t : Later u5.heap.size u5, t.w.cell? ⟨g3, 3, none⟩ = some (.int .i64 lq) := fun t => (V3.out.under t.h V3.out.size).cell 3
          have T35 : ∀ t : Later u5.heap.size u5, t.w.cell? ⟨g3, 5, none⟩ = some (.int .i64 (max y 0)) := fun t => (V3.out.under t.h V3.out.size).cell 5
          have T42 : ∀ t : Later u5.heap.size u5, t.w.cell? ⟨g4, 2, none⟩ = some (.int .i64 0) := fun t => (V4.out.under t.h V4.out.size).cell 2
          have T43 : ∀ t : Later u5.heap.size u5, t.w.cell? ⟨g4, 3, none⟩ = some (.int .i64 0) := fun t => (V4.out.under t.h V4.out.size).cell 3
          have T45 : ∀ t : Later u5.heap.size u5, t.w.cell? ⟨g4, 5, none⟩ = some (.int .i64 (max (y + lp + lq) 0)) := fun t => (V4.out.under t.h V4.out.size).cell 5
          obtain ⟨z1, z2⟩ := Q
          obtain ⟨z3, z4⟩ := BH.out
          have v1 : -9223372036854775808 ≤ z + h := by omega
          have v2 : z + h < 9223372036854775808 := by omega
          have v3 : -9223372036854775808 ≤ y + lp := by omega
          have v4 : y + lp < 9223372036854775808 := by omega
          have v5 : -9223372036854775808 ≤ y + lp + lq := by omega
          have v6 : y + lp + lq < 9223372036854775808 := by omega
          have HEY := Lib.hid EY
          clear EY FY FX FB r0 r1 s1 q1 q2 q3 q4 s0 hc V1 V2 V3 V4 R Y1 BH z3 z4 z1 z2
          clear YB
          refine region_lane [] (List.range 14) [14] (by kernel_rfl) (by kernel_rfl) (fun _ _ _ _ _ h => h) ?_
          simp only [pick, List.map_nil]
          refine wpQuiet_nil ⟨rfl, ?_⟩
          rw [show List.range 14 = [0, 1, 2, 3, 4, 5, 6, 7, 8, 9, 10, 11, 12, 13] from rfl]
          simp only [List.map_cons, List.map_nil, List.getD_cons_zero, List.getD_cons_succ, List.drop_succ_cons, List.drop_zero]
          refine laneO_run 2 (by kernel_rfl) ?_
          simp only [List.take_succ_cons, List.take_zero, List.drop_succ_cons, List.drop_zero]
          repeat (go_big_quiet_step (fail))
          refine wpQuiet_nil ?_
          refine laneO_fixed (v := .int .i64 ((m : Int) + 1)) (by kernel_rfl) (fun w hw => .inl ⟨by rfl, ?_⟩) ?_
          focus (unfold gives; simp [go_sem]; exact Behind.refl w)
          simp only [Act.put, List.setIfInBounds_toArray, List.set_cons_zero, List.set_cons_succ]
          refine laneO_run 5 (by kernel_rfl) ?_
          simp only [List.take_succ_cons, List.take_zero, List.drop_succ_cons, List.drop_zero]
          repeat (go_big_quiet_step (fail))
          refine wpQuiet_nil ?_
          refine laneO_fixed (v := .int .i64 ((m : Int) + 1)) (by kernel_rfl) (fun w hw => .inl ⟨by rfl, ?_⟩) ?_
          focus (unfold gives; simp [go_sem]; exact Behind.refl w)
          simp only [Act.put, List.setIfInBounds_toArray, List.set_cons_zero, List.set_cons_succ]
          refine laneO_run 5 (by kernel_rfl) ?_
          simp only [List.take_succ_cons, List.take_zero, List.drop_succ_cons, List.drop_zero]
          repeat (go_big_quiet_step (fail))
          refine wpQuiet_nil ?_
          refine laneO_end0 rfl rfl fun u6 hb6 => ?_
          rw [HEY.out]
          have B6 := Lib.hid (B2.out.trans (hb6.mono B2.out.size))
          clear X0 X1
          go_upto_region 21 with fail
          have UX2 : ∀ t : Later u6.heap.size u6, t.w.cell? ⟨ga, m * 6 + 3, none⟩ = some (.int .i64 lp) := fun t => X2 ⟨t.w, Below.trans hb6 (t.h.mono hb6.size)⟩
          have UX3 : ∀ t : Later u6.heap.size u6, t.w.cell? ⟨ga, m * 6 + 4, none⟩ = some (.int .i64 lq) := fun t => X3 ⟨t.w, Below.trans hb6 (t.h.mono hb6.size)⟩
          have UX4 : ∀ t : Later u6.heap.size u6, t.w.cell? ⟨ga, 1, none⟩ = some (.int .i64 xp) := fun t => X4 ⟨t.w, Below.trans hb6 (t.h.mono hb6.size)⟩
          have UX5 : ∀ t : Later u6.heap.size u6, t.w.cell? ⟨ga, 2, none⟩ = some (.int .i64 xq) := fun t => X5 ⟨t.w, Below.trans hb6 (t.h.mono hb6.size)⟩
          have UT10 : ∀ t : Later u6.heap.size u6, t.w.cell? ⟨g1, 0, none⟩ = some (.int .i64 xp) := fun t => T10 ⟨t.w, Below.trans hb6 (t.h.mono hb6.size)⟩
          have UT11 : ∀ t : Later u6.heap.size u6, t.w.cell? ⟨g1, 1, none⟩ = some (.int .i64 xq) := fun t => T11 ⟨t.w, Below.trans hb6 (t.h.mono hb6.size)⟩
          have UT20 : ∀ t : Later u6.heap.size u6, t.w.cell? ⟨g2, 0, none⟩ = some (.int .i64 0) := fun t => T20 ⟨t.w, Below.trans hb6 (t.h.mono hb6.size)⟩
          have UT21 : ∀ t : Later u6.heap.size u6, t.w.cell? ⟨g2, 1, none⟩ = some (.int .i64 0) := fun t => T21 ⟨t.w, Below.trans hb6 (t.h.mono hb6.size)⟩
          have UT32 : ∀ t : Later u6.heap.size u6, t.w.cell? ⟨g3, 2, none⟩ = some (.int .i64 lp) := fun t => T32 ⟨t.w, Below.trans hb6 (t.h.mono hb6.size)⟩
          have UT33 : ∀ t : Later u6.heap.size u6, t.w.cell? ⟨g3, 3, none⟩ = some (.int .i64 lq) := fun t => T33 ⟨t.w, Below.trans hb6 (t.h.mono hb6.size)⟩
          have UT35 : ∀ t : Later u6.heap.size u6, t.w.cell? ⟨g3, 5, none⟩ = some (.int .i64 (max y 0)) := fun t => T35 ⟨t.w, Below.trans hb6 (t.h.mono hb6.size)⟩
          have UT42 : ∀ t : Later u6.heap.size u6, t.w.cell? ⟨g4, 2, none⟩ = some (.int .i64 0) := fun t => T42 ⟨t.w, Below.trans hb6 (t.h.mono hb6.size)⟩
          have UT43 : ∀ t : Later u6.heap.size u6, t.w.cell? ⟨g4, 3, none⟩ = some (.int .i64 0) := fun t => T43 ⟨t.w, Below.trans hb6 (t.h.mono hb6.size)⟩
          have UT45 : ∀ t : Later u6.heap.size u6, t.w.cell? ⟨g4, 5, none⟩ = some (.int .i64 (max (y + lp + lq) 0)) := fun t => T45 ⟨t.w, Below.trans hb6 (t.h.mono hb6.size)⟩
          clear X2 X3 X4 X5 T10 T11 T20 T21 T32 T33 T35 T42 T43 T45 hb6
          refine region_lane [] (List.range 56) [56] (by kernel_rfl) (by kernel_rfl) (fun _ _ _ _ _ h => h) ?_
          simp only [pick, List.map_nil]
          refine wpQuiet_nil ⟨rfl, ?_⟩
          rw [show List.range 56 = [0, 1, 2, 3, 4, 5, 6, 7, 8, 9, 10, 11, 12, 13, 14, 15, 16, 17, 18, 19, 20, 21, 22, 23, 24, 25, 26, 27, 28, 29, 30, 31, 32, 33, 34, 35, 36, 37, 38, 39, 40, 41, 42, 43, 44, 45, 46, 47, 48, 49, 50, 51, 52, 53, 54, 55] from rfl]
          simp only [List.map_cons, List.map_nil, List.getD_cons_zero, List.getD_cons_succ, List.drop_succ_cons, List.drop_zero]
          refine laneO_run 10 (by kernel_rfl) ?_
          simp only [List.take_succ_cons, List.take_zero, List.drop_succ_cons, List.drop_zero]
          repeat (go_big_quiet_step (fail))
          refine wpQuiet_nil ?_
          refine laneO_fixed (v := .agg #[.int .i64 0, .int .i64 0]) (by kernel_rfl) (fun w hw => .inl ⟨by rfl, built_gives _ _ rfl _ (by kernel_rfl)⟩) ?_
          simp only [Act.put, List.setIfInBounds_toArray, List.set_cons_zero, List.set_cons_succ]
          refine laneO_run 7 (by kernel_rfl) ?_
          simp only [List.take_succ_cons, List.take_zero, List.drop_succ_cons, List.drop_zero]
          repeat (go_big_quiet_step (fail))
          refine wpQuiet_nil ?_
          refine laneO_fixed (v := .int .i64 ((m : Int) + 1)) (by kernel_rfl) (fun w hw => .inl ⟨by rfl, ?_⟩) ?_
          focus (unfold gives; simp [go_sem]; exact Behind.refl w)
          simp only [Act.put, List.setIfInBounds_toArray, List.set_cons_zero, List.set_cons_succ]
          refine laneO_run 9 (by kernel_rfl) ?_
          simp only [List.take_succ_cons, List.take_zero, List.drop_succ_cons, List.drop_zero]
          repeat (go_big_quiet_step (fail))
          refine wpQuiet_nil ?_
          refine laneO_fixed (v := .agg #[.int .i64 0, .int .i64 0]) (by kernel_rfl) (fun w hw => .inl ⟨by rfl, built_gives _ _ rfl _ (by kernel_rfl)⟩) ?_
          simp only [Act.put, List.setIfInBounds_toArray, List.set_cons_zero, List.set_cons_succ]
          refine laneO_run 6 (by kernel_rfl) ?_
          simp only [List.take_succ_cons, List.take_zero, List.drop_succ_cons, List.drop_zero]
          repeat (go_big_quiet_step (fail))
          refine wpQuiet_nil ?_
          refine laneO_fixed (v := .int .i64 (max y 0)) (by kernel_rfl) (fun w hw => .inl ⟨by rfl, ?_⟩) ?_
          focus (unfold gives; simp [go_sem, run_max_two]; exact Behind.refl w)
          simp only [Act.put, List.setIfInBounds_toArray, List.set_cons_zero, List.set_cons_succ]
          refine laneO_run 14 (by kernel_rfl) ?_
          simp only [List.take_succ_cons, List.take_zero, List.drop_succ_cons, List.drop_zero]
          repeat (go_big_quiet_step (fail))
          refine wpQuiet_nil ?_
          refine laneO_fixed (v := .int .i64 (max (y + lp + lq) 0)) (by kernel_rfl) (fun w hw => .inl ⟨by rfl, ?_⟩) ?_
          focus (unfold gives; simp [go_sem, run_max_two]; exact Behind.refl w)
          simp only [Act.put, List.setIfInBounds_toArray, List.set_cons_zero, List.set_cons_succ]
          refine laneO_run 3 (by kernel_rfl) ?_
          simp only [List.take_succ_cons, List.take_zero, List.drop_succ_cons, List.drop_zero]
          repeat (go_big_quiet_step (fail))
          refine wpQuiet_nil ?_
          refine laneO_call (v := (.bool true)) (by kernel_rfl) (by rfl) (fun C hC h0 => ?_) ?_
          focus (go_big_quiet_op; exact ⟨_, fun w hw => (kawake_any w).mono fun e w' ⟨he, hb⟩ => ⟨he, hC _ _ hw hb⟩, rfl⟩)
          simp only [Act.put, List.setIfInBounds_toArray, List.set_cons_zero, List.set_cons_succ]
          refine laneO_run 1 (by kernel_rfl) ?_
          simp only [List.take_succ_cons, List.take_zero, List.drop_succ_cons, List.drop_zero]
          repeat (go_big_quiet_step (fail))
          refine wpQuiet_nil ?_
          refine laneO_end0 rfl rfl fun u7 hb7 => ?_
          clear UX2 UX3 UX4 UX5 UT10 UT11 UT20 UT21 UT32 UT33 UT35 UT42 UT43 UT45
          have B7 := Lib.hid (B6.out.trans (hb7.mono B6.out.size))
          clear hb7 B6
          go_wp2_with fail
          go_ret
          exact ⟨rfl, B7.out⟩
end Go.Proofs.Ytnhhalhaefeoeaa
