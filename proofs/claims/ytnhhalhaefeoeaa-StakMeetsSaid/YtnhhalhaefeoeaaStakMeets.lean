import Derived.Test.YtnhhalhaefeoeaaStkTame
import Derived.Test.YtnhhalhaefeoeaaMinTwo
/- StakMeets answers true. -/
namespace Go.Proofs.Ytnhhalhaefeoeaa
open Go Go.RowKit
set_option linter.unusedVariables false
set_option linter.unusedSimpArgs false
set_option maxRecDepth 20000
set_option maxHeartbeats 4000000

def seenB (l : List Ld) : Bool := l.any fun x => !x.th
theorem seenB_take (l : List Ld) (k : Nat) (h : k < l.length) : seenB (l.take (k + 1)) = (seenB (l.take k) || !l[k].th) := by
  unfold seenB
  rw [List.take_succ_eq_append_getElem h, List.any_append]; simp
theorem putS_a (s : Sk) (x : Ld) : (putS s x).a = (s.a && x.th) := by
  unfold putS
  cases x.th
  · simp
  · simp
theorem runS_a (top : Bool) (l : List Ld) (k : Nat) (h : k ≤ l.length) : (runS (startS top) (l.take k)).a = (top && !(seenB (l.take k))) := by
  induction k with
  | zero => simp [runS, startS, seenB]
  | succ k ih =>
    rw [runS_take _ _ _ (by omega), putS_a, ih (by omega), seenB_take l k (by omega)]
    cases top <;> cases seenB (l.take k) <;> cases (l[k]'(by omega)).th <;> rfl
theorem runS_t : ∀ (l : List Ld) (s : Sk), s.a = false → (runS s l).t = s.t ∧ (runS s l).a = false
  | [], s, h => ⟨rfl, h⟩
  | x :: l, s, h => by
    have e : (putS s x).t = s.t ∧ (putS s x).a = false := by
      unfold putS
      cases x.th
      · simp [h]
      · simp [h]
    have := runS_t l (putS s x) e.2
    exact ⟨this.1.trans e.1, this.2⟩
theorem endS_t (s : Sk) (b : Bool) (h : s.a = false) : (endS s b).t = s.t ∧ (endS s b).th = false := by
  unfold endS
  rw [h]
  cases b <;> simp
/-- What went out at the top. -/
theorem top_at (top bottom : Bool) (l : List Ld) (k : Nat) (h : k < l.length) (ha : (runS (startS top) (l.take k)).a = true) (hx : l[k].th = false) :
    (endS (runS (startS top) l) bottom).t = joinS (runS (startS top) (l.take k)).f l[k].t := by
  have e : runS (startS top) l = runS (putS (runS (startS top) (l.take k)) l[k]) (l.drop (k + 1)) := by
    rw [← runS_take _ _ _ h, ← runS_append, List.take_append_drop]
  have hp : (putS (runS (startS top) (l.take k)) l[k]).a = false ∧ (putS (runS (startS top) (l.take k)) l[k]).t = joinS (runS (startS top) (l.take k)).f l[k].t := by
    unfold putS
    rw [hx]
    simp [ha]
  obtain ⟨e1, e2⟩ := runS_t (l.drop (k + 1)) _ hp.1
  rw [e, (endS_t _ bottom e2).1, e1, hp.2]
theorem stakMeets_any (l0 : List Ld) (hl : l0.length ≤ 9223372036854775807) (A : Option Addr) (c : Nat) (top bottom : Bool) (W : World) (hR : Row W W.heap.size A (l0.flatMap ldC)) :
    Calls Try.prog 6 #[.slice A l0.length c, .bool top, .bool bottom] W fun e w' => e = .returned (.bool true) ∧ Below W.heap.size W w' := by
  have TM := Lib.hid (ktame_any l0 hl A c W hR)
  have hok := tameLd_ok l0
  have hlen := tameLd_len l0
  generalize tameLd l0 = l at *
  have HOK := Lib.hid hok
  have S1 := Lib.hid (fun A c w hR => stack_any l (by omega) hok A c top bottom w hR)
  obtain ⟨x, hx⟩ : ∃ x, endS (runS (startS top) l) bottom = x := ⟨_, rfl⟩
  have HX := Lib.hid hx
  have HT := Lib.hid (fun k h ha hth => top_at top bottom l k h ha hth)
  rw [hx] at S1 HT
  clear hx hok hR
  obtain ⟨⟨tp, tq⟩, ⟨bp, bq⟩, th, hh⟩ := x
  go_enter Try.func6, Try.ntmps6
  go_wp2_with fail
  refine TM.out.mono ?_
  rintro e w1 ⟨A1, c1, rfl, o1, hb⟩
  have R1 := Lib.hid (row_of_own o1)
  have B1 := Lib.hid hb
  clear o1 hb TM
  go_wp2_with fail
  refine (S1.out _ _ _ R1.out).mono ?_
  rintro e w2 ⟨A2, c2, rfl, o2, hb⟩
  have B2 := Lib.hid ((B1.out.trans (hb.mono B1.out.size)).alloc (by have := hb.size; have := B1.out.size; omega) (.cells #[.int .i64 tp, .int .i64 tq, .int .i64 bp, .int .i64 bq, .bool th, .int .i64 hh] 31))
  have V2 := Lib.hid (Whole.mk w2 31 #[.int .i64 tp, .int .i64 tq, .int .i64 bp, .int .i64 bq, .bool th, .int .i64 hh])
  have R2 := Lib.hid ((((R1.out.below hb).more hb.size).below (w' := w2.alloc (.cells #[.int .i64 tp, .int .i64 tq, .int .i64 bp, .int .i64 bq, .bool th, .int .i64 hh] 31)) ((Below.refl _ w2).alloc (Nat.le_refl _) _)).more (B' := (w2.alloc (.cells #[.int .i64 tp, .int .i64 tq, .int .i64 bp, .int .i64 bq, .bool th, .int .i64 hh] 31)).heap.size) (by simp))
  have Y2 := Lib.hid (((row_of_own o2).below ((Below.refl _ w2).alloc (Nat.le_refl _) (.cells #[.int .i64 tp, .int .i64 tq, .int .i64 bp, .int .i64 bq, .bool th, .int .i64 hh] 31))).more (B' := (w2.alloc (.cells #[.int .i64 tp, .int .i64 tq, .int .i64 bp, .int .i64 bq, .bool th, .int .i64 hh] 31)).heap.size) (by simp))
  clear o2 hb R1 B1 S1
  go_upto_region 3 with fail
  generalize w2.alloc _ = u2 at *
  generalize w2.heap.size = g2 at *
  go_upto_region 7 with fail
  go_loopw [9, 10, 11, 12, 13, 14] (fun v9 v10 v11 v12 v13 v14 wr => ∃ k : Nat, k ≤ l.length ∧ v9 = .int .i64 (runS (startS top) (l.take k)).f.p ∧ v10 = .int .i64 (runS (startS top) (l.take k)).f.q ∧ v11 = .int .i64 (runS (startS top) (l.take k)).y ∧ v12 = .bool (seenB (l.take k)) ∧ v13 = .int .i64 k ∧ Hid (Below u2.heap.size u2 wr)) (fun _ _ _ _ v13 _ _ => l.length - (intOf v13).toNat)
  case atStart => exact ⟨0, Nat.zero_le _, rfl, rfl, rfl, rfl, rfl, Lib.hid (Below.refl _ _)⟩
  case round =>
    obtain ⟨k, hk, rfl, rfl, rfl, rfl, rfl, HB⟩ := hrel
    by_cases hlt : k < l.length
    · have hki : (k : Int) < l.length := by omega
      have hzl : k < (atL (startS top) l).length := by rw [atL_length]; exact hlt
      have EZ := Lib.hid (atL_get (startS top) l k hzl)
      obtain ⟨ad, rfl, hb, r0, r1⟩ := (R2.out.below HB.out).ld hlt
      obtain ⟨ae, rfl, hbe, hc⟩ := (Y2.out.below HB.out).int hzl
      generalize (atL (startS top) l)[k] = z at *
      have ES := Lib.hid (seenB_take l k hlt)
      have ER := Lib.hid (runS_take (startS top) l k hlt)
      have EA := Lib.hid (runS_a top l k hk)
      have OK := Lib.hid (take_ok HOK.out top k hk)
      have OX := Lib.hid (HOK.out _ (List.getElem_mem hlt))
      have TA := Lib.hid (HT.out k hlt)
      generalize seenB (l.take k) = sn at *
      generalize runS (startS top) (l.take k) = s at *
      generalize l[k] = x at *
      obtain ⟨y, ⟨p, q⟩, a, ⟨sp, sq⟩⟩ := s
      obtain ⟨h, ⟨xp, xq⟩, ⟨yp, yq⟩, xt⟩ := x
      have q1 := r1 1 _ (by decide) rfl
      have q2 := r1 2 _ (by decide) rfl
      have q3 := r1 3 _ (by decide) rfl
      have q4 := r1 4 _ (by decide) rfl
      have q5 := r1 5 _ (by decide) rfl
      have hba : (ad.add (k * 6)).block < u2.heap.size := by rw [add_block]; exact hb
      have hbb : (ae.add k).block < u2.heap.size := by rw [add_block]; exact hbe
      simp only at r0 q1 q2 q3 q4 q5
      have hsz := HB.out.size
      have Z1 : ∀ t : Later wr.heap.size wr, t.w.cell? ⟨(ad.add (k * 6)).block, (ad.add (k * 6)).off + 1, none⟩ = some (.int .i64 xp) := fun t => (t.h.cell (p := ⟨(ad.add (k * 6)).block, (ad.add (k * 6)).off + 1, none⟩) (by simp only; omega)).trans q1
      have Z2 : ∀ t : Later wr.heap.size wr, t.w.cell? ⟨(ad.add (k * 6)).block, (ad.add (k * 6)).off + 2, none⟩ = some (.int .i64 xq) := fun t => (t.h.cell (p := ⟨(ad.add (k * 6)).block, (ad.add (k * 6)).off + 2, none⟩) (by simp only; omega)).trans q2
      have BD := Lib.hid (show -9223372036854775808 ≤ y + max p xp ∧ y + max p xp < 9223372036854775808 ∧ -9223372036854775808 ≤ y + max p xp + min q xq ∧ y + max p xp + min q xq < 9223372036854775808 ∧ -9223372036854775808 ≤ z + h ∧ z + h < 9223372036854775808 by
        obtain ⟨c1, c2, c3, c4, c5, c6, c7, c8, c9, c10, -⟩ := OX.out
        obtain ⟨d1, d2, d3, d4, -, -, -, -, d9, d10, -⟩ := OK.out
        have h1 := (putS_ok OK.out OX.out).2
        rw [← EZ.out] at h1
        simp only at *
        omega)
      have EZ2 : Hid (z = if a then 0 else y + (max p xp + min q xq)) := Lib.hid (by
        rw [EZ.out]
        unfold atZ posS joinS
        cases a
        · rfl
        · simp only [if_true]; exact OK.out.top rfl)
      have PY : Hid (atZ ⟨y, ⟨p, q⟩, a, ⟨sp, sq⟩⟩ ⟨h, ⟨xp, xq⟩, ⟨yp, yq⟩, xt⟩ = z) := Lib.hid EZ.out.symm
      have TA2 : Hid (a = true → xt = false → tp = max p xp ∧ tq = min q xq) := Lib.hid (fun h1 h2 => by
        have := TA.out h1 h2
        exact ⟨congrArg Fd.p this, congrArg Fd.q this⟩)
      clear r1 OX OK hb hbe EZ TA
      go_upto_region 9 with fail
      refine region_lane [] [0, 1, 2, 3, 4, 5, 6, 7, 16, 8, 9, 10, 11, 12, 13, 14, 15] [17] (by kernel_rfl) (by kernel_rfl) (by intro _ _ _ _ _ h; exact h) ?_
      simp only [pick, List.map_cons, List.map_nil, List.getD_cons_zero, List.getD_cons_succ, List.drop_succ_cons, List.drop_zero]
      refine wpQuiet_nil ⟨rfl, ?_⟩
      refine laneO_run 7 (by kernel_rfl) ?_
      simp only [List.take_succ_cons, List.take_zero, List.drop_succ_cons, List.drop_zero]
      repeat (go_big_quiet_step (fail))
      refine wpQuiet_nil ?_
      refine laneO_fixed (v := .int .i64 (max p xp)) (by kernel_rfl) (fun w hw => .inl ⟨by rfl, ?_⟩) ?_
      focus (unfold gives; simp [go_sem, run_max_two]; exact Behind.refl w)
      simp only [Act.put, List.setIfInBounds_toArray, List.set_cons_zero, List.set_cons_succ]
      refine laneO_run 8 (by kernel_rfl) ?_
      simp only [List.take_succ_cons, List.take_zero, List.drop_succ_cons, List.drop_zero]
      repeat (go_big_quiet_step (fail))
      refine wpQuiet_nil ?_
      refine laneO_fixed (v := .int .i64 (min q xq)) (by kernel_rfl) (fun w hw => .inl ⟨by rfl, ?_⟩) ?_
      focus (unfold gives; simp [go_sem, run_min_two]; exact Behind.refl w)
      simp only [Act.put, List.setIfInBounds_toArray, List.set_cons_zero, List.set_cons_succ]
      refine laneO_end0 rfl rfl fun w3 hb0 => ?_
      clear Z1 Z2
      have p0 : w3.cell? (ad.add (k * 6)) = some (.int .i64 h) := (hb0.cell (by omega)).trans r0
      have p3 := (hb0.cell (p := ⟨(ad.add (k * 6)).block, (ad.add (k * 6)).off + 3, none⟩) (by simp only; omega)).trans q3
      have p4 := (hb0.cell (p := ⟨(ad.add (k * 6)).block, (ad.add (k * 6)).off + 4, none⟩) (by simp only; omega)).trans q4
      have p5 := (hb0.cell (p := ⟨(ad.add (k * 6)).block, (ad.add (k * 6)).off + 5, none⟩) (by simp only; omega)).trans q5
      have pz : w3.cell? (ae.add k) = some (.int .i64 z) := (hb0.cell (by omega)).trans hc
      have HB3 := Lib.hid (HB.out.trans (hb0.mono hsz))
      have V3 := Lib.hid (V2.out.under HB3.out V2.out.size)
      have hsz3 := HB3.out.size
      clear r0 q1 q2 q3 q4 q5 hc hb0 HB
      obtain ⟨jp, hjp⟩ : ∃ z, max p xp = z := ⟨_, rfl⟩
      obtain ⟨jq, hjq⟩ : ∃ z, min q xq = z := ⟨_, rfl⟩
      have HJP := Lib.hid hjp
      have HJQ := Lib.hid hjq
      rw [hjp, hjq] at BD EZ2 TA2
      rw [hjp, hjq]
      clear hjp hjq
      obtain ⟨v1, v2, v3, v4, v5, v6⟩ := BD.out
      cases xt
      · cases sn <;> cases top
        · skip
          have EAA : Hid (a = false) := Lib.hid EA.out
          rw [EAA.out] at ER EZ2 TA2 PY
          clear EA
          have hz := EZ2.out
          rw [if_neg (by decide)] at hz
          have hz2 : y + jp + jq = z := by omega
          rw [hz2] at v3 v4
          have EYY : Hid (z + h = (putS ⟨y, ⟨p, q⟩, false, ⟨sp, sq⟩⟩ ⟨h, ⟨xp, xq⟩, ⟨yp, yq⟩, false⟩).y) := Lib.hid (by rw [← PY.out]; rfl)
          have HZ2 := Lib.hid hz2
          clear hz hz2 EZ2 TA2 PY
          have v3' : -9223372036854775808 ≤ y + jp + jq := by have := HZ2.out; omega
          have v4' : y + jp + jq < 9223372036854775808 := by have := HZ2.out; omega
          go_upto_region 17 with fail
          rw [HZ2.out]
          clear v3' v4'
          go_upto_region 19 with fail
          have P0 : ∀ t : Later w3.heap.size w3, t.w.cell? (ad.add (k * 6)) = some (.int .i64 h) := fun t => (t.h.cell (by omega)).trans p0
          have P3 : ∀ t : Later w3.heap.size w3, t.w.cell? ⟨(ad.add (k * 6)).block, (ad.add (k * 6)).off + 3, none⟩ = some (.int .i64 yp) := fun t => (t.h.cell (p := ⟨(ad.add (k * 6)).block, (ad.add (k * 6)).off + 3, none⟩) (by simp only; omega)).trans p3
          have P4 : ∀ t : Later w3.heap.size w3, t.w.cell? ⟨(ad.add (k * 6)).block, (ad.add (k * 6)).off + 4, none⟩ = some (.int .i64 yq) := fun t => (t.h.cell (p := ⟨(ad.add (k * 6)).block, (ad.add (k * 6)).off + 4, none⟩) (by simp only; omega)).trans p4
          have PZ : ∀ t : Later w3.heap.size w3, t.w.cell? (ae.add k) = some (.int .i64 z) := fun t => (t.h.cell (by omega)).trans pz
          clear p0 p3 p4 p5 pz V3
          refine region_lane [] [0, 1, 2, 3, 4, 5, 6, 7, 8, 9, 10, 11, 12, 13, 14, 15, 16, 17, 18, 19, 20, 21, 22, 23, 24] [25] (by kernel_rfl) (by kernel_rfl) (by intro _ _ _ _ _ h; exact h) ?_
          simp only [pick, List.map_cons, List.map_nil, List.getD_cons_zero, List.getD_cons_succ, List.drop_succ_cons, List.drop_zero]
          refine wpQuiet_nil ⟨rfl, ?_⟩
          refine laneO_run 25 (by kernel_rfl) ?_
          simp only [List.take_succ_cons, List.take_zero, List.drop_succ_cons, List.drop_zero]
          repeat (go_big_quiet_step (fail))
          refine wpQuiet_nil ?_
          refine laneO_end0 rfl rfl fun w4 hb0 => ?_
          clear P0 P3 P4 PZ
          have HB4 := Lib.hid (HB3.out.trans (hb0.mono hsz3))
          clear hb0 HB3
          go_wp2_with fail
          go_roundw
          case rel => exact ⟨k + 1, by omega, by rw [ER.out]; rfl, by rw [ER.out]; rfl, by rw [ER.out]; exact congrArg (Value.int .i64) EYY.out, by rw [ES.out]; simp, by go_num, HB4⟩
          case measure => simp [intOf]; omega
        · skip
          have EAA : Hid (a = true) := Lib.hid EA.out
          rw [EAA.out] at ER EZ2 TA2 PY
          clear EA
          have hz := EZ2.out
          rw [if_pos rfl] at hz
          subst hz
          obtain ⟨ht1, ht2⟩ := TA2.out rfl rfl
          have g0 : w3.cell? ⟨g2, 0, none⟩ = some (.int .i64 tp) := V3.out.cell 0
          have g1 : w3.cell? ⟨g2, 1, none⟩ = some (.int .i64 tq) := V3.out.cell 1
          rw [ht1] at g0
          rw [ht2] at g1
          clear ht1 ht2 TA2
          have EY : Hid ((0 : Int) + h = (0 : Int) + h) := Lib.hid rfl
          have ER2 := ER
          clear EZ2
          go_upto_region 19 with fail
          clear g0 g1
          have EYY : Hid ((0 : Int) + h = (putS ⟨y, ⟨p, q⟩, true, ⟨sp, sq⟩⟩ ⟨h, ⟨xp, xq⟩, ⟨yp, yq⟩, false⟩).y) := Lib.hid (by rw [← PY.out]; rfl)
          clear EY ER2 PY
          have P0 : ∀ t : Later w3.heap.size w3, t.w.cell? (ad.add (k * 6)) = some (.int .i64 h) := fun t => (t.h.cell (by omega)).trans p0
          have P3 : ∀ t : Later w3.heap.size w3, t.w.cell? ⟨(ad.add (k * 6)).block, (ad.add (k * 6)).off + 3, none⟩ = some (.int .i64 yp) := fun t => (t.h.cell (p := ⟨(ad.add (k * 6)).block, (ad.add (k * 6)).off + 3, none⟩) (by simp only; omega)).trans p3
          have P4 : ∀ t : Later w3.heap.size w3, t.w.cell? ⟨(ad.add (k * 6)).block, (ad.add (k * 6)).off + 4, none⟩ = some (.int .i64 yq) := fun t => (t.h.cell (p := ⟨(ad.add (k * 6)).block, (ad.add (k * 6)).off + 4, none⟩) (by simp only; omega)).trans p4
          have PZ : ∀ t : Later w3.heap.size w3, t.w.cell? (ae.add k) = some (.int .i64 0) := fun t => (t.h.cell (by omega)).trans pz
          clear p0 p3 p4 p5 pz V3
          refine region_lane [] [0, 1, 2, 3, 4, 5, 6, 7, 8, 9, 10, 11, 12, 13, 14, 15, 16, 17, 18, 19, 20, 21, 22, 23, 24] [25] (by kernel_rfl) (by kernel_rfl) (by intro _ _ _ _ _ h; exact h) ?_
          simp only [pick, List.map_cons, List.map_nil, List.getD_cons_zero, List.getD_cons_succ, List.drop_succ_cons, List.drop_zero]
          refine wpQuiet_nil ⟨rfl, ?_⟩
          refine laneO_run 25 (by kernel_rfl) ?_
          simp only [List.take_succ_cons, List.take_zero, List.drop_succ_cons, List.drop_zero]
          repeat (go_big_quiet_step (fail))
          refine wpQuiet_nil ?_
          refine laneO_end0 rfl rfl fun w4 hb0 => ?_
          clear P0 P3 P4 PZ
          have HB4 := Lib.hid (HB3.out.trans (hb0.mono hsz3))
          clear hb0 HB3
          go_wp2_with fail
          go_roundw
          case rel => exact ⟨k + 1, by omega, by rw [ER.out]; rfl, by rw [ER.out]; rfl, by rw [ER.out]; exact congrArg (Value.int .i64) ((Int.zero_add h).symm.trans EYY.out), by rw [ES.out]; simp, by go_num, HB4⟩
          case measure => simp [intOf]; omega
        · skip
          have EAA : Hid (a = false) := Lib.hid EA.out
          rw [EAA.out] at ER EZ2 TA2 PY
          clear EA
          have hz := EZ2.out
          rw [if_neg (by decide)] at hz
          have hz2 : y + jp + jq = z := by omega
          rw [hz2] at v3 v4
          have EYY : Hid (z + h = (putS ⟨y, ⟨p, q⟩, false, ⟨sp, sq⟩⟩ ⟨h, ⟨xp, xq⟩, ⟨yp, yq⟩, false⟩).y) := Lib.hid (by rw [← PY.out]; rfl)
          have HZ2 := Lib.hid hz2
          clear hz hz2 EZ2 TA2 PY
          have v3' : -9223372036854775808 ≤ y + jp + jq := by have := HZ2.out; omega
          have v4' : y + jp + jq < 9223372036854775808 := by have := HZ2.out; omega
          go_upto_region 17 with fail
          rw [HZ2.out]
          clear v3' v4'
          go_upto_region 19 with fail
          have P0 : ∀ t : Later w3.heap.size w3, t.w.cell? (ad.add (k * 6)) = some (.int .i64 h) := fun t => (t.h.cell (by omega)).trans p0
          have P3 : ∀ t : Later w3.heap.size w3, t.w.cell? ⟨(ad.add (k * 6)).block, (ad.add (k * 6)).off + 3, none⟩ = some (.int .i64 yp) := fun t => (t.h.cell (p := ⟨(ad.add (k * 6)).block, (ad.add (k * 6)).off + 3, none⟩) (by simp only; omega)).trans p3
          have P4 : ∀ t : Later w3.heap.size w3, t.w.cell? ⟨(ad.add (k * 6)).block, (ad.add (k * 6)).off + 4, none⟩ = some (.int .i64 yq) := fun t => (t.h.cell (p := ⟨(ad.add (k * 6)).block, (ad.add (k * 6)).off + 4, none⟩) (by simp only; omega)).trans p4
          have PZ : ∀ t : Later w3.heap.size w3, t.w.cell? (ae.add k) = some (.int .i64 z) := fun t => (t.h.cell (by omega)).trans pz
          clear p0 p3 p4 p5 pz V3
          refine region_lane [] [0, 1, 2, 3, 4, 5, 6, 7, 8, 9, 10, 11, 12, 13, 14, 15, 16, 17, 18, 19, 20, 21, 22, 23, 24] [25] (by kernel_rfl) (by kernel_rfl) (by intro _ _ _ _ _ h; exact h) ?_
          simp only [pick, List.map_cons, List.map_nil, List.getD_cons_zero, List.getD_cons_succ, List.drop_succ_cons, List.drop_zero]
          refine wpQuiet_nil ⟨rfl, ?_⟩
          refine laneO_run 25 (by kernel_rfl) ?_
          simp only [List.take_succ_cons, List.take_zero, List.drop_succ_cons, List.drop_zero]
          repeat (go_big_quiet_step (fail))
          refine wpQuiet_nil ?_
          refine laneO_end0 rfl rfl fun w4 hb0 => ?_
          clear P0 P3 P4 PZ
          have HB4 := Lib.hid (HB3.out.trans (hb0.mono hsz3))
          clear hb0 HB3
          go_wp2_with fail
          go_roundw
          case rel => exact ⟨k + 1, by omega, by rw [ER.out]; rfl, by rw [ER.out]; rfl, by rw [ER.out]; exact congrArg (Value.int .i64) EYY.out, by rw [ES.out]; simp, by go_num, HB4⟩
          case measure => simp [intOf]; omega
        · skip
          have EAA : Hid (a = false) := Lib.hid EA.out
          rw [EAA.out] at ER EZ2 TA2 PY
          clear EA
          have hz := EZ2.out
          rw [if_neg (by decide)] at hz
          have hz2 : y + jp + jq = z := by omega
          rw [hz2] at v3 v4
          have EYY : Hid (z + h = (putS ⟨y, ⟨p, q⟩, false, ⟨sp, sq⟩⟩ ⟨h, ⟨xp, xq⟩, ⟨yp, yq⟩, false⟩).y) := Lib.hid (by rw [← PY.out]; rfl)
          have HZ2 := Lib.hid hz2
          clear hz hz2 EZ2 TA2 PY
          have v3' : -9223372036854775808 ≤ y + jp + jq := by have := HZ2.out; omega
          have v4' : y + jp + jq < 9223372036854775808 := by have := HZ2.out; omega
          go_upto_region 17 with fail
          rw [HZ2.out]
          clear v3' v4'
          go_upto_region 19 with fail
          have P0 : ∀ t : Later w3.heap.size w3, t.w.cell? (ad.add (k * 6)) = some (.int .i64 h) := fun t => (t.h.cell (by omega)).trans p0
          have P3 : ∀ t : Later w3.heap.size w3, t.w.cell? ⟨(ad.add (k * 6)).block, (ad.add (k * 6)).off + 3, none⟩ = some (.int .i64 yp) := fun t => (t.h.cell (p := ⟨(ad.add (k * 6)).block, (ad.add (k * 6)).off + 3, none⟩) (by simp only; omega)).trans p3
          have P4 : ∀ t : Later w3.heap.size w3, t.w.cell? ⟨(ad.add (k * 6)).block, (ad.add (k * 6)).off + 4, none⟩ = some (.int .i64 yq) := fun t => (t.h.cell (p := ⟨(ad.add (k * 6)).block, (ad.add (k * 6)).off + 4, none⟩) (by simp only; omega)).trans p4
          have PZ : ∀ t : Later w3.heap.size w3, t.w.cell? (ae.add k) = some (.int .i64 z) := fun t => (t.h.cell (by omega)).trans pz
          clear p0 p3 p4 p5 pz V3
          refine region_lane [] [0, 1, 2, 3, 4, 5, 6, 7, 8, 9, 10, 11, 12, 13, 14, 15, 16, 17, 18, 19, 20, 21, 22, 23, 24] [25] (by kernel_rfl) (by kernel_rfl) (by intro _ _ _ _ _ h; exact h) ?_
          simp only [pick, List.map_cons, List.map_nil, List.getD_cons_zero, List.getD_cons_succ, List.drop_succ_cons, List.drop_zero]
          refine wpQuiet_nil ⟨rfl, ?_⟩
          refine laneO_run 25 (by kernel_rfl) ?_
          simp only [List.take_succ_cons, List.take_zero, List.drop_succ_cons, List.drop_zero]
          repeat (go_big_quiet_step (fail))
          refine wpQuiet_nil ?_
          refine laneO_end0 rfl rfl fun w4 hb0 => ?_
          clear P0 P3 P4 PZ
          have HB4 := Lib.hid (HB3.out.trans (hb0.mono hsz3))
          clear hb0 HB3
          go_wp2_with fail
          go_roundw
          case rel => exact ⟨k + 1, by omega, by rw [ER.out]; rfl, by rw [ER.out]; rfl, by rw [ER.out]; exact congrArg (Value.int .i64) EYY.out, by rw [ES.out]; simp, by go_num, HB4⟩
          case measure => simp [intOf]; omega
      · clear v1 v2 v3 v4 v5 v6 BD EZ2 TA2 PY p0 pz EA
        go_upto_region 11 with fail
        have Z3 : ∀ t : Later w3.heap.size w3, t.w.cell? ⟨(ad.add (k * 6)).block, (ad.add (k * 6)).off + 3, none⟩ = some (.int .i64 yp) := fun t => (t.h.cell (p := ⟨(ad.add (k * 6)).block, (ad.add (k * 6)).off + 3, none⟩) (by simp only; omega)).trans p3
        have Z4 : ∀ t : Later w3.heap.size w3, t.w.cell? ⟨(ad.add (k * 6)).block, (ad.add (k * 6)).off + 4, none⟩ = some (.int .i64 yq) := fun t => (t.h.cell (p := ⟨(ad.add (k * 6)).block, (ad.add (k * 6)).off + 4, none⟩) (by simp only; omega)).trans p4
        clear p3 p4 p5
        refine region_lane [] [0, 1, 2, 3, 4, 5, 6, 7, 16, 8, 9, 10, 11, 12, 13, 14, 15] [17] (by kernel_rfl) (by kernel_rfl) (by intro _ _ _ _ _ h; exact h) ?_
        simp only [pick, List.map_cons, List.map_nil, List.getD_cons_zero, List.getD_cons_succ, List.drop_succ_cons, List.drop_zero]
        refine wpQuiet_nil ⟨rfl, ?_⟩
        refine laneO_run 7 (by kernel_rfl) ?_
        simp only [List.take_succ_cons, List.take_zero, List.drop_succ_cons, List.drop_zero]
        repeat (go_big_quiet_step (fail))
        refine wpQuiet_nil ?_
        refine laneO_fixed (v := .int .i64 (max jp yp)) (by kernel_rfl) (fun w hw => .inl ⟨by rfl, ?_⟩) ?_
        focus (unfold gives; simp [go_sem, run_max_two]; exact Behind.refl w)
        simp only [Act.put, List.setIfInBounds_toArray, List.set_cons_zero, List.set_cons_succ]
        refine laneO_run 8 (by kernel_rfl) ?_
        simp only [List.take_succ_cons, List.take_zero, List.drop_succ_cons, List.drop_zero]
        repeat (go_big_quiet_step (fail))
        refine wpQuiet_nil ?_
        refine laneO_fixed (v := .int .i64 (min jq yq)) (by kernel_rfl) (fun w hw => .inl ⟨by rfl, ?_⟩) ?_
        focus (unfold gives; simp [go_sem, run_min_two]; exact Behind.refl w)
        simp only [Act.put, List.setIfInBounds_toArray, List.set_cons_zero, List.set_cons_succ]
        refine laneO_end0 rfl rfl fun w4 hb0 => ?_
        clear Z3 Z4
        have HB4 := Lib.hid (HB3.out.trans (hb0.mono hsz3))
        have HP : Hid (putS ⟨y, ⟨p, q⟩, a, ⟨sp, sq⟩⟩ ⟨h, ⟨xp, xq⟩, ⟨yp, yq⟩, true⟩ = ⟨y, ⟨max jp yp, min jq yq⟩, a, ⟨sp, sq⟩⟩) := Lib.hid (by rw [← HJP.out, ← HJQ.out]; rfl)
        rw [HP.out] at ER
        clear hb0 HB3 HJP HJQ HP V3
        go_wp2_with fail
        go_roundw
        case rel => exact ⟨k + 1, by omega, by rw [ER.out], by rw [ER.out], by rw [ER.out], by rw [ES.out]; simp, by go_num, HB4⟩
        case measure => simp [intOf]; omega
    · have hq : k = l.length := by omega
      subst hq
      have EA := Lib.hid (runS_a top l l.length (Nat.le_refl _))
      have OK := Lib.hid (take_ok HOK.out top l.length (Nat.le_refl _))
      have HX2 := Lib.hid (show endS (runS (startS top) (l.take l.length)) bottom = ⟨⟨tp, tq⟩, ⟨bp, bq⟩, th, hh⟩ by rw [List.take_length]; exact HX.out)
      clear HX HT HOK hlt hk
      generalize runS (startS top) (l.take l.length) = s at *
      generalize seenB (l.take l.length) = sn at *
      obtain ⟨y, ⟨p, q⟩, a, ⟨sp, sq⟩⟩ := s
      have BD := Lib.hid (show -9223372036854775808 ≤ y + p ∧ y + p < 9223372036854775808 ∧ -9223372036854775808 ≤ y + p + q ∧ y + p + q < 9223372036854775808 by
        obtain ⟨d1, d2, d3, d4, -, -, -, -, d9, d10, -⟩ := OK.out
        simp only at *
        omega)
      have V3 := Lib.hid (V2.out.under HB.out V2.out.size)
      have B3 := Lib.hid (B2.out.trans (HB.out.mono B2.out.size))
      have NR := Lib.hid (Whole.mk wr 25 #[.int .i64 p, .int .i64 q])
      have V4 := Lib.hid (V3.out.made (.cells #[.int .i64 p, .int .i64 q] 25))
      have B4 := Lib.hid (B3.out.alloc B3.out.size (.cells #[.int .i64 p, .int .i64 q] 25))
      clear V3 B3 HB V2 B2 R2 Y2 OK
      go_upto_region 21 with fail
      generalize wr.alloc _ = w4 at *
      generalize wr.heap.size = g4 at *
      have n0 : w4.cell? ⟨g4, 0, none⟩ = some (.int .i64 p) := NR.out.cell 0
      have n1 : w4.cell? ⟨g4, 1, none⟩ = some (.int .i64 q) := NR.out.cell 1
      have t0 : w4.cell? ⟨g2, 0, none⟩ = some (.int .i64 tp) := V4.out.cell 0
      have t1 : w4.cell? ⟨g2, 1, none⟩ = some (.int .i64 tq) := V4.out.cell 1
      have t2 : w4.cell? ⟨g2, 2, none⟩ = some (.int .i64 bp) := V4.out.cell 2
      have t3 : w4.cell? ⟨g2, 3, none⟩ = some (.int .i64 bq) := V4.out.cell 3
      have t4 : w4.cell? ⟨g2, 4, none⟩ = some (.bool th) := V4.out.cell 4
      have t5 : w4.cell? ⟨g2, 5, none⟩ = some (.int .i64 hh) := V4.out.cell 5
      clear NR V4
      obtain ⟨v1, v2, v3, v4⟩ := BD.out
      clear BD
      cases sn <;> cases top
      · skip
        have EAA : Hid (a = false) := Lib.hid EA.out
        rw [EAA.out] at HX2
        clear EA EAA
        cases bottom
        · skip
          obtain ⟨e0, e1, e2, e3, e4, e5⟩ : tp = sp ∧ tq = sq ∧ bp = 0 ∧ bq = 0 ∧ th = false ∧ hh = max (y + p + q) 0 := by
            have h := HX2.out
            unfold endS at h
            injection h with h1 h2 h3 h4
            injection h1 with h5 h6
            injection h2 with h7 h8
            exact ⟨h5.symm, h6.symm, h7.symm, h8.symm, h3.symm, by rw [← h4, Int.add_assoc]⟩
          rw [e0] at t0
          rw [e1] at t1
          rw [e2] at t2
          rw [e3] at t3
          rw [e4] at t4
          rw [e5] at t5
          clear e0 e1 e2 e3 e4 e5 HX2
          go_wp2_with fail
          refine (kawake_any _).mono ?_
          rintro e w5 ⟨rfl, hb⟩
          have B5 := Lib.hid (B4.out.trans (hb.mono B4.out.size))
          clear hb B4 t0 t1 t2 t3 t4 t5 n0 n1
          go_wp2_with fail
          go_ret
          exact ⟨rfl, B5.out⟩
        · skip
          obtain ⟨e0, e1, e2, e3, e4, e5⟩ : tp = sp ∧ tq = sq ∧ bp = p ∧ bq = q ∧ th = false ∧ hh = max y 0 := by
            have h := HX2.out
            unfold endS at h
            injection h with h1 h2 h3 h4
            injection h1 with h5 h6
            injection h2 with h7 h8
            exact ⟨h5.symm, h6.symm, h7.symm, h8.symm, h3.symm, h4.symm⟩
          rw [e0] at t0
          rw [e1] at t1
          rw [e2] at t2
          rw [e3] at t3
          rw [e4] at t4
          rw [e5] at t5
          clear e0 e1 e2 e3 e4 e5 HX2
          go_wp2_with fail
          refine (kawake_any _).mono ?_
          rintro e w5 ⟨rfl, hb⟩
          have B5 := Lib.hid (B4.out.trans (hb.mono B4.out.size))
          clear hb B4 t0 t1 t2 t3 t4 t5 n0 n1
          go_wp2_with fail
          go_ret
          exact ⟨rfl, B5.out⟩
      · skip
        have EAA : Hid (a = true) := Lib.hid EA.out
        rw [EAA.out] at HX2
        clear EA EAA
        obtain ⟨e0, e1, e2, e3, e4, e5⟩ : tp = p ∧ tq = q ∧ bp = 0 ∧ bq = 0 ∧ th = bottom ∧ hh = 0 := by
          have h := HX2.out
          unfold endS at h
          injection h with h1 h2 h3 h4
          injection h1 with h5 h6
          injection h2 with h7 h8
          exact ⟨h5.symm, h6.symm, h7.symm, h8.symm, h3.symm, h4.symm⟩
        rw [e0] at t0
        rw [e1] at t1
        rw [e2] at t2
        rw [e3] at t3
        rw [e4] at t4
        rw [e5] at t5
        clear e0 e1 e2 e3 e4 e5 HX2
        go_wp2_with fail
        refine (kawake_any _).mono ?_
        rintro e w5 ⟨rfl, hb⟩
        have B5 := Lib.hid (B4.out.trans (hb.mono B4.out.size))
        clear hb B4 t0 t1 t2 t3 t4 t5 n0 n1
        go_wp2_with fail
        go_ret
        exact ⟨rfl, B5.out⟩
      · skip
        have EAA : Hid (a = false) := Lib.hid EA.out
        rw [EAA.out] at HX2
        clear EA EAA
        cases bottom
        · skip
          obtain ⟨e0, e1, e2, e3, e4, e5⟩ : tp = sp ∧ tq = sq ∧ bp = 0 ∧ bq = 0 ∧ th = false ∧ hh = max (y + p + q) 0 := by
            have h := HX2.out
            unfold endS at h
            injection h with h1 h2 h3 h4
            injection h1 with h5 h6
            injection h2 with h7 h8
            exact ⟨h5.symm, h6.symm, h7.symm, h8.symm, h3.symm, by rw [← h4, Int.add_assoc]⟩
          rw [e0] at t0
          rw [e1] at t1
          rw [e2] at t2
          rw [e3] at t3
          rw [e4] at t4
          rw [e5] at t5
          clear e0 e1 e2 e3 e4 e5 HX2
          go_wp2_with fail
          refine (kawake_any _).mono ?_
          rintro e w5 ⟨rfl, hb⟩
          have B5 := Lib.hid (B4.out.trans (hb.mono B4.out.size))
          clear hb B4 t0 t1 t2 t3 t4 t5 n0 n1
          go_wp2_with fail
          go_ret
          exact ⟨rfl, B5.out⟩
        · skip
          obtain ⟨e0, e1, e2, e3, e4, e5⟩ : tp = sp ∧ tq = sq ∧ bp = p ∧ bq = q ∧ th = false ∧ hh = max y 0 := by
            have h := HX2.out
            unfold endS at h
            injection h with h1 h2 h3 h4
            injection h1 with h5 h6
            injection h2 with h7 h8
            exact ⟨h5.symm, h6.symm, h7.symm, h8.symm, h3.symm, h4.symm⟩
          rw [e0] at t0
          rw [e1] at t1
          rw [e2] at t2
          rw [e3] at t3
          rw [e4] at t4
          rw [e5] at t5
          clear e0 e1 e2 e3 e4 e5 HX2
          go_wp2_with fail
          refine (kawake_any _).mono ?_
          rintro e w5 ⟨rfl, hb⟩
          have B5 := Lib.hid (B4.out.trans (hb.mono B4.out.size))
          clear hb B4 t0 t1 t2 t3 t4 t5 n0 n1
          go_wp2_with fail
          go_ret
          exact ⟨rfl, B5.out⟩
      · skip
        have EAA : Hid (a = false) := Lib.hid EA.out
        rw [EAA.out] at HX2
        clear EA EAA
        cases bottom
        · skip
          obtain ⟨e0, e1, e2, e3, e4, e5⟩ : tp = sp ∧ tq = sq ∧ bp = 0 ∧ bq = 0 ∧ th = false ∧ hh = max (y + p + q) 0 := by
            have h := HX2.out
            unfold endS at h
            injection h with h1 h2 h3 h4
            injection h1 with h5 h6
            injection h2 with h7 h8
            exact ⟨h5.symm, h6.symm, h7.symm, h8.symm, h3.symm, by rw [← h4, Int.add_assoc]⟩
          rw [e0] at t0
          rw [e1] at t1
          rw [e2] at t2
          rw [e3] at t3
          rw [e4] at t4
          rw [e5] at t5
          clear e0 e1 e2 e3 e4 e5 HX2
          go_wp2_with fail
          refine (kawake_any _).mono ?_
          rintro e w5 ⟨rfl, hb⟩
          have B5 := Lib.hid (B4.out.trans (hb.mono B4.out.size))
          clear hb B4 t0 t1 t2 t3 t4 t5 n0 n1
          go_wp2_with fail
          go_ret
          exact ⟨rfl, B5.out⟩
        · skip
          obtain ⟨e0, e1, e2, e3, e4, e5⟩ : tp = sp ∧ tq = sq ∧ bp = p ∧ bq = q ∧ th = false ∧ hh = max y 0 := by
            have h := HX2.out
            unfold endS at h
            injection h with h1 h2 h3 h4
            injection h1 with h5 h6
            injection h2 with h7 h8
            exact ⟨h5.symm, h6.symm, h7.symm, h8.symm, h3.symm, h4.symm⟩
          rw [e0] at t0
          rw [e1] at t1
          rw [e2] at t2
          rw [e3] at t3
          rw [e4] at t4
          rw [e5] at t5
          clear e0 e1 e2 e3 e4 e5 HX2
          go_wp2_with fail
          refine (kawake_any _).mono ?_
          rintro e w5 ⟨rfl, hb⟩
          have B5 := Lib.hid (B4.out.trans (hb.mono B4.out.size))
          clear hb B4 t0 t1 t2 t3 t4 t5 n0 n1
          go_wp2_with fail
          go_ret
          exact ⟨rfl, B5.out⟩
end Go.Proofs.Ytnhhalhaefeoeaa
