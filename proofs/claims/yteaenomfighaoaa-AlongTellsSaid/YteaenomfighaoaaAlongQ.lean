import Derived.Test.YteaenomfighaoaaAlSpreadQ
import Derived.Test.YteaenomfighaoaaTotHeldQ
/- along.Place: where each one's border box begins. -/
namespace Go.Proofs.Yteaenomfighaoaa
open Go Go.RowKit
set_option linter.unusedVariables false
set_option linter.unusedSimpArgs false
set_option maxRecDepth 20000
set_option maxHeartbeats 4000000

/-- Where the line stands, its gaps, its answers. -/
structure AlS (W w : World) (N n ga gg gb : Nat) (a : Int) (gs : List Int) (ps : List Value) : Prop where
  v : SumV w ga a
  gap : RowG w W.heap.size 2 gg N (i64s gs)
  beg : RowG w W.heap.size 2 gb n ps
  low : Below W.heap.size W w
  n0 : W.heap.size ≤ gg
  n1 : gg < ga
  n2 : ga < gb
section
variable {W w w' : World} {N n ga gg gb : Nat} {a : Int} {gs : List Int} {ps : List Value}
theorem AlS.size (h : AlS W w N n ga gg gb a gs ps) : gb < w.heap.size := (rowG_lt h.beg).2
theorem AlS.under (h : AlS W w N n ga gg gb a gs ps) (hb : Below w.heap.size w w') : AlS W w' N n ga gg gb a gs ps :=
  ⟨h.v.under hb h.v.size, own_below h.gap hb (Nat.le_refl _), own_below h.beg hb (Nat.le_refl _), h.low.trans (hb.mono h.low.size), h.n0, h.n1, h.n2⟩
theorem AlS.setV (h : AlS W w N n ga gg gb a gs ps) (c : Int) : AlS W ((w.setCell ⟨ga, 0, none⟩ (.int .i64 (tH c))).setCell ⟨ga, 1, none⟩ (.int .u64 (tL c))) N n ga gg gb c gs ps := by
  have n0 := h.n0
  have n1 := h.n1
  have n2 := h.n2
  exact ⟨(h.v.put 0 _).put 1 _, rowG_off (rowG_off h.gap (by omega) _ _) (by omega) _ _, rowG_off (rowG_off h.beg (by omega) _ _) (by omega) _ _, (h.low.setCell (p := ⟨ga, 0, none⟩) (by simp; omega) _).setCell (p := ⟨ga, 1, none⟩) (by simp; omega) _, n0, n1, n2⟩
theorem AlS.put (h : AlS W w N n ga gg gb a gs ps) (j : Nat) (u : Value) : AlS W (w.setCell ⟨gb, j, none⟩ u) N n ga gg gb a gs (ps.set j u) := by
  have n0 := h.n0
  have n1 := h.n1
  have n2 := h.n2
  exact ⟨h.v.other (p := ⟨gb, j, none⟩) (by simp; omega) _, rowG_off h.gap (by omega) _ _, rowG_put h.beg _ _, h.low.setCell (p := ⟨gb, j, none⟩) (by simp; omega) _, n0, n1, n2⟩
theorem AlS.other (h : AlS W w N n ga gg gb a gs ps) {p : Nat} (hp : gb < p) (j : Nat) (u : Value) : AlS W (w.setCell ⟨p, j, none⟩ u) N n ga gg gb a gs ps := by
  have n0 := h.n0
  have n1 := h.n1
  have n2 := h.n2
  exact ⟨h.v.other (p := ⟨p, j, none⟩) (by simp; omega) _, rowG_off h.gap (by omega) _ _, rowG_off h.beg (by omega) _ _, h.low.setCell (p := ⟨p, j, none⟩) (by simp; omega) _, n0, n1, n2⟩
end
theorem of_made1 (x : Int) (hx : I64 x) (w : World) (v : Value) (h : madeT 1 2 [.int .i64 x] v w) :
    Calls Try.prog 17 #[v] w fun e w' => e = .returned (totV x) ∧ Below w.heap.size w w' := by
  obtain ⟨g, rfl, hg⟩ := h
  exact of_one1 x hx g w hg
theorem along_any (l : List Al) (A : Option Addr) (c : Nat) (inner j : Int) (rev : Bool) (W : World) (hR : Row W W.heap.size A (l.flatMap alC)) (hok : ∀ x ∈ l, AlOk x) (hl5 : l.length ≤ 100) (hi : -35184372088832 ≤ inner ∧ inner ≤ 35184372088832) :
    Calls Try.prog 8 #[.slice A l.length c, .int .i64 inner, .int .i64 j, .bool rev] W (AlPost inner l j rev W) := by
  have HR := Lib.hid hR
  have HOK := Lib.hid hok
  have FB := freeA_bd hok hl5 hi
  have PB := Lib.hid (fun k (hk : k < l.length) => posA_bd (f := freeA inner l) (j := j) hok hl5 (by omega) hk)
  have SP := Lib.hid (spread_any l A c inner j W hR hok hl5 hi)
  have PA := Lib.hid (fun k (hk : k < l.length) => placeA_get inner l j rev hk)
  have PLN := Lib.hid (placeA_len inner l j rev)
  have AZ := Lib.hid (atA_zero (freeA inner l) l j)
  have AS := Lib.hid (fun k (hk : k < l.length) => atA_succ (freeA inner l) l j hk)
  have G1 := Lib.hid (fun k (hk : k < l.length) => (gapR_get (freeA inner l) l j (t := 2 * k) (by omega)).trans (by rw [gapT_1 _ l j hk]))
  have G2 := Lib.hid (fun k (hk : k < l.length) => (gapR_get (freeA inner l) l j (t := 2 * k + 1) (by omega)).trans (by rw [gapT_2 _ l j hk]))
  have PD := Lib.hid (fun k (hk : k < l.length) => (by unfold posA; rw [getA Al.b 0 hk] : posA (freeA inner l) l j k = atA (freeA inner l) l j k + gap1 (freeA inner l) l j k + l[k].b))
  unfold AlPost
  obtain ⟨f, hf⟩ : ∃ f, freeA inner l = f := ⟨_, rfl⟩
  rw [hf] at PB SP AZ AS G1 G2 FB PD
  have HF := Lib.hid hf
  clear hf hok hR
  obtain ⟨P, hP⟩ : ∃ P, placeA inner l j rev = P := ⟨_, rfl⟩
  have PA2 : Hid (∀ k (hk : k < l.length), P.getD k 0 = if rev then inner - posA f l j k - l[k].s else posA f l j k) := Lib.hid (fun k hk => by
    have h := PA.out k hk
    rw [HF.out] at h
    rw [← h]
    subst hP
    simp [List.getD, PLN.out, hk])
  rw [hP] at PLN ⊢
  clear PA hP
  obtain ⟨n, hn⟩ : ∃ n, l.length = n := ⟨_, rfl⟩
  have HL := Lib.hid hn
  rw [hn] at SP hl5 PLN ⊢
  clear hn
  obtain ⟨N, hN⟩ : ∃ N : Nat, 2 * n = N := ⟨_, rfl⟩
  have hN2 : N ≤ 200 ∧ N ≤ 2 * n ∧ 2 * n ≤ N := by omega
  rw [hN] at SP
  clear hN
  obtain ⟨gs, hgs⟩ : ∃ gs, gapR f l j = gs := ⟨_, rfl⟩
  rw [hgs] at SP G1 G2
  clear hgs
  obtain ⟨i0, hi0, hz0, hz1, hz2⟩ := info_parts (show (Try.prog.info? 2).map (fun i => (i.zero, i.size, i.bytes)) = some (some (.int .i64 0), 1, 8) from by kernel_rfl)
  have OI := Lib.hid (fun v w h => of_made1 inner (i64_sm (by omega) (by omega)) w v h)
  go_enter Try.func8, Try.ntmps8
  go_wp2_with fail
  refine SP.out.mono ?_
  rintro e w1 ⟨gg, rfl, r1, b1⟩
  have S1 := Lib.hid r1
  have B1 := Lib.hid b1
  have lg1 := rowG_lt r1
  clear r1 b1 SP
  go_upto_region 2 with fail
  have V2 := Lib.hid (Whole.mk w1 36 #[.int .i64 (tH (startA f l j)), .int .u64 (tL (startA f l j))])
  have S2 := Lib.hid (own_below S1.out ((Below.refl _ w1).alloc (Nat.le_refl _) (.cells #[.int .i64 (tH (startA f l j)), .int .u64 (tL (startA f l j))] 36)) (Nat.le_refl _))
  have B2 := Lib.hid (B1.out.alloc B1.out.size (.cells #[.int .i64 (tH (startA f l j)), .int .u64 (tL (startA f l j))] 36))
  clear S1 B1
  generalize w1.alloc _ = w2 at *
  obtain ⟨ga, hga⟩ : ∃ g, w1.heap.size = g := ⟨_, rfl⟩
  rw [hga] at V2 lg1 ⊢
  clear hga
  go_upto_region 3 with (at_make; refine wpList_make_full _ rfl _ _ 24 rfl w2.heap.size 2 i0 (.int .i64 0) 1 Try.underlying24 hi0 hz0 hz1 .i64 .i64 _ _ n rfl rfl rfl rfl (by rw [hz2]; omega) (by unfold maxLen; omega) (Nat.le_refl _) ?_; intro w3 q1 q2; have O1 := Lib.hid q1; have G3 := Lib.hid (Only.of_grown q2); clear q1 q2)
  clear hi0 hz0 hz1 hz2
  have BB := Lib.hid (G3.out.below (B := w2.heap.size) (by simp) (Nat.le_refl _))
  have S3 : Hid (AlS W w3 N n ga gg w2.heap.size (atA f l j 0) gs (mixL (i64s P) (noneV n) 0)) := Lib.hid (by
    have e1 : (madeCells (Value.int .i64 0).cells (n * 1)).toList = List.replicate n (Value.int .i64 0) := by rw [Nat.mul_one]; exact toList_madeCells_one _ _
    have o := O1.out
    rw [e1] at o
    rw [AZ.out, mixL_zero]
    exact ⟨V2.out.under BB.out V2.out.size, own_below S2.out BB.out (Nat.le_refl _), own_raise o fun g hg => Nat.le_trans B2.out.size (own_low o g hg), B2.out.trans (BB.out.mono B2.out.size), lg1.1, lg1.2, V2.out.size⟩)
  clear O1 G3 BB V2 S2 B2 lg1 AZ
  obtain ⟨gb, hgb⟩ : ∃ g, w2.heap.size = g := ⟨_, rfl⟩
  rw [hgb] at S3 ⊢
  clear hgb
  have HLP : Hid ((i64s P).length = (noneV n).length) := Lib.hid (by rw [i64s_length, PLN.out, noneV_len])
  go_wp2_with fail
  go_loopw [29] (fun v29 wr => ∃ k : Nat, v29 = .int .i64 k ∧ k ≤ n ∧ Hid (AlS W wr N n ga gg gb (atA f l j k) gs (mixL (i64s P) (noneV n) k))) (fun v29 _ => n - (intOf v29).toNat)
  case atStart => exact ⟨0, rfl, Nat.zero_le _, S3⟩
  case round =>
    clear S3
    obtain ⟨k, rfl, hk, S4⟩ := hrel
    generalize wr = w4 at *
    by_cases hlt : k < n
    · have hltz : (k : Int) < n := by omega
      have hkl : k < l.length := by rw [HL.out]; exact hlt
      obtain ⟨a1, rfl, hab1, d0, d1, d2, d3, d4⟩ := Row.al (HR.out.below S4.out.low) hkl
      have hx := HOK.out _ (List.getElem_mem hkl)
      have PK := PB.out k hkl
      have PDk := Lib.hid (PD.out k hkl)
      have ASk := Lib.hid (AS.out k hkl)
      have G1k := Lib.hid (G1.out k hkl)
      have G2k := Lib.hid (G2.out k hkl)
      have PAk := Lib.hid (PA2.out k hkl)
      obtain ⟨x, hxe⟩ : ∃ x, l[k] = x := ⟨_, rfl⟩
      rw [hxe] at d0 d1 d2 d3 d4 hx PDk ASk PAk
      clear hxe
      have MA := Lib.hid (margins_any (a1.add (k * 5)) x hx.zb hx.za w4 d0 d1 d3 d4)
      obtain ⟨⟨b0, b1⟩, ⟨a0, a9⟩, s0, s1⟩ := (show ((-1099511627776 ≤ x.b ∧ x.b ≤ 1099511627776) ∧ (-1099511627776 ≤ x.a ∧ x.a ≤ 1099511627776) ∧ 0 ≤ x.s ∧ x.s ≤ 1099511627776) from ⟨⟨hx.b0, hx.b1⟩, ⟨hx.a0, hx.a1⟩, hx.s0, hx.s1⟩)
      clear hx
      obtain ⟨mb, hmb⟩ : ∃ m, x.b = m := ⟨_, rfl⟩
      obtain ⟨ms, hms⟩ : ∃ m, x.s = m := ⟨_, rfl⟩
      obtain ⟨ma, hma⟩ : ∃ m, x.a = m := ⟨_, rfl⟩
      rw [hmb] at MA PDk b0 b1
      rw [hms] at ASk d2 PAk s0 s1
      rw [hma] at ASk MA a0 a9
      clear hmb hms hma d0 d1 d3 d4
      obtain ⟨⟨t0, t1⟩, ⟨g0, g1⟩, ⟨g2, g3⟩, p0, p1⟩ := (show ((-1100000000000000 ≤ atA f l j k ∧ atA f l j k ≤ 1100000000000000) ∧ (0 ≤ gap1 f l j k ∧ gap1 f l j k ≤ 365037860421632) ∧ (0 ≤ gap2 f l j k ∧ gap2 f l j k ≤ 365037860421632) ∧ -2000000000000000 ≤ posA f l j k ∧ posA f l j k ≤ 2000000000000000) from ⟨⟨PK.at0, PK.at1⟩, ⟨PK.g10, PK.g11⟩, ⟨PK.g20, PK.g21⟩, PK.p0, PK.p1⟩)
      clear PK
      obtain ⟨at_, hat⟩ : ∃ a, atA f l j k = a := ⟨_, rfl⟩
      obtain ⟨u1, hu1⟩ : ∃ a, gap1 f l j k = a := ⟨_, rfl⟩
      obtain ⟨u2, hu2⟩ : ∃ a, gap2 f l j k = a := ⟨_, rfl⟩
      obtain ⟨ps, hps⟩ : ∃ a, posA f l j k = a := ⟨_, rfl⟩
      rw [hat] at t0 t1 S4 PDk
      rw [hu1] at g0 g1 G1k PDk
      rw [hu2] at g2 g3 G2k ASk
      rw [hps] at p0 p1 PDk ASk PAk
      clear hat hu1 hu2 hps
      have e1 : at_ + u1 + mb = ps := PDk.out.symm
      have Q1 := Lib.hid (fun w => plus_any at_ u1 (tot_sm (by omega) (by omega)) (i64_sm (by omega) (by omega)) w)
      have Q2 := Lib.hid (fun w => plus_any (at_ + u1) mb (tot_sm (by omega) (by omega)) (i64_sm (by omega) (by omega)) w)
      have Q3 := Lib.hid (fun w => plus_any ps ms (tot_sm (by omega) (by omega)) (i64_sm (by omega) (by omega)) w)
      have Q4 := Lib.hid (fun w => plus_any (ps + ms) ma (tot_sm (by omega) (by omega)) (i64_sm (by omega) (by omega)) w)
      have Q5 := Lib.hid (fun w => plus_any (ps + ms + ma) u2 (tot_sm (by omega) (by omega)) (i64_sm (by omega) (by omega)) w)
      have Q6 := Lib.hid (fun w => minus_any inner (ps + ms) (tot_sm (by omega) (by omega)) (tot_sm (by omega) (by omega)) w)
      have H1 := Lib.hid (fun w => held_any ps (i64_sm (by omega) (by omega)) w)
      have H2 := Lib.hid (fun w => held_any (inner - (ps + ms)) (i64_sm (by omega) (by omega)) w)
      rw [e1] at Q2
      have AH := Lib.hid (fun w => ahead_any k (by omega) w)
      have BH := Lib.hid (fun w => behind_any k (by omega) w)
      obtain ⟨ka, hka⟩ : ∃ m, 2 * k = m := ⟨_, rfl⟩
      obtain ⟨kb, hkb⟩ : ∃ m, 2 * k + 1 = m := ⟨_, rfl⟩
      have hkab : ka < N ∧ kb < N := by omega
      rw [hka] at AH G1k
      rw [hkb] at BH G2k
      have hkz : (ka : Int) < N ∧ (kb : Int) < N := by omega
      clear hka hkb b0 b1 s0 s1 a0 a9 t0 t1 g0 g1 g2 g3 p0 p1 e1 PDk
      have hsz := S4.out.low.size
      go_wp2_with fail
      refine MA.out.mono ?_
      rintro e w5 ⟨rfl, hb⟩
      have S5 := Lib.hid (S4.out.under hb)
      have D2 : Hid (w5.cell? ⟨(a1.add (k * 5)).block, (a1.add (k * 5)).off + 2, none⟩ = some (.int .i64 ms)) := Lib.hid ((hb.cell (p := ⟨(a1.add (k * 5)).block, (a1.add (k * 5)).off + 2, none⟩) (by rw [add_block]; omega)).trans d2)
      have hab5 : a1.block < w5.heap.size := Nat.lt_of_lt_of_le hab1 (Nat.le_trans hsz hb.size)
      clear hb S4 MA d2 hsz
      go_upto_region 7 with fail
      have hgl := S5.out.size
      have YS := Lib.hid (fun w (hw : Behind w5 w) => (S5.out.under hw).v)
      have yg : ∀ t : Later w5.heap.size w5, t.w.cell? ⟨gg, ka, none⟩ = some (.int .i64 u1) := fun t => rowG_cell (S5.out.under t.h).gap hkab.1 G1k.out
      refine region_lane [] [0, 1, 2, 3, 4, 5, 6, 7, 8, 9] [10] (by kernel_rfl) (by kernel_rfl) (fun _ _ _ _ _ h => h) ?_
      simp only [pick, List.map_nil]
      refine wpQuiet_nil ⟨rfl, ?_⟩
      simp only [List.map_cons, List.map_nil, List.getD_cons_zero, List.getD_cons_succ, List.drop_succ_cons, List.drop_zero]
      refine laneO_fixed (v := totV (at_)) (by kernel_rfl) (fun w hw => .inl ⟨by rfl, cells_gives sum_flatA (.tmp 9) rfl ga rfl [.int .i64 (tH (at_)), .int .u64 (tL (at_))] rfl 36 (YS.out w hw)⟩) ?_
      simp only [Act.put, List.setIfInBounds_toArray, List.set_cons_zero, List.set_cons_succ]
      refine laneO_run 2 (by kernel_rfl) ?_
      simp only [List.take_succ_cons, List.take_zero, List.drop_succ_cons, List.drop_zero]
      repeat (go_big_quiet_step (fail))
      refine wpQuiet_nil ?_
      refine laneO_call (v := (.int .i64 (ka : Int))) (by kernel_rfl) (by rfl) (fun C hC h0 => ?_) ?_
      focus (go_big_quiet_op; exact ⟨_, fun w hw => (AH.out w).mono fun e w' ⟨he, hb⟩ => ⟨he, hb ▸ hw⟩, rfl⟩)
      simp only [Act.put, List.setIfInBounds_toArray, List.set_cons_zero, List.set_cons_succ]
      refine laneO_run 2 (by kernel_rfl) ?_
      simp only [List.take_succ_cons, List.take_zero, List.drop_succ_cons, List.drop_zero]
      repeat (go_big_quiet_step (fail))
      refine wpQuiet_nil ?_
      refine laneO_call (v := totV (at_ + u1)) (by kernel_rfl) (by rfl) (fun C hC h0 => ?_) ?_
      focus (go_big_quiet_op; exact ⟨_, fun w hw => (Q1.out w).mono fun e w' ⟨he, hb⟩ => ⟨he, hC _ _ hw hb⟩, rfl⟩)
      simp only [Act.put, List.setIfInBounds_toArray, List.set_cons_zero, List.set_cons_succ]
      refine laneO_run 1 (by kernel_rfl) ?_
      simp only [List.take_succ_cons, List.take_zero, List.drop_succ_cons, List.drop_zero]
      repeat (go_big_quiet_step (fail))
      refine wpQuiet_nil ?_
      refine laneO_call (v := totV ps) (by kernel_rfl) (by rfl) (fun C hC h0 => ?_) ?_
      focus (go_big_quiet_op; exact ⟨_, fun w hw => (Q2.out w).mono fun e w' ⟨he, hb⟩ => ⟨he, hC _ _ hw hb⟩, rfl⟩)
      simp only [Act.put, List.setIfInBounds_toArray, List.set_cons_zero, List.set_cons_succ]
      refine laneO_told (newT w5.heap.size 36 [.int .i64 0, .int .u64 0]) (newT_steady _ _ _) (by kernel_rfl) rfl (fun w hw => .inl ⟨by rfl, ?_⟩) ?_
      focus (unfold gives; simp [go_sem]; exact newT_new w5.heap.size 36 #[.int .i64 0, .int .u64 0] w hw.size)
      refine laneO_end (by simp) (by rfl) rfl rfl fun w6 hb0 => ?_
      rintro x1 ⟨gp, rfl, hgp, hV⟩
      simp only [fillAll, Act.put, List.setIfInBounds_toArray, List.set_cons_zero, List.set_cons_succ]
      have S6 := Lib.hid (S5.out.under hb0)
      have hgp2 : gb < gp := Nat.lt_of_lt_of_le hgl hgp
      have e0 := hV.cell 0
      have e1 := hV.cell 1
      simp only [List.getElem?_cons_zero, List.getElem?_cons_succ] at e0 e1
      have f0 := hV.free 0
      have f1 := hV.free 1
      have V7 : Hid (SumV ((w6.setCell ⟨gp, 0, none⟩ (.int .i64 (tH ps))).setCell ⟨gp, 1, none⟩ (.int .u64 (tL ps))) gp ps) := Lib.hid ((hV.put 0 _).put 1 _)
      have S7 := Lib.hid ((S6.out.other hgp2 0 (.int .i64 (tH ps))).other hgp2 1 (.int .u64 (tL ps)))
      have D3 : Hid (((w6.setCell ⟨gp, 0, none⟩ (.int .i64 (tH ps))).setCell ⟨gp, 1, none⟩ (.int .u64 (tL ps))).cell? ⟨(a1.add (k * 5)).block, (a1.add (k * 5)).off + 2, none⟩ = some (.int .i64 ms)) := Lib.hid (by
        have h := (hb0.cell (p := ⟨(a1.add (k * 5)).block, (a1.add (k * 5)).off + 2, none⟩) (by rw [add_block]; exact hab5)).trans D2.out
        have hne : (a1.add (k * 5)).block ≠ gp := by rw [add_block]; omega
        have k1 := World.cell?_of_block (a := ⟨(a1.add (k * 5)).block, (a1.add (k * 5)).off + 2, none⟩) (w := w6) (Below.heap_setCell w6 ⟨gp, 0, none⟩ (.int .i64 (tH ps)) (a1.add (k * 5)).block hne)
        have k2 := World.cell?_of_block (a := ⟨(a1.add (k * 5)).block, (a1.add (k * 5)).off + 2, none⟩) (w := w6.setCell ⟨gp, 0, none⟩ (.int .i64 (tH ps))) (Below.heap_setCell (w6.setCell ⟨gp, 0, none⟩ (.int .i64 (tH ps))) ⟨gp, 1, none⟩ (.int .u64 (tL ps)) (a1.add (k * 5)).block hne)
        exact k2.trans (k1.trans h))
      have hab6 : a1.block < ((w6.setCell ⟨gp, 0, none⟩ (.int .i64 (tH ps))).setCell ⟨gp, 1, none⟩ (.int .u64 (tL ps))).heap.size := by
        rw [World.size_setCell, World.size_setCell]; exact Nat.lt_of_lt_of_le hab5 hb0.size
      clear hb0 S5 YS yg Q1 Q2 AH D2 hab5 hgp
      go_upto_region 8 with fail
      clear e0 e1 f0 f1 S6 hV hgl
      generalize (w6.setCell _ _).setCell _ _ = w7 at *
      have hgl := V7.out.size
      have YV := Lib.hid (fun w (hw : Behind w7 w) => V7.out.under hw V7.out.size)
      have d2 : ∀ t : Later w7.heap.size w7, t.w.cell? ⟨(a1.add (k * 5)).block, (a1.add (k * 5)).off + 2, none⟩ = some (.int .i64 ms) := fun t => (t.h.cell (p := ⟨(a1.add (k * 5)).block, (a1.add (k * 5)).off + 2, none⟩) (by rw [add_block]; exact hab6)).trans D3.out
      refine region_lane [] [0, 1, 2, 3, 4, 5, 6, 7] [8] (by kernel_rfl) (by kernel_rfl) (fun _ _ _ _ _ h => h) ?_
      simp only [pick, List.map_nil]
      refine wpQuiet_nil ⟨rfl, ?_⟩
      simp only [List.map_cons, List.map_nil, List.getD_cons_zero, List.getD_cons_succ, List.drop_succ_cons, List.drop_zero]
      refine laneO_fixed (v := totV (ps)) (by kernel_rfl) (fun w hw => .inl ⟨by rfl, cells_gives sum_flatA (.tmp 15) rfl gp rfl [.int .i64 (tH (ps)), .int .u64 (tL (ps))] rfl 36 (YV.out w hw)⟩) ?_
      simp only [Act.put, List.setIfInBounds_toArray, List.set_cons_zero, List.set_cons_succ]
      refine laneO_run 5 (by kernel_rfl) ?_
      simp only [List.take_succ_cons, List.take_zero, List.drop_succ_cons, List.drop_zero]
      repeat (go_big_quiet_step (fail))
      refine wpQuiet_nil ?_
      refine laneO_call (v := totV (ps + ms)) (by kernel_rfl) (by rfl) (fun C hC h0 => ?_) ?_
      focus (go_big_quiet_op; exact ⟨_, fun w hw => (Q3.out w).mono fun e w' ⟨he, hb⟩ => ⟨he, hC _ _ hw hb⟩, rfl⟩)
      simp only [Act.put, List.setIfInBounds_toArray, List.set_cons_zero, List.set_cons_succ]
      refine laneO_told (newT w7.heap.size 36 [.int .i64 0, .int .u64 0]) (newT_steady _ _ _) (by kernel_rfl) rfl (fun w hw => .inl ⟨by rfl, ?_⟩) ?_
      focus (unfold gives; simp [go_sem]; exact newT_new w7.heap.size 36 #[.int .i64 0, .int .u64 0] w hw.size)
      refine laneO_end (by simp) (by rfl) rfl rfl fun w8 hb0 => ?_
      rintro x1 ⟨gt, rfl, hgt, hV⟩
      simp only [fillAll, Act.put, List.setIfInBounds_toArray, List.set_cons_zero, List.set_cons_succ]
      have S8 := Lib.hid (S7.out.under hb0)
      have V8 := Lib.hid (V7.out.under hb0 V7.out.size)
      have hgt2 : gb < gt := by have := S7.out.size; omega
      have hpt : gp ≠ gt := by have := V7.out.size; omega
      have e0 := hV.cell 0
      have e1 := hV.cell 1
      simp only [List.getElem?_cons_zero, List.getElem?_cons_succ] at e0 e1
      have f0 := hV.free 0
      have f1 := hV.free 1
      have T9 : Hid (SumV ((w8.setCell ⟨gt, 0, none⟩ (.int .i64 (tH (ps + ms)))).setCell ⟨gt, 1, none⟩ (.int .u64 (tL (ps + ms)))) gt (ps + ms)) := Lib.hid ((hV.put 0 _).put 1 _)
      have S9 := Lib.hid ((S8.out.other hgt2 0 (.int .i64 (tH (ps + ms)))).other hgt2 1 (.int .u64 (tL (ps + ms))))
      have V9 := Lib.hid ((V8.out.other (p := ⟨gt, 0, none⟩) hpt (.int .i64 (tH (ps + ms)))).other (p := ⟨gt, 1, none⟩) hpt (.int .u64 (tL (ps + ms))))
      clear hb0 S7 V7 YV d2 D3 hab6 Q3 hgt hpt
      go_upto_region 9 with fail
      clear e0 e1 f0 f1 S8 V8 hV hgl
      generalize (w8.setCell _ _).setCell _ _ = w9 at *
      have v0 := V9.out.cell 0
      have v1 := V9.out.cell 1
      simp only [List.getElem?_cons_zero, List.getElem?_cons_succ] at v0 v1
      go_wp2_with fail
      refine (H1.out _).mono ?_
      rintro e w10 ⟨rfl, hb⟩
      have S10 := Lib.hid (S9.out.under hb)
      have T10 := Lib.hid (T9.out.under hb T9.out.size)
      clear hb S9 V9 T9 H1 v0 v1
      have hkB : k < (noneV n).length := by rw [noneV_len]; exact hlt
      have hkA : k < (i64s P).length := by rw [HLP.out]; exact hkB
      have cb := rowG_cell S10.out.beg hlt (mixL_get HLP.out hkB)
      have fb := S10.out.beg.frozenAt k
      have S11 := Lib.hid (S10.out.put k (.int .i64 ps))
      have T11 := Lib.hid (T10.out.other (p := ⟨gb, k, none⟩) (by show gt ≠ gb; omega) (.int .i64 ps))
      go_upto_if 60 with fail
      clear S10 T10 cb fb
      generalize w10.setCell _ _ = w11 at *
      have MS : Hid ((mixL (i64s P) (noneV n) k).set k (.int .i64 (P.getD k 0)) = mixL (i64s P) (noneV n) (k + 1)) := Lib.hid (by
        have h := mixL_set HLP.out hkB
        have e : (i64s P)[k] = .int .i64 (P.getD k 0) := by
          have : k < P.length := by rw [PLN.out]; exact hlt
          simp [i64s, List.getD, this]
        rwa [e] at h)
      obtain ⟨B, hB⟩ : ∃ B, mixL (i64s P) (noneV n) k = B := ⟨_, rfl⟩
      have hBk : B.length = n := by rw [← hB, mixL_len HLP.out (by rw [noneV_len]; omega), noneV_len]
      rw [hB] at S11 MS
      clear hB hkA hkB
      have HBK := Lib.hid hBk
      clear hBk
      go_cut [] from 61 to 69 (fun wx => Hid (AlS W wx N n ga gg gb at_ gs (mixL (i64s P) (noneV n) (k + 1))) ∧ Hid (SumV wx gt (ps + ms)))
      case first =>
        cases rev with
        | false =>
          have E : Hid (P.getD k 0 = ps) := Lib.hid (PAk.out.trans (by rw [if_neg (by simp)]))
          rw [E.out] at MS
          rw [MS.out] at S11
          go_wp2_with fail
          go_meet
          exact ⟨S11, T11⟩
        | true =>
          have E : Hid (P.getD k 0 = inner - (ps + ms)) := Lib.hid (PAk.out.trans (by rw [if_pos rfl]; omega))
          rw [E.out] at MS
          go_upto_region 11 with fail
          have YT := Lib.hid (fun w (hw : Behind w11 w) => T11.out.under hw T11.out.size)
          refine region_lane [] [0, 1, 2, 3, 4, 5, 6, 7, 8] [9] (by kernel_rfl) (by kernel_rfl) (fun _ _ _ _ _ h => h) ?_
          simp only [pick, List.map_nil]
          refine wpQuiet_nil ⟨rfl, ?_⟩
          simp only [List.map_cons, List.map_nil, List.getD_cons_zero, List.getD_cons_succ, List.drop_succ_cons, List.drop_zero]
          refine laneO_run 3 (by kernel_rfl) ?_
          simp only [List.take_succ_cons, List.take_zero, List.drop_succ_cons, List.drop_zero]
          repeat (go_big_quiet_step (fail))
          refine wpQuiet_nil ?_
          refine laneO_told (madeT 1 2 [.int .i64 inner]) (madeT_steady _ _ _) (by kernel_rfl) rfl (fun w hw => .inl ⟨by rfl, ?_⟩) ?_
          focus (unfold gives; simp [go_sem]; exact madeT_new 1 2 #[.int .i64 inner] w)
          refine laneO_useCall (v := totV inner) rfl rfl (of_decide_eq_true (by rfl)) rfl (by rfl) (by rfl) rfl Try.func17 (by kernel_rfl) rfl (fun x w hw hx => OI.out x w hx) ?_
          simp only [Act.put, List.setIfInBounds_toArray, List.set_cons_zero, List.set_cons_succ]
          refine laneO_fixed (v := totV (ps + ms)) (by kernel_rfl) (fun w hw => .inl ⟨by rfl, cells_gives sum_flatA (.tmp 16) rfl gt rfl [.int .i64 (tH (ps + ms)), .int .u64 (tL (ps + ms))] rfl 36 (YT.out w hw)⟩) ?_
          simp only [Act.put, List.setIfInBounds_toArray, List.set_cons_zero, List.set_cons_succ]
          refine laneO_call (v := totV (inner - (ps + ms))) (by kernel_rfl) (by rfl) (fun C hC h0 => ?_) ?_
          focus (go_big_quiet_op; exact ⟨_, fun w hw => (Q6.out w).mono fun e w' ⟨he, hb⟩ => ⟨he, hC _ _ hw hb⟩, rfl⟩)
          simp only [Act.put, List.setIfInBounds_toArray, List.set_cons_zero, List.set_cons_succ]
          refine laneO_call (v := (.int .i64 (inner - (ps + ms)))) (by kernel_rfl) (by rfl) (fun C hC h0 => ?_) ?_
          focus (go_big_quiet_op; exact ⟨_, fun w hw => (H2.out w).mono fun e w' ⟨he, hb⟩ => ⟨he, hC _ _ hw hb⟩, rfl⟩)
          simp only [Act.put, List.setIfInBounds_toArray, List.set_cons_zero, List.set_cons_succ]
          refine laneO_run 1 (by kernel_rfl) ?_
          simp only [List.take_succ_cons, List.take_zero, List.drop_succ_cons, List.drop_zero]
          repeat (go_big_quiet_step (fail))
          refine wpQuiet_nil ?_
          refine laneO_end (by simp) (by rfl) rfl rfl fun w12 hb0 => ?_
          rintro x1 hx1
          clear hx1
          simp only [fillAll, Act.put, List.setIfInBounds_toArray, List.set_cons_zero, List.set_cons_succ]
          have S12 := Lib.hid (S11.out.under hb0)
          have T12 := Lib.hid (T11.out.under hb0 T11.out.size)
          clear hb0 S11 T11 YT OI Q6 H2
          have cb := rowG_cell (u := .int .i64 ps) S12.out.beg hlt (by rw [List.getElem?_set_self (by rw [HBK.out]; exact hlt)])
          have fb := S12.out.beg.frozenAt k
          have S13 : Hid (AlS W (w12.setCell ⟨gb, k, none⟩ (.int .i64 (inner - (ps + ms)))) N n ga gg gb at_ gs (mixL (i64s P) (noneV n) (k + 1))) := Lib.hid (by
            have h := S12.out.put k (.int .i64 (inner - (ps + ms)))
            rw [List.set_set, MS.out] at h
            exact h)
          have T13 := Lib.hid (T12.out.other (p := ⟨gb, k, none⟩) (by show gt ≠ gb; omega) (.int .i64 (inner - (ps + ms))))
          clear S12 T12
          go_wp2_with fail
          go_meet
          exact ⟨S13, T13⟩
      case rest =>
        obtain ⟨S12, T12⟩ := hcut
        generalize wc = w12 at *
        clear S11 T11 MS PAk OI Q6 H2
        have v0 := T12.out.cell 0
        have v1 := T12.out.cell 1
        simp only [List.getElem?_cons_zero, List.getElem?_cons_succ] at v0 v1
        go_wp2_with fail
        refine (Q4.out _).mono ?_
        rintro e w13 ⟨rfl, hb⟩
        have S13 := Lib.hid (S12.out.under hb)
        clear hb S12 T12 v0 v1 Q4
        go_wp2_with fail
        refine (BH.out _).mono ?_
        rintro e w14 ⟨rfl, rfl⟩
        have cg := rowG_cell S13.out.gap hkab.2 G2k.out
        go_wp2_with fail
        refine (Q5.out _).mono ?_
        rintro e w14 ⟨rfl, hb⟩
        have S14 := Lib.hid (S13.out.under hb)
        clear hb S13 Q5 cg BH
        have e0 := S14.out.v.cell 0
        have e1 := S14.out.v.cell 1
        have f0 := S14.out.v.free 0
        have f1 := S14.out.v.free 1
        simp only [List.getElem?_cons_zero, List.getElem?_cons_succ] at e0 e1
        have S15 := Lib.hid (S14.out.setV (ps + ms + ma + u2))
        go_wp2_with fail
        go_roundw
        case rel => exact ⟨k + 1, by go_num, by omega, by rw [ASk.out]; exact S15⟩
        case measure => simp [intOf] <;> omega
    · obtain rfl : n = k := by omega
      have hltz : ¬ (n : Int) < n := by omega
      have R4 : Hid (RowG w4 W.heap.size 2 gb n (i64s P)) := Lib.hid (by
        have h := S4.out.beg
        have e := mixL_all HLP.out
        rw [noneV_len] at e
        rw [e] at h
        exact h)
      have B4 := Lib.hid S4.out.low
      clear S4
      go_wp2_with fail
      go_ret
      exact ⟨_, _, rfl, R4.out, B4.out⟩
end Go.Proofs.Yteaenomfighaoaa
