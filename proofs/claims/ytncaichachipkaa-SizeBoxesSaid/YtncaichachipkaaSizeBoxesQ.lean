import Derived.Test.YtncaichachipkaaSizeBoxMQ
/- SizeBoxes answers true. -/
namespace Go.Proofs.Ytncaichachipkaa
open Go Go.RowKit
set_option linter.unusedVariables false
set_option linter.unusedSimpArgs false
set_option maxRecDepth 20000
set_option maxHeartbeats 8000000

theorem sizeBoxes_any (l zs : List Int) (hz : zs.length = 256) (A : Option Addr) (c : Nat) (kind dir wrap : Int) (W : World) (hR : Row W W.heap.size A (i64s l)) (hl : l.length ≤ 9223372036854775807) :
    Calls Try.prog 3 #[.slice A l.length c, .agg (i64s zs).toArray, .int .i64 kind, .int .i64 dir, .int .i64 wrap] W fun e w' => e = .returned (.bool true) ∧ Below W.heap.size W w' := by
  have HR := Lib.hid hR
  have HZ := Lib.hid hz
  have TM := Lib.hid (fun w => tame_any zs hz true w)
  have HT := Lib.hid (tameM_length zs true hz)
  have a4095 : ∀ x : Int, bits .and .i64 x 4095 = x % 4096 := fun x => and_mask_i64 x 12 (by decide)
  have a255 : ∀ x : Int, bits .and .i64 x 255 = x % 256 := fun x => and_mask_i64 x 8 (by decide)
  have a15 : ∀ x : Int, bits .and .i64 x 15 = x % 16 := fun x => and_mask_i64 x 4 (by decide)
  have a3 : ∀ x : Int, bits .and .i64 x 3 = x % 4 := fun x => and_mask_i64 x 2 (by decide)
  have a1 : ∀ x : Int, bits .and .i64 x 1 = x % 2 := fun x => and_mask_i64 x 1 (by decide)
  have M0 := Lib.hid (Whole.mk W 25 (i64s zs).toArray)
  have B0 := Lib.hid ((Below.refl W.heap.size W).alloc (Nat.le_refl _) (.cells (i64s zs).toArray 25))
  clear hR hz
  generalize tameM zs true = mz at *
  go_enter Try.func3, Try.ntmps3
  go_upto_region 1 with fail
  generalize W.alloc _ = w1 at *
  go_wp2_with (refine flat_loadW met_flat (.tmp 6) rfl rfl W.heap.size rfl zs HZ.out 25 M0.out ?_)
  refine (TM.out _).mono ?_
  rintro e w2 ⟨rfl, hb⟩
  have M1 := Lib.hid (M0.out.under hb M0.out.size)
  have B1 := Lib.hid (B0.out.trans (hb.mono B0.out.size))
  clear hb M0 B0 TM
  go_upto_region 2 with (refine flat_store met_flat (.tmp 6) (.tmp 20) rfl rfl W.heap.size rfl mz HT.out rfl 25 zs M1.out HZ.out ?_; intro w3 h3 o3; have M3 := Lib.hid h3; have B3 := Lib.hid (B1.out.trans (o3.below (by simp) (B1.out.size))); clear h3 o3)
  simp only [Act.put]
  clear M1 B1 HZ
  have z3 := M3.out.size
  obtain ⟨kn, hkn, hkl⟩ := mod_nat kind 2 (by decide)
  have hkl' : kn < 2 := by omega
  obtain ⟨kd, hkd, hkv⟩ : ∃ kd : Int, ([.int .i64 1, .int .i64 3] : List Value)[kn]? = some (.int .i64 kd) ∧ (kd = 1 ∨ kd = 3) := by
    match kn, hkl' with
    | 0, _ => exact ⟨1, rfl, .inl rfl⟩
    | 1, _ => exact ⟨3, rfl, .inr rfl⟩
  have KD := Lib.hid hkd
  clear hkd
  have RI := Lib.hid rinit_lit
  refine region_lane [] [0, 1, 2, 3, 4, 5, 6, 7] [8] (by kernel_rfl) (by kernel_rfl) (fun _ _ _ _ _ h => h) ?_
  simp only [pick, List.map_nil]
  refine wpQuiet_nil ⟨rfl, ?_⟩
  simp only [List.map_cons, List.map_nil, List.getD_cons_zero, List.getD_cons_succ, List.drop_succ_cons, List.drop_zero]
  refine laneO_told (madeT 2 3 [.int .i64 1, .int .i64 3]) (madeT_steady _ _ _) (by kernel_rfl) rfl (fun w hw => .inl ⟨by rfl, ?_⟩) ?_
  focus (unfold gives; simp [go_sem]; exact madeT_new 2 3 #[.int .i64 1, .int .i64 3] w)
  refine laneO_run 2 (by kernel_rfl) ?_
  simp only [List.take_succ_cons, List.take_zero, List.drop_succ_cons, List.drop_zero]
  repeat (go_big_quiet_step (fail))
  refine wpQuiet_nil ?_
  refine laneO_item (s := 21) (i := 23) (n := 2) (k := kn) (e := 3) (cs := [.int .i64 1, .int .i64 3]) rfl rfl rfl rfl rfl rfl hkl' Try.underlying27 (by kernel_rfl) ?_
  refine laneO_itemLoad (s := 24) (k := kn) (t := 3) (e := 3) (v := .int .i64 kd) rfl rfl (of_decide_eq_true (by rfl)) rfl rfl rfl KD.out (fun w g hc => by simp [loadVar, hc, go_sem]) ?_
  simp only [Act.put, List.setIfInBounds_toArray, List.set_cons_zero, List.set_cons_succ]
  refine laneO_call (v := (.agg #[.int .i64 1, .int .i64 0, .int .i64 0, .int .i64 0, .int .i64 3, .int .i64 0, .int .i64 0, .int .i64 0, .int .i64 0, .int .i64 0, .int .i64 0, .int .i64 0, .int .i64 0, .int .i64 1, .int .i64 0, .int .i64 1, .int .i64 0, .int .i64 0, .int .i64 0, .int .i64 0, .int .i64 0, .int .i64 0, .int .i64 0, .int .i64 1, .int .i64 0, .int .i64 1, .int .i64 0, .int .i64 1, .int .i64 0, .int .i64 1, .int .i64 0, .int .i64 0, .int .i64 0, .int .i64 0, .int .i64 0, .int .i64 0, .int .i64 0, .int .i64 0, .int .i64 0, .int .i64 0, .int .i64 1, .int .i64 0, .int .i64 1280])) (by kernel_rfl) (by rfl) (fun C hC h0 => ?_) ?_
  focus (go_big_quiet_op; exact ⟨_, fun w hw => (RI.out w).mono fun e w' ⟨he, hb⟩ => ⟨he, hC _ _ hw hb⟩, rfl⟩)
  simp only [Act.put, List.setIfInBounds_toArray, List.set_cons_zero, List.set_cons_succ]
  refine laneO_fixed (v := .agg (boxC kd 0 initZ none 0 0 none 0 0).toArray) (by kernel_rfl) (fun w hw => .inl ⟨by rfl, built_gives _ _ rfl _ (by kernel_rfl)⟩) ?_
  simp only [Act.put, List.setIfInBounds_toArray, List.set_cons_zero, List.set_cons_succ]
  refine laneO_told (newT (W.heap.size + 1) 38 boxZ0) (newT_steady _ _ _) (by kernel_rfl) rfl (fun w hw => .inl ⟨by rfl, ?_⟩) ?_
  focus (unfold gives; simp [go_sem]; exact newT_new (W.heap.size + 1) 38 boxZ0.toArray w (by have := hw.size; omega))
  refine laneO_end (by simp) rfl rfl rfl fun w4 hb0 => ?_
  rintro v ⟨gb, rfl, hgb, hx⟩ u1 - u2 -
  simp only [Act.put, List.setIfInBounds_toArray, List.set_cons_zero, List.set_cons_succ, fillAll]
  have M4 := Lib.hid (M3.out.under hb0 z3)
  have X4 := Lib.hid hx
  have B4 := Lib.hid (B3.out.trans (hb0.mono B3.out.size))
  clear hx hb0 KD hkn hkl hkl' M3 B3 z3
  go_upto_region 3 with (refine cells_store box_flat (.tmp 11) (.tmp 27) rfl rfl gb rfl (boxC kd 0 initZ none 0 0 none 0 0) rfl ?_ rfl 38 boxZ0 X4.out rfl ?_; (focus (simp [boxC, i64s, initZ, Value.oneCell'])); intro w5 h5 o5; have M5 := Lib.hid (o5.whole M4.out (by simp; omega)); have X5 := Lib.hid h5; have B5 := Lib.hid (B4.out.trans (o5.below (by simp; omega) B4.out.size)); clear h5 o5)
  simp only [Act.put]
  clear M4 X4 B4
  have t3 : (wrap % 256).tmod 3 = wrap % 256 % 3 := Int.tmod_eq_emod_of_nonneg (by omega)
  have c3 := X5.out.cell 3
  have c4 := X5.out.cell 4
  have f3 := X5.out.free 3
  have f4 := X5.out.free 4
  simp only [boxC, initZ, i64s, List.map_cons, List.map_nil, List.cons_append, List.nil_append, List.getElem?_cons_succ, List.getElem?_cons_zero] at c3 c4
  have X6 := Lib.hid (show Whole ((w5.setCell ⟨gb, 3, none⟩ (.int .i64 (dir % 4))).setCell ⟨gb, 4, none⟩ (.int .i64 (wrap % 256 % 3))) gb 38 (boxC kd 0 (bSt (dir % 4) (wrap % 256 % 3)) none 0 0 none 0 0) from (X5.out.put 3 (.int .i64 (dir % 4))).put 4 (.int .i64 (wrap % 256 % 3)))
  have S6 : Hid (BoSt W ((w5.setCell ⟨gb, 3, none⟩ (.int .i64 (dir % 4))).setCell ⟨gb, 4, none⟩ (.int .i64 (wrap % 256 % 3))) mz gb kd (dir % 4) (wrap % 256 % 3) none 0 0 []) := Lib.hid
    ⟨(M5.out.other (p := ⟨gb, 3, none⟩) (by show W.heap.size ≠ gb; omega) _).other (p := ⟨gb, 4, none⟩) (by show W.heap.size ≠ gb; omega) _, X6.out, World.ownsRow_nil _ _ _ _, by simp, (B5.out.setCell (p := ⟨gb, 3, none⟩) (by show W.heap.size ≤ gb; omega) _).setCell (p := ⟨gb, 4, none⟩) (by show W.heap.size ≤ gb; omega) _, by omega⟩
  have hd4 : 0 ≤ dir % 4 ∧ dir % 4 < 4 := by omega
  have hw3 : 0 ≤ wrap % 256 % 3 ∧ wrap % 256 % 3 < 3 := by omega
  go_upto_region 4 with fail
  clear c3 c4 f3 f4 t3 M5 X5 B5 X6
  generalize (w5.setCell ⟨gb, 3, none⟩ (.int .i64 (dir % 4))).setCell ⟨gb, 4, none⟩ (.int .i64 (wrap % 256 % 3)) = w6 at *
  generalize dir % 4 = d at *
  generalize wrap % 256 % 3 = wq at *
  go_upto_region 6 with fail
  go_loopw [12, 13, 14] (fun v12 v13 v14 wx => ∃ (i : Nat) (A : Option Addr) (c : Nat) (L : List (Int × Nat)), v12 = .int .i64 (sumX (l.take i)) ∧ v13 = .int .i64 (mostX (l.take i)) ∧ v14 = .int .i64 i ∧ i ≤ 10 ∧ i ≤ l.length ∧ Hid (L.map (·.1) = l.take i) ∧ Hid (BoSt W wx mz gb kd d wq A i c L)) (fun _ _ v14 _ => 10 - (intOf v14).toNat)
  case atStart => exact ⟨0, none, 0, [], rfl, rfl, rfl, by omega, by omega, Lib.hid rfl, S6⟩
  case round =>
    clear S6
    obtain ⟨i, A1, c1, L, rfl, rfl, rfl, hi10, hil, HL, S⟩ := hrel
    by_cases hlt : i < l.length ∧ i < 10
    · obtain ⟨hlt, hlt2⟩ := hlt
      have h1 : (i : Int) < l.length := by omega
      have h2 : (i : Int) < 10 := by omega
      have HX := Lib.hid (fun w (h : Below W.heap.size W w) => (HR.out.below h).int hlt)
      have HTK := Lib.hid (take_succ' l i hlt)
      generalize l[i] = x at *
      go_wp2_with fail
      refine (RI.out _).mono ?_
      rintro e w1 ⟨rfl, hb⟩
      have S1 := Lib.hid (S.out.behind hb)
      clear hb S
      have R0 := Lib.hid (Whole.mk w1 40 (rCells abRn).toArray)
      have X0 := Lib.hid (Whole.mk (w1.alloc (.cells (rCells abRn).toArray 40)) 38 boxZ0.toArray)
      have hz1 := S1.out.low.size
      go_upto_region 9 with (refine cells_store box_flat (.tmp 15) (.tmp 50) rfl rfl (w1.heap.size + 1) rfl (boxC 2 0 initZ none 0 0 (some ⟨w1.heap.size, 0, none⟩) 1 1) rfl ?_ rfl 38 boxZ0 ?_ rfl ?_; (focus (simp [boxC, i64s, initZ, Value.oneCell'])); (focus (have := X0.out; simp only [World.size_alloc] at this; exact this)); intro w3 h3 o3; have R3 := Lib.hid (o3.whole (R0.out.made _) (by simp)); have K3 := Lib.hid h3; have S3 := Lib.hid (S1.out.behind ((((Below.refl w1.heap.size w1).alloc (Nat.le_refl _) _).alloc (by simp) _).trans (o3.below (by simp) (by simp; omega)))); clear h3 o3)
      simp only [Act.put]
      have OB : Hid (gb < w1.heap.size ∧ (∀ b, (Value.slice A1 i c1).ownBlock = some b → b < w1.heap.size) ∧ ∀ x ∈ L, x.2 < w1.heap.size) := Lib.hid ⟨S1.out.box.size, fun b hb => (S1.out.own.lt b hb).2, fun x hx => (S1.out.runs x hx).size⟩
      clear R0 X0 S1
      have zr := R3.out.size
      have zk := K3.out.size
      have K5 : Hid (KSt W w3 mz gb kd d wq A1 i c1 L w1.heap.size (w1.heap.size + 1) (boxC 2 0 initZ none 0 0 (some ⟨w1.heap.size, 0, none⟩) 1 1)) := Lib.hid
        ⟨S3.out, R3.out, K3.out, ⟨by have := OB.out.1; omega, by omega, by omega⟩, fun b hb => by have := OB.out.2.1 b hb; omega, fun x hx => by have := OB.out.2.2 x hx; omega⟩
      clear S3 R3 K3 OB hz1
      generalize w1.heap.size = r at *
      obtain ⟨gk, hgk⟩ : ∃ gk, r + 1 = gk := ⟨_, rfl⟩
      rw [hgk] at K5
      simp only [hgk]
      obtain ⟨ad, rfl, hab, hc⟩ := HX.out w3 K5.out.st.low
      have c11 := K5.out.k.cell 11
      have c12 := K5.out.k.cell 12
      have f11 := K5.out.k.free 11
      have f12 := K5.out.k.free 12
      simp only [boxC, initZ, i64s, List.map_cons, List.map_nil, List.cons_append, List.nil_append, List.getElem?_cons_succ, List.getElem?_cons_zero] at c11 c12
      have K9 := Lib.hid ((K5.out.put 11 (.int .i64 1)).put 12 (.int .i64 (xv x)))
      have hxv : x % 4096 = xv x := rfl
      go_upto_region 10 with fail
      clear c11 c12 f11 f12 hc K5
      generalize (w3.setCell ⟨gk, 11, none⟩ (.int .i64 1)).setCell ⟨gk, 12, none⟩ (.int .i64 (xv x)) = w4 at *
      simp only [boxC, initZ, i64s, List.map_cons, List.map_nil, List.cons_append, List.nil_append, List.set_cons_succ, List.set_cons_zero] at K9
      have hadk : ad.block ≠ gk := by have := K9.out.far.2.1; omega
      have hc : w4.cell? (ad.add i) = some (.int .i64 x) := by
        obtain ⟨ad', e, _, h⟩ := HX.out w4 K9.out.st.low
        injection e with e; subst e; exact h
      have hcA : ∀ (w : World) (u v : Value) (m q : Nat), w.cell? (ad.add i) = some (.int .i64 x) → ((w.setCell ⟨gk, m, none⟩ u).setCell ⟨gk, q, none⟩ v).cell? (ad.add i) = some (.int .i64 x) := fun w u v m q h => by
        rw [World.cell?_setCell_other _ _ _ _ (by intro e; have h := congrArg Addr.block e; simp only [add_block] at h; first | exact hadk h | exact hadk h.symm), World.cell?_setCell_other _ _ _ _ (by intro e; have h := congrArg Addr.block e; simp only [add_block] at h; first | exact hadk h | exact hadk h.symm)]
        exact h
      have hc1 : ∀ u v : Value, ((w4.setCell ⟨gk, 15, none⟩ u).setCell ⟨gk, 16, none⟩ v).cell? (ad.add i) = some (.int .i64 x) := fun u v => hcA _ u v 15 16 hc
      have c15 := K9.out.k.cell 15
      have c16 := K9.out.k.cell 16
      have c19 := K9.out.k.cell 19
      have c20 := K9.out.k.cell 20
      have f15 := K9.out.k.free 15
      have f16 := K9.out.k.free 16
      have f19 := K9.out.k.free 19
      have f20 := K9.out.k.free 20
      simp only [List.getElem?_cons_succ, List.getElem?_cons_zero] at c15 c16 c19 c20
      have hxlo : x / 4096 % 4096 = xlo x := rfl
      have hxhi : x / 16777216 % 4096 = xhi x := rfl
      have K10 := Lib.hid ((((K9.out.put 15 (.int .i64 1)).put 16 (.int .i64 (xlo x))).put 19 (.int .i64 1)).put 20 (.int .i64 (xhi x)))
      simp only [boxC, initZ, i64s, List.map_cons, List.map_nil, List.cons_append, List.nil_append, List.set_cons_succ, List.set_cons_zero] at K10
      go_cut [15] from 59 to 76 (fun v15 wx => v15 = .pointer (some ⟨gk, 0, none⟩) ∧ Hid (∃ cs, cs = [.int .i64 2, .int .i64 0, .int .i64 1, .int .i64 0, .int .i64 0, .int .i64 0, .int .i64 3, .int .i64 0, .int .i64 0, .int .i64 0, .int .i64 0, .int .i64 1, .int .i64 (xv x), .int .i64 0, .int .i64 0, .int .i64 1, .int .i64 (xlo x), .int .i64 1, .int .i64 0, .int .i64 1, .int .i64 (xhi x), .int .i64 0, .int .i64 0, .int .i64 0, .int .i64 0, .int .i64 1, .int .i64 0, .int .i64 1, .int .i64 0, .int .i64 1, .int .i64 0, .int .i64 1, .int .i64 0, .int .i64 0, .int .i64 0, .int .i64 0, .int .i64 0, .int .i64 0, .int .i64 0, .int .i64 0, .int .i64 0, .int .i64 0, .int .i64 1, .int .i64 0, .int .i64 1280, .slice none 0 0, .slice (some ⟨r, 0, none⟩) 1 1] ∧ KSt W wx mz gb kd d wq A1 i c1 L r gk cs))
      case first =>
        as_aux_lemma =>
          go_region
          go_wp2
          go_meet
          exact ⟨rfl, Lib.hid ⟨_, rfl, K10.out.behind ⟨rfl, rfl, rfl, Nat.le_refl _, fun _ _ => rfl⟩⟩⟩
      case rest =>
        obtain ⟨rfl, hK⟩ := hcut
        obtain ⟨cs10, hcs10, K⟩ := hK.out
        have K11 := Lib.hid K
        subst hcs10
        clear hK K K9 K10 hc hc1 c15 c16 c19 c20 f15 f16 f19 f20
        have hc : wc.cell? (ad.add i) = some (.int .i64 x) := by
          obtain ⟨ad', e, _, h⟩ := HX.out wc K11.out.st.low
          injection e with e; subst e; exact h
        have hc1 : ∀ u : Value, (wc.setCell ⟨gk, 34, none⟩ u).cell? (ad.add i) = some (.int .i64 x) := fun u => by
          rw [World.cell?_setCell_other _ _ _ _ (by intro e; have h := congrArg Addr.block e; simp only [add_block] at h; first | exact hadk h | exact hadk h.symm)]; exact hc
        have hc2 : ∀ u v : Value, ((wc.setCell ⟨gk, 34, none⟩ u).setCell ⟨gk, 40, none⟩ v).cell? (ad.add i) = some (.int .i64 x) := fun u v => hcA _ u v 34 40 hc
        have c34 := K11.out.k.cell 34
        have c40 := K11.out.k.cell 40
        have c28 := K11.out.k.cell 28
        have f34 := K11.out.k.free 34
        have f40 := K11.out.k.free 40
        have f28 := K11.out.k.free 28
        simp only [List.getElem?_cons_succ, List.getElem?_cons_zero] at c34 c40 c28
        have hxp : x / 68719476736 % 16 = xp x := rfl
        have hxb : x / 1099511627776 % 16 = xb x := rfl
        have hxm : x / 17592186044416 % 16 = xm x := rfl
        have K12 := Lib.hid (((K11.out.put 34 (.int .i64 (xp x))).put 40 (.int .i64 (xb x))).put 28 (.int .i64 (xm x)))
        simp only [List.set_cons_succ, List.set_cons_zero] at K12
        go_upto_region 11 with fail
        go_cut [15] from 77 to 104 (fun v15 wx => v15 = .pointer (some ⟨gk, 0, none⟩) ∧ Hid (KSt W wx mz gb kd d wq A1 i c1 L r gk (kidC (x, r))))
        case first =>
          as_aux_lemma =>
            go_region
            go_wp2
            go_meet
            exact ⟨rfl, Lib.hid (K12.out.behind ⟨rfl, rfl, rfl, Nat.le_refl _, fun _ _ => rfl⟩)⟩
        case rest =>
          obtain ⟨rfl, K13⟩ := hcut
          clear K11 K12 hc hc1 hc2 hcA c34 c40 c28 f34 f40 f28
          go_upto_region 12 with fail
          have hc := HX.out _ K13.out.st.low
          obtain ⟨ad', e, _, hc⟩ := hc
          injection e with e
          subst e
          have hbv : 0 ≤ xv x ∧ xv x < 4096 ∧ 0 ≤ xlo x ∧ xlo x < 4096 ∧ 0 ≤ xhi x ∧ xhi x < 4096 ∧ 0 ≤ xp x ∧ xp x < 16 ∧ 0 ≤ xb x ∧ xb x < 16 ∧ 0 ≤ xm x ∧ xm x < 16 := by unfold xv xlo xhi xp xb xm; omega
          obtain ⟨v1, v2, v3, v4, v5, v6, v7, v8, v9, v10, v11, v12⟩ := hbv
          have EN := Lib.hid (show itemN x = max (min (xv x) (xhi x)) (xlo x) + xp x + xb x + xm x from rfl)
          go_cut [16] from 105 to 144 (fun v16 wx => v16 = .int .i64 (itemN x) ∧ Hid (KSt W wx mz gb kd d wq A1 i c1 L r gk (kidC (x, r))))
          case first =>
            have yc : ∀ t : Later wc.heap.size wc, t.w.cell? (ad.add i) = some (.int .i64 x) := fun t => (t.h.cell (p := ad.add i) (by rw [add_block]; have := K13.out.st.low.size; omega)).trans hc
            have hxv : x % 4096 = xv x := rfl
            have hxlo : x / 4096 % 4096 = xlo x := rfl
            have hxhi : x / 16777216 % 4096 = xhi x := rfl
            have hxp : x / 68719476736 % 16 = xp x := rfl
            have hxb : x / 1099511627776 % 16 = xb x := rfl
            have hxm : x / 17592186044416 % 16 = xm x := rfl
            refine region_lane [] (List.range 40) [40] (by kernel_rfl) (by kernel_rfl) (fun _ _ _ _ _ h => h) ?_
            simp only [pick, List.map_nil]
            refine wpQuiet_nil ⟨rfl, ?_⟩
            rw [show List.range 40 = [0, 1, 2, 3, 4, 5, 6, 7, 8, 9, 10, 11, 12, 13, 14, 15, 16, 17, 18, 19, 20, 21, 22, 23, 24, 25, 26, 27, 28, 29, 30, 31, 32, 33, 34, 35, 36, 37, 38, 39] from rfl]
            simp only [List.map_cons, List.map_nil, List.getD_cons_zero, List.getD_cons_succ, List.drop_succ_cons, List.drop_zero]
            refine laneO_run 11 (by kernel_rfl) ?_
            simp only [List.take_succ_cons, List.take_zero, List.drop_succ_cons, List.drop_zero]
            repeat (go_big_quiet_step (fail))
            refine wpQuiet_nil ?_
            refine laneO_fixed (v := .int .i64 (min (xv x) (xhi x))) (by kernel_rfl) (fun w hw => .inl ⟨by rfl, ?_⟩) ?_
            focus (unfold gives; simp [go_sem]; exact Behind.refl w)
            simp only [Act.put, List.setIfInBounds_toArray, List.set_cons_zero, List.set_cons_succ]
            refine laneO_run 6 (by kernel_rfl) ?_
            simp only [List.take_succ_cons, List.take_zero, List.drop_succ_cons, List.drop_zero]
            repeat (go_big_quiet_step (fail))
            refine wpQuiet_nil ?_
            refine laneO_fixed (v := .int .i64 (max (min (xv x) (xhi x)) (xlo x))) (by kernel_rfl) (fun w hw => .inl ⟨by rfl, ?_⟩) ?_
            focus (unfold gives; simp [go_sem]; exact Behind.refl w)
            simp only [Act.put, List.setIfInBounds_toArray, List.set_cons_zero, List.set_cons_succ]
            refine laneO_run 21 (by kernel_rfl) ?_
            simp only [List.take_succ_cons, List.take_zero, List.drop_succ_cons, List.drop_zero]
            repeat (go_big_quiet_step (fail))
            refine wpQuiet_nil ?_
            refine laneO_end0 rfl rfl fun w12 hb0 => ?_
            go_wp2
            go_meet
            exact ⟨by rw [EN.out], Lib.hid (K13.out.behind hb0)⟩
          case rest =>
            obtain ⟨rfl, K14⟩ := hcut
            clear hc v1 v2 v3 v4 v5 v6 v7 v8 v9 v10 v11 v12 EN K13
            have hkv : ∀ {w : World} (K : KSt W w mz gb kd d wq A1 i c1 L r gk (kidC (x, r))), BoxV w (· < w.heap.size) (kidB x) (kidC (x, r)) := fun K => by
              unfold kidB
              rw [BoxV]
              exact ⟨none, 0, some ⟨r, 0, none⟩, 1, rfl, rfl, itemSt_in x, fun _ => ⟨r, 0, rfl, K.run.size, fun j v hv => by rw [Nat.zero_add, K.run.cell j]; exact hv⟩, by rw [BoxesAt]; trivial⟩
            have SO := Lib.hid (fun least w (K : KSt W w mz gb kd d wq A1 i c1 L r gk (kidC (x, r))) => by
              have := souter_any mz HT.out (kidB x) least (kidC (x, r)) w (hkv K) (kid_fine mz x) (by rw [kid_cnt]; decide)
              rwa [show (kidB x).st = itemSt x from rfl, item_outer] at this)
            clear hkv
            have hy := itemN_bd x
            have hs := sumX_bd (l.take i)
            have hm := mostX_bd (l.take i)
            have hle : ((l.take i).length : Int) ≤ 10 := by simp; omega
            have ES := Lib.hid (sumX_snoc (l.take i) x)
            have EM := Lib.hid (mostX_snoc (l.take i) x)
            rw [← HTK.out] at ES EM
            have HL2 : Hid ((L ++ [(x, r)]).map (·.1) = l.take (i + 1)) := Lib.hid (by rw [HTK.out, List.map_append, HL.out]; rfl)
            generalize sumX (l.take i) = sm at *
            generalize mostX (l.take i) = mo at *
            obtain ⟨sm2, hsm2⟩ : ∃ z, z = sumX (l.take (i + 1)) := ⟨_, rfl⟩
            obtain ⟨mo2, hmo2⟩ : ∃ z, z = mostX (l.take (i + 1)) := ⟨_, rfl⟩
            rw [← hsm2] at ES
            rw [← hmo2] at EM
            have HSM := Lib.hid hsm2
            have HMO := Lib.hid hmo2
            clear hsm2 hmo2
            clear HTK HL
            have KL : Hid (kidC (x, r) = [.int .i64 2, .int .i64 0, .int .i64 1, .int .i64 0, .int .i64 0, .int .i64 0, .int .i64 3, .int .i64 0, .int .i64 0, .int .i64 0, .int .i64 0, .int .i64 1, .int .i64 (xv x), .int .i64 0, .int .i64 0, .int .i64 1, .int .i64 (xlo x), .int .i64 1, .int .i64 0, .int .i64 1, .int .i64 (xhi x), .int .i64 0, .int .i64 0, .int .i64 0, .int .i64 0, .int .i64 1, .int .i64 0, .int .i64 1, .int .i64 (xm x), .int .i64 1, .int .i64 0, .int .i64 1, .int .i64 0, .int .i64 0, .int .i64 (xp x), .int .i64 0, .int .i64 0, .int .i64 0, .int .i64 0, .int .i64 0, .int .i64 (xb x), .int .i64 0, .int .i64 1, .int .i64 0, .int .i64 1280, .slice none 0 0, .slice (some ⟨r, 0, none⟩) 1 1]) := Lib.hid rfl
            generalize itemN x = y at *
            go_wp2_with (first
              | (refine flat_loadV (t := 25) (x := .tmp 6) rfl met_flat rfl W.heap.size rfl mz HT.out 25 K14.out.st.met ?_)
              | (refine cells_loadV (t := 38) (x := .tmp 15) rfl box_flat rfl gk rfl (kidC (x, r)) rfl 38 K14.out.k ?_))
            refine (SO.out true _ K14.out).mono ?_
            rintro e w5 ⟨rfl, hb⟩
            have K15 := Lib.hid (K14.out.behind hb)
            clear hb K14
            go_wp2_with (first
              | (refine flat_loadV (t := 25) (x := .tmp 6) rfl met_flat rfl W.heap.size rfl mz HT.out 25 K15.out.st.met ?_)
              | (refine cells_loadV (t := 38) (x := .tmp 15) rfl box_flat rfl gk rfl (kidC (x, r)) rfl 38 K15.out.k ?_))
            refine (SO.out false _ K15.out).mono ?_
            rintro e w6 ⟨rfl, hb⟩
            have K16 := Lib.hid (K15.out.behind hb)
            clear hb K15 SO
            go_upto_region 15 with fail
            go_cut [12, 13] from 157 to 162 (fun v12 v13 wx => v12 = .int .i64 sm2 ∧ v13 = .int .i64 mo2 ∧ w6 = wx)
            case first =>
              have hs2 : sm + y = sm2 := ES.out.symm
              have hm2 := EM.out
              go_wp2
              all_goals
                go_meet
                exact ⟨rfl, by congr 1; omega, rfl⟩
            case rest =>
              obtain ⟨rfl, rfl, rfl⟩ := hcut
              clear ES EM hs hm hle hy
              go_upto_region 16 with fail
              have c45 := K16.out.st.box.cell 45
              have f45 := K16.out.st.box.free 45
              rw [show (boxC kd 0 (bSt d wq) A1 i c1 none 0 0)[45]? = some (.slice A1 i c1) from rfl] at c45
              have zb := K16.out.st.box.size
              have HKW : Hid (Whole (w6.alloc (.cells ([.int .i64 2, .int .i64 0, .int .i64 1, .int .i64 0, .int .i64 0, .int .i64 0, .int .i64 3, .int .i64 0, .int .i64 0, .int .i64 0, .int .i64 0, .int .i64 1, .int .i64 (xv x), .int .i64 0, .int .i64 0, .int .i64 1, .int .i64 (xlo x), .int .i64 1, .int .i64 0, .int .i64 1, .int .i64 (xhi x), .int .i64 0, .int .i64 0, .int .i64 0, .int .i64 0, .int .i64 1, .int .i64 0, .int .i64 1, .int .i64 (xm x), .int .i64 1, .int .i64 0, .int .i64 1, .int .i64 0, .int .i64 0, .int .i64 (xp x), .int .i64 0, .int .i64 0, .int .i64 0, .int .i64 0, .int .i64 0, .int .i64 (xb x), .int .i64 0, .int .i64 1, .int .i64 0, .int .i64 1280, .slice none 0 0, .slice (some ⟨r, 0, none⟩) 1 1] : List Value).toArray 38)) w6.heap.size 38 [.int .i64 2, .int .i64 0, .int .i64 1, .int .i64 0, .int .i64 0, .int .i64 0, .int .i64 3, .int .i64 0, .int .i64 0, .int .i64 0, .int .i64 0, .int .i64 1, .int .i64 (xv x), .int .i64 0, .int .i64 0, .int .i64 1, .int .i64 (xlo x), .int .i64 1, .int .i64 0, .int .i64 1, .int .i64 (xhi x), .int .i64 0, .int .i64 0, .int .i64 0, .int .i64 0, .int .i64 1, .int .i64 0, .int .i64 1, .int .i64 (xm x), .int .i64 1, .int .i64 0, .int .i64 1, .int .i64 0, .int .i64 0, .int .i64 (xp x), .int .i64 0, .int .i64 0, .int .i64 0, .int .i64 0, .int .i64 0, .int .i64 (xb x), .int .i64 0, .int .i64 1, .int .i64 0, .int .i64 1280, .slice none 0 0, .slice (some ⟨r, 0, none⟩) 1 1]) := Lib.hid (Whole.mk w6 38 ([.int .i64 2, .int .i64 0, .int .i64 1, .int .i64 0, .int .i64 0, .int .i64 0, .int .i64 3, .int .i64 0, .int .i64 0, .int .i64 0, .int .i64 0, .int .i64 1, .int .i64 (xv x), .int .i64 0, .int .i64 0, .int .i64 1, .int .i64 (xlo x), .int .i64 1, .int .i64 0, .int .i64 1, .int .i64 (xhi x), .int .i64 0, .int .i64 0, .int .i64 0, .int .i64 0, .int .i64 1, .int .i64 0, .int .i64 1, .int .i64 (xm x), .int .i64 1, .int .i64 0, .int .i64 1, .int .i64 0, .int .i64 0, .int .i64 (xp x), .int .i64 0, .int .i64 0, .int .i64 0, .int .i64 0, .int .i64 0, .int .i64 (xb x), .int .i64 0, .int .i64 1, .int .i64 0, .int .i64 1280, .slice none 0 0, .slice (some ⟨r, 0, none⟩) 1 1] : List Value).toArray)
              have HONE : Hid (∀ v ∈ ([.int .i64 2, .int .i64 0, .int .i64 1, .int .i64 0, .int .i64 0, .int .i64 0, .int .i64 3, .int .i64 0, .int .i64 0, .int .i64 0, .int .i64 0, .int .i64 1, .int .i64 (xv x), .int .i64 0, .int .i64 0, .int .i64 1, .int .i64 (xlo x), .int .i64 1, .int .i64 0, .int .i64 1, .int .i64 (xhi x), .int .i64 0, .int .i64 0, .int .i64 0, .int .i64 0, .int .i64 1, .int .i64 0, .int .i64 1, .int .i64 (xm x), .int .i64 1, .int .i64 0, .int .i64 1, .int .i64 0, .int .i64 0, .int .i64 (xp x), .int .i64 0, .int .i64 0, .int .i64 0, .int .i64 0, .int .i64 0, .int .i64 (xb x), .int .i64 0, .int .i64 1, .int .i64 0, .int .i64 1280, .slice none 0 0, .slice (some ⟨r, 0, none⟩) 1 1] : List Value), v.oneCell' = true) := Lib.hid (by rw [← KL.out]; exact boxV_one (w := w6) (S := fun _ => True) (b := kidB x) (by
                unfold kidB
                rw [BoxV]
                exact ⟨none, 0, some ⟨r, 0, none⟩, 1, rfl, rfl, itemSt_in x, fun _ => ⟨r, 0, rfl, trivial, fun j v hv => by rw [Nat.zero_add, K16.out.run.cell j]; exact hv⟩, by rw [BoxesAt]; trivial⟩))
              go_wp2_with (first
                | (refine cells_loadV (t := 38) (x := .tmp 15) rfl box_flat rfl gk rfl [.int .i64 2, .int .i64 0, .int .i64 1, .int .i64 0, .int .i64 0, .int .i64 0, .int .i64 3, .int .i64 0, .int .i64 0, .int .i64 0, .int .i64 0, .int .i64 1, .int .i64 (xv x), .int .i64 0, .int .i64 0, .int .i64 1, .int .i64 (xlo x), .int .i64 1, .int .i64 0, .int .i64 1, .int .i64 (xhi x), .int .i64 0, .int .i64 0, .int .i64 0, .int .i64 0, .int .i64 1, .int .i64 0, .int .i64 1, .int .i64 (xm x), .int .i64 1, .int .i64 0, .int .i64 1, .int .i64 0, .int .i64 0, .int .i64 (xp x), .int .i64 0, .int .i64 0, .int .i64 0, .int .i64 0, .int .i64 0, .int .i64 (xb x), .int .i64 0, .int .i64 1, .int .i64 0, .int .i64 1280, .slice none 0 0, .slice (some ⟨r, 0, none⟩) 1 1] rfl 38 (KL.out ▸ K16.out.k) ?_)
                | (at_builtin; refine wpList_pushOne rfl (.tmp 164) (.tmp 166) _ rfl (gb + 1) 38 47 408 (.agg boxZ0.toArray) Try.underlying35 bx_info rfl (by decide) i (.slice A1 i c1) (L.flatMap kidC) rfl (K16.out.st.own.alloc _) (by simp; omega) w6.heap.size [.int .i64 2, .int .i64 0, .int .i64 1, .int .i64 0, .int .i64 0, .int .i64 0, .int .i64 3, .int .i64 0, .int .i64 0, .int .i64 0, .int .i64 0, .int .i64 1, .int .i64 (xv x), .int .i64 0, .int .i64 0, .int .i64 1, .int .i64 (xlo x), .int .i64 1, .int .i64 0, .int .i64 1, .int .i64 (xhi x), .int .i64 0, .int .i64 0, .int .i64 0, .int .i64 0, .int .i64 1, .int .i64 0, .int .i64 1, .int .i64 (xm x), .int .i64 1, .int .i64 0, .int .i64 1, .int .i64 0, .int .i64 0, .int .i64 (xp x), .int .i64 0, .int .i64 0, .int .i64 0, .int .i64 0, .int .i64 0, .int .i64 (xb x), .int .i64 0, .int .i64 1, .int .i64 0, .int .i64 1280, .slice none 0 0, .slice (some ⟨r, 0, none⟩) 1 1] rfl HKW.out rfl HONE.out (by unfold maxLen; omega) (by omega) ?_; intro A2 c2 w7 h7 o7 k7; have S7 := Lib.hid (K16.out.pushed _ o7 (by rw [KL.out]; exact h7)); have X7 := Lib.hid (o7.whole (K16.out.st.box.made _) (fun hm => by have := (K16.out.st.own.lt gb (by simpa using hm)).1; omega)); have c7 := X7.out.cell 45; have f7 := X7.out.free 45; rw [show (boxC kd 0 (bSt d wq) A1 i c1 none 0 0)[45]? = some (.slice A1 i c1) from rfl] at c7; clear h7 o7 k7 c45 f45 X7))
              go_roundw
              case rel => exact ⟨i + 1, A2, c2, L ++ [(x, r)], by rw [HSM.out], by rw [HMO.out], by go_num, by omega, by omega, HL2, S7⟩
              case measure => simp [intOf]; omega
    · have hn : i = L.length := by have := congrArg List.length HL.out; simp at this; omega
      have VB := Lib.hid (fun w (S : BoSt W w mz gb kd d wq A1 i c1 L) => S.vb hn hd4 hw3)
      have hs := sumX_bd (l.take i)
      have hle : ((l.take i).length : Int) ≤ 10 := by simp; omega
      have CN : (rowB kd d wq (L.map (·.1))).cnt ≤ 1073741824 := by have := row_cnt kd d wq (L.map (·.1)); simp at this; omega
      have CT := Lib.hid (fun least => row_ctn mz least kd d wq (l.take i) hkv)
      have HHL : heldT (sumX (l.take i)) = sumX (l.take i) := heldT_in ⟨by omega, by omega⟩
      have LE := Lib.hid (fun w (S : BoSt W w mz gb kd d wq A1 i c1 L) => sleast_any mz HT.out (rowB kd d wq (L.map (·.1))) _ w (VB.out w S) (row_fine mz kd d wq _ hkv) CN)
      have MO := Lib.hid (fun w (S : BoSt W w mz gb kd d wq A1 i c1 L) => smost_any mz HT.out (rowB kd d wq (L.map (·.1))) _ w (VB.out w S) (row_fine mz kd d wq _ hkv) CN)
      rw [HL.out] at LE MO
      have ELO : Hid (ctn mz true (rowB kd d wq (l.take i)) = if kd = 3 ∧ d < 2 ∧ wq = 0 then sumX (l.take i) else mostX (l.take i)) := Lib.hid (by
        rw [CT.out]
        show (if _ then heldT (sumX (l.take i)) else mostX (l.take i)) = _
        rw [HHL]
        by_cases h : kd = 3 ∧ d < 2 ∧ wq = 0
        · rw [if_pos h, if_pos ⟨h.1, by omega, by omega, .inr h.2.2⟩]
        · rw [if_neg h, if_neg (fun h' => h ⟨h'.1, by omega, by rcases h'.2.2.2 with h2 | h2; cases h2; exact h2⟩)])
      have EHI : Hid (ctn mz false (rowB kd d wq (l.take i)) = if kd = 3 ∧ d < 2 then sumX (l.take i) else mostX (l.take i)) := Lib.hid (by
        rw [CT.out]
        show (if _ then heldT (sumX (l.take i)) else mostX (l.take i)) = _
        rw [HHL]
        by_cases h : kd = 3 ∧ d < 2
        · rw [if_pos h, if_pos ⟨h.1, by omega, by omega, .inl rfl⟩]
        · rw [if_neg h, if_neg (fun h' => h ⟨h'.1, by omega⟩)])
      have AW := Lib.hid sawake_any
      clear VB CN CT HHL hs hle HL hn HR RI
      generalize ctn mz true (rowB kd d wq (l.take i)) = lo at *
      generalize ctn mz false (rowB kd d wq (l.take i)) = hi at *
      generalize sumX (l.take i) = sm at *
      generalize mostX (l.take i) = mo at *
      go_upto_region 6 with fail
      go_cut [44] from 37 to 44 (fun v44 wx => v44 = .bool false ∧ wr = wx)
      case first =>
        by_cases h : i < l.length
        · have h1 : (i : Int) < l.length := by omega
          have h2 : ¬ (i : Int) < 10 := by omega
          go_wp2
          go_meet
          exact ⟨rfl, rfl⟩
        · have h1 : ¬ (i : Int) < l.length := by omega
          go_wp2
          go_meet
          exact ⟨rfl, rfl⟩
      case rest =>
        obtain ⟨rfl, rfl⟩ := hcut
        clear hlt
        go_upto_region 18 with fail
        have c0 := S.out.box.cell 0
        have c3 := S.out.box.cell 3
        have c4 := S.out.box.cell 4
        rw [show (boxC kd 0 (bSt d wq) A1 i c1 none 0 0)[0]? = some (.int .i64 kd) from rfl] at c0
        rw [show (boxC kd 0 (bSt d wq) A1 i c1 none 0 0)[3]? = some (.int .i64 d) from rfl] at c3
        rw [show (boxC kd 0 (bSt d wq) A1 i c1 none 0 0)[4]? = some (.int .i64 wq) from rfl] at c4
        obtain ⟨q, hq⟩ : ∃ q : Bool, q = decide (kd = 3 ∧ d < 2) := ⟨_, rfl⟩
        go_cut [179] from 171 to 179 (fun v179 wx => v179 = .bool q ∧ wr = wx)
        case first =>
          rcases hkv with h | h
          · have hq2 : q = false := by rw [hq]; simp [h]
            clear hq ELO EHI
            subst h hq2
            go_wp2
            go_meet
            exact ⟨rfl, rfl⟩
          · subst h
            by_cases hd2 : d < 2
            · have hq2 : q = true := by rw [hq]; simp [hd2]
              clear hq ELO EHI
              subst hq2
              go_wp2
              go_meet
              exact ⟨rfl, rfl⟩
            · have hq2 : q = false := by rw [hq]; simp [hd2]
              clear hq ELO EHI
              subst hq2
              go_wp2
              go_meet
              exact ⟨rfl, rfl⟩
        case rest =>
          obtain ⟨rfl, rfl⟩ := hcut
          go_upto_if 179 with fail
          go_cut [17, 18] from 180 to 185 (fun v17 v18 wx => v17 = .int .i64 lo ∧ v18 = .int .i64 hi ∧ wr = wx)
          case first =>
            cases q
            · have h2 : ¬ (kd = 3 ∧ d < 2) := by simpa using hq.symm
              have e1 : lo = mo := by rw [ELO.out, if_neg (fun h => h2 ⟨h.1, h.2.1⟩)]
              have e2 : hi = mo := by rw [EHI.out, if_neg h2]
              clear hq h2
              go_wp2
              go_meet
              exact ⟨by rw [e1], by rw [e2], rfl⟩
            · have h2 : kd = 3 ∧ d < 2 := by simpa using hq.symm
              have e2 : hi = sm := by rw [EHI.out, if_pos h2]
              by_cases hw0 : wq = 0
              · have e1 : lo = sm := by rw [ELO.out, if_pos ⟨h2.1, h2.2, hw0⟩]
                have b : (wq == 0) = true := by rw [beq_iff_eq]; exact hw0
                clear hq h2 hw0
                go_wp2
                go_meet
                exact ⟨by rw [e1], by rw [e2], rfl⟩
              · have e1 : lo = mo := by rw [ELO.out, if_neg (fun h => hw0 h.2.2)]
                have b : (wq == 0) = false := by rw [beq_eq_false_iff_ne]; exact hw0
                clear hq h2 hw0
                go_wp2
                go_meet
                exact ⟨by rw [e1], by rw [e2], rfl⟩
          case rest =>
            obtain ⟨rfl, rfl, rfl⟩ := hcut
            clear c0 c3 c4 hq ELO EHI
            go_wp2_with (first
              | (refine flat_loadV (t := 25) (x := .tmp 6) rfl met_flat rfl W.heap.size rfl mz HT.out 25 S.out.met ?_)
              | (refine cells_loadV (t := 38) (x := .tmp 11) rfl box_flat rfl gb rfl (boxC kd 0 (bSt d wq) A1 i c1 none 0 0) rfl 38 S.out.box ?_))
            refine (LE.out _ S.out).mono ?_
            rintro e w5 ⟨rfl, hb⟩
            have S5 := Lib.hid (S.out.behind hb)
            clear hb S LE
            go_wp2_with (first
              | (refine flat_loadV (t := 25) (x := .tmp 6) rfl met_flat rfl W.heap.size rfl mz HT.out 25 S5.out.met ?_)
              | (refine cells_loadV (t := 38) (x := .tmp 11) rfl box_flat rfl gb rfl (boxC kd 0 (bSt d wq) A1 i c1 none 0 0) rfl 38 S5.out.box ?_))
            refine (MO.out _ S5.out).mono ?_
            rintro e w6 ⟨rfl, hb⟩
            have S6 := Lib.hid (S5.out.behind hb)
            clear hb S5 MO
            go_wp2_with fail
            refine (AW.out _).mono ?_
            rintro e w7 ⟨rfl, hb⟩
            have S7 := Lib.hid (S6.out.behind hb)
            clear hb S6 AW
            go_wp2
            go_ret
            exact ⟨rfl, S7.out.low⟩
end Go.Proofs.Ytncaichachipkaa
