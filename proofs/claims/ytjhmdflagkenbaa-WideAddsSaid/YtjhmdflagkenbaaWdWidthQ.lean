import Derived.Test.YtjhmdflagkenbaaWdPartsQ
/- wide.Width. -/
namespace Go.Proofs.Ytjhmdflagkenbaa
open Go Go.RowKit
set_option linter.unusedVariables false
set_option linter.unusedSimpArgs false
set_option maxRecDepth 20000
set_option maxHeartbeats 4000000

theorem of_new (zs : List Int) (s : Int) (hs : zs.sum = s) (n : Nat) (hl : zs.length = n) (hn : n ≤ 1000) (hz : ∀ z ∈ zs, I64 z) (w : World) (t : TypeId) (g : Nat) (hg : w.heap.size = g) (cs : Array Value) (hc : (i64s zs).toArray = cs) :
    Calls Try.prog 17 #[.slice (some ⟨g, 0, none⟩) n n] (w.alloc (.cells cs t)) fun e w' => e = .returned (totV s) ∧ Below (w.alloc (.cells cs t)).heap.size (w.alloc (.cells cs t)) w' := by
  subst hs hl hg hc
  have h := row_new w (i64s zs).toArray t
  exact of_any zs hz hn _ _ _ (by simpa using h)
/-- The style's box, the result's. -/
structure WS (W w : World) (st : List Int) : Prop where
  p : Whole w W.heap.size 27 (i64s st)
  r : Whole w (W.heap.size + 1) 29 (i64s [0, 0, 0])
  b : Below W.heap.size W w
section
variable {W w w' : World} {st : List Int}
theorem WS.size (h : WS W w st) : W.heap.size + 1 < w.heap.size := h.r.size
theorem WS.under (h : WS W w st) (hb : Below w.heap.size w w') : WS W w' st :=
  ⟨h.p.under hb h.p.size, h.r.under hb h.r.size, h.b.trans (hb.mono (by have := h.size; omega))⟩
theorem WS.alloc (h : WS W w st) (o : Obj) : WS W (w.alloc o) st := h.under ((Below.refl _ _).alloc (Nat.le_refl _) o)
theorem WS.other (h : WS W w st) (p : Addr) (hp : W.heap.size + 1 < p.block) (u : Value) : WS W (w.setCell p u) st :=
  ⟨h.p.other (by omega) u, h.r.other (by omega) u, h.b.setCell (by omega) u⟩
end
/-- A sum in a block of its own, behind the two. -/
structure SumAt (W w : World) (t : Nat) (n : Int) : Prop where
  at_ : Whole w t 48 [.int .i64 (tH n), .int .u64 (tL n)]
  far : W.heap.size + 1 < t
section
variable {W w w' : World} {t : Nat} {n : Int}
theorem SumAt.under (h : SumAt W w t n) (hb : Below w.heap.size w w') : SumAt W w' t n := ⟨h.at_.under hb h.at_.size, h.far⟩
theorem SumAt.cells (h : SumAt W w t n) : w.cell? ⟨t, 0, none⟩ = some (.int .i64 (tH n)) ∧ w.cell? ⟨t, 1, none⟩ = some (.int .u64 (tL n)) := ⟨h.at_.cell 0, h.at_.cell 1⟩
theorem SumAt.other (h : SumAt W w t n) (p : Addr) (hp : t ≠ p.block) (u : Value) : SumAt W (w.setCell p u) t n := ⟨h.at_.other hp u, h.far⟩
theorem SumAt.mk' (W w : World) (n : Int) (h : W.heap.size + 1 < w.heap.size) : SumAt W (w.alloc (.cells #[.int .i64 (tH n), .int .u64 (tL n)] 48)) w.heap.size n := ⟨Whole.mk w _ _, h⟩
end
theorem width_any (st : List Int) (hl : st.length = 43) (hz : ∀ z ∈ st, I64 z) (base : Int) (hb : I64 base) (W : World) :
    Calls Try.prog 7 #[.agg (i64s st).toArray, .int .i64 base] W fun e w' => e = .returned (.agg #[.int .i64 (wleftZ st base), .int .i64 (wwZ st base), .int .i64 (wrightZ st base)]) ∧ Below W.heap.size W w' := by
  have S0 : Hid (WS W ((W.alloc (.cells (i64s st).toArray 27)).alloc (.cells #[.int .i64 0, .int .i64 0, .int .i64 0] 29)) st) := Lib.hid
    ⟨(Whole.mk W 27 (i64s st).toArray).made _, by have h := Whole.mk (W.alloc (.cells (i64s st).toArray 27)) 29 #[.int .i64 0, .int .i64 0, .int .i64 0]; simpa [i64s] using h, ((Below.refl _ _).alloc (Nat.le_refl _) _).alloc (by simp) _⟩
  have HL := Lib.hid hl
  have HZ := Lib.hid hz
  have HB := Lib.hid hb
  have HS1 := Lib.hid (fun w => side_any (st.getD 29 0) (st.getD 30 0) base (st_in hz 30) hb w)
  have HS2 := Lib.hid (fun w => side_any (st.getD 25 0) (st.getD 26 0) base (st_in hz 26) hb w)
  have HS3 := Lib.hid (fun w => side_any (st.getD 9 0) (st.getD 10 0) base (st_in hz 10) hb w)
  have HE := Lib.hid (fun w => edges_any st hl hz w)
  have HC := Lib.hid (fun (n : Int) (w : World) (h : Whole w W.heap.size 27 (i64s st)) => clamped_any st hl hz W.heap.size false n base hb w h)
  have i1 := befZ_bd st hz base
  have i2 := aftZ_bd st hz base
  have i3 := edgZ_bd st 3
  have i4 := edgZ_bd st 1
  have i5 := wwZ_bd st hz base
  have hr := wroom_sm st hz base hb
  have hv := wover_sm st hz base hb
  have hg := wgets_sm st _ hv
  have HO := Lib.hid (fun w => of_new [base] base (by simp) 1 rfl (by omega) (by intro z hz; simp only [List.mem_cons, List.not_mem_nil, or_false] at hz; rcases hz with rfl; exact hb) w 2 w.heap.size rfl #[.int .i64 base] rfl)
  have HO4 := Lib.hid (fun w => of_new [befZ st base, edgZ st 3, edgZ st 1, aftZ st base] (befZ st base + edgZ st 3 + edgZ st 1 + aftZ st base) (by simp; omega) 4 rfl (by omega) (by intro z hz; simp only [List.mem_cons, List.not_mem_nil, or_false] at hz; rcases hz with rfl | rfl | rfl | rfl <;> assumption) w 2 w.heap.size rfl #[.int .i64 (befZ st base), .int .i64 (edgZ st 3), .int .i64 (edgZ st 1), .int .i64 (aftZ st base)] rfl)
  have HM := Lib.hid (fun w => minus_any base (befZ st base + edgZ st 3 + edgZ st 1 + aftZ st base) (by unfold Tot I64 at *; omega) (by unfold Tot I64 at *; omega) w)
  have HH := Lib.hid (fun w => held_all (wroomZ st base) hr.tot w)
  rw [show base - (befZ st base + edgZ st 3 + edgZ st 1 + aftZ st base) = wroomZ st base from rfl] at HM
  rw [show sidZ (st.getD 29 0) (st.getD 30 0) base = befZ st base from rfl] at HS1
  rw [show sidZ (st.getD 25 0) (st.getD 26 0) base = aftZ st base from rfl] at HS2
  have HT := Lib.hid (show wtoldZ st base = if st.getD 9 0 = 0 then heldT (wroomZ st base) else sidZ (st.getD 9 0) (st.getD 10 0) base from rfl)
  have HC := Lib.hid (fun w h => HC.out (wtoldZ st base) w h)
  rw [show clampZ (wtoldZ st base) (minZ st false base) (maxZ st false base) = wwZ st base from rfl] at HC
  have HO1 := Lib.hid (fun (x : Value) (w : World) (h : madeT 1 2 [.int .i64 (wwZ st base)] x w) => of_told [wwZ st base] h rfl (by omega) (by intro z hz; simp only [List.mem_cons, List.not_mem_nil, or_false] at hz; rcases hz with rfl; exact i5))
  rw [show [wwZ st base].sum = wwZ st base by simp] at HO1
  have HM2 := Lib.hid (fun w => minus_any (wroomZ st base) (wwZ st base) hr.tot (by unfold Tot I64 at *; omega) w)
  rw [show wroomZ st base - wwZ st base = woverZ st base from rfl] at HM2
  have HA := Lib.hid (fun (w : World) (h : Whole w W.heap.size 27 (i64s st)) => ahead_any st hl (woverZ st base) (by unfold Sm; omega) W.heap.size w h)
  have HP1 := Lib.hid (fun w => plus_any (wgetsZ st (woverZ st base)) (befZ st base) (by unfold Tot; omega) i1 w)
  have HH1 := Lib.hid (fun w => held_all (wgetsZ st (woverZ st base) + befZ st base) (by unfold Tot I64 at *; omega) w)
  have HM3 := Lib.hid (fun w => minus_any (woverZ st base) (wgetsZ st (woverZ st base)) (by unfold Tot; omega) (by unfold Tot; omega) w)
  have HP2 := Lib.hid (fun w => plus_any (woverZ st base - wgetsZ st (woverZ st base)) (aftZ st base) (by unfold Tot; omega) i2 w)
  have HH2 := Lib.hid (fun w => held_all (woverZ st base - wgetsZ st (woverZ st base) + aftZ st base) (by unfold Tot I64 at *; omega) w)
  rw [show heldT (wgetsZ st (woverZ st base) + befZ st base) = wleftZ st base from rfl] at HH1
  rw [show heldT (woverZ st base - wgetsZ st (woverZ st base) + aftZ st base) = wrightZ st base from rfl] at HH2
  clear i1 i2 i3 i4 i5 hr hv hg hb hz hl
  generalize wleftZ st base = zl at *
  generalize wrightZ st base = zr at *
  generalize wwZ st base = ww at *
  generalize wgetsZ st (woverZ st base) = gets at *
  generalize woverZ st base = over at *
  generalize wtoldZ st base = told at *
  generalize wroomZ st base = room at *
  generalize befZ st base = bef at *
  generalize aftZ st base = aft at *
  go_enter Try.func7, Try.ntmps7
  go_upto_region 1 with fail
  generalize (W.alloc _).alloc _ = w0 at *
  have c0 := S0.out.p.num 29 (by have := HL.out; omega)
  have c1 := S0.out.p.num 30 (by have := HL.out; omega)
  go_wp2_with fail
  refine (HS1.out _).mono ?_
  rintro e w1 ⟨rfl, hb⟩
  have S1 := Lib.hid (S0.out.under hb)
  clear hb S0 c0 c1
  have c0 := S1.out.p.num 25 (by have := HL.out; omega)
  have c1 := S1.out.p.num 26 (by have := HL.out; omega)
  go_wp2_with fail
  refine (HS2.out _).mono ?_
  rintro e w2 ⟨rfl, hb⟩
  have S2 := Lib.hid (S1.out.under hb)
  clear hb S1 c0 c1
  go_wp2_with (refine style_load (.tmp 2) rfl rfl W.heap.size rfl st HL.out ?_ ?_; (focus (exact S2.out.p)))
  refine (HE.out _).mono ?_
  rintro e w3 ⟨rfl, hb⟩
  have S3 := Lib.hid (S2.out.under hb)
  clear hb S2
  go_wp2_with fail
  refine (HO.out w3).mono ?_
  rintro e w4 ⟨rfl, hb⟩
  have S4 := Lib.hid ((S3.out.alloc _).under hb)
  clear hb S3
  go_wp2_with fail
  refine (HO4.out w4).mono ?_
  rintro e w5 ⟨rfl, hb⟩
  have S5 := Lib.hid ((S4.out.alloc _).under hb)
  clear hb S4
  go_wp2_with fail
  refine (HM.out w5).mono ?_
  rintro e w6 ⟨rfl, hb⟩
  have S6 := Lib.hid (S5.out.under hb)
  clear hb S5
  go_upto_region 5 with fail
  have T7 := Lib.hid (SumAt.mk' W w6 room S6.out.size)
  have S7 := Lib.hid (S6.out.alloc (.cells #[.int .i64 (tH room), .int .u64 (tL room)] 48))
  clear S6 HS1 HS2 HE HO HO4 HM
  generalize w6.alloc _ = w7 at *
  generalize w6.heap.size = t at *
  obtain ⟨c0, c1⟩ := T7.out.cells
  go_wp2_with fail
  refine (HH.out w7).mono ?_
  rintro e w8 ⟨rfl, hb⟩
  have T8 := Lib.hid (T7.out.under hb)
  have S8 := Lib.hid (S7.out.under hb)
  clear hb c0 c1 T7 S7 HH
  have c9 := S8.out.p.num 9 (by have := HL.out; omega)
  have c10 := S8.out.p.num 10 (by have := HL.out; omega)
  generalize st.getD 9 0 = k at *
  go_upto_if 55 with fail
  go_cut [14] from 55 to 63 (fun v14 wx => v14 = .int .i64 told ∧ WS W wx st ∧ SumAt W wx t room)
  case first =>
    by_cases h : k = 0
    · have b : (k == 0) = true := by rw [beq_iff_eq]; exact h
      have e : told = heldT room := by rw [HT.out, if_pos h]
      go_wp2_with fail
      go_meet
      exact ⟨by rw [e], S8.out, T8.out⟩
    · have b : (k == 0) = false := by rw [beq_eq_false_iff_ne]; exact h
      have e : told = sidZ k (st.getD 10 0) base := by rw [HT.out, if_neg h]
      clear h
      go_wp2_with fail
      refine (HS3.out _).mono ?_
      rintro e2 w9 ⟨rfl, hb⟩
      have S9 := Lib.hid (S8.out.under hb)
      have T9 := Lib.hid (T8.out.under hb)
      go_wp2_with fail
      go_meet
      exact ⟨by rw [e, List.getD_eq_getElem?_getD], S9.out, T9.out⟩
  case rest =>
    obtain ⟨rfl, S9, T9⟩ := hcut
    have S9 := Lib.hid S9
    have T9 := Lib.hid T9
    clear S8 T8 c9 c10 HS3 HT
    go_wp2_with fail
    refine (HC.out wc S9.out.p).mono ?_
    rintro e w10 ⟨rfl, hb⟩
    have S10 := Lib.hid (S9.out.under hb)
    have T10 := Lib.hid (T9.out.under hb)
    clear hb S9 T9 HC
    go_upto_region 9 with fail
    have YT := Lib.hid (fun t : Later w10.heap.size w10 => (T10.out.under t.h).cells)
    have y0 : ∀ x : Later w10.heap.size w10, x.w.cell? ⟨t, 0, none⟩ = some (.int .i64 (tH room)) := fun x => (YT.out x).1
    have y1 : ∀ x : Later w10.heap.size w10, x.w.cell? ⟨t, 1, none⟩ = some (.int .u64 (tL room)) := fun x => (YT.out x).2
    refine region_lane [] [0, 1, 2, 3, 4, 5] [6] (by kernel_rfl) (by kernel_rfl) (fun _ _ _ _ _ h => h) ?_
    simp only [pick, List.map_nil]
    refine wpQuiet_nil ⟨rfl, ?_⟩
    simp only [List.map_cons, List.map_nil, List.getD_cons_zero, List.getD_cons_succ, List.drop_succ_cons, List.drop_zero]
    refine laneO_run 2 (by kernel_rfl) ?_
    simp only [List.take_succ_cons, List.take_zero, List.drop_succ_cons, List.drop_zero]
    repeat (go_big_quiet_step (fail))
    refine wpQuiet_nil ?_
    refine laneO_told (madeT 1 2 [.int .i64 ww]) (madeT_steady _ _ _) (by kernel_rfl) rfl (fun w hw => .inl ⟨by rfl, ?_⟩) ?_
    focus (unfold gives; simp [go_sem]; exact madeT_new 1 2 #[.int .i64 ww] w)
    refine laneO_useCall (v := (totV ww)) rfl rfl (of_decide_eq_true (by rfl)) rfl (by rfl) (by rfl) rfl Try.func17 (by kernel_rfl) rfl (fun x w hw hx => HO1.out x w hx) ?_
    simp only [Act.put, List.setIfInBounds_toArray, List.set_cons_zero, List.set_cons_succ]
    refine laneO_call (v := (totV over)) (by kernel_rfl) (by rfl) (fun C hC h0 => ?_) ?_
    focus (go_big_quiet_op; exact ⟨_, fun w hw => (HM2.out w).mono fun e w' ⟨he, hb⟩ => ⟨he, hC _ _ hw hb⟩, rfl⟩)
    simp only [Act.put, List.setIfInBounds_toArray, List.set_cons_zero, List.set_cons_succ]
    refine laneO_told (newT w10.heap.size 48 [.int .i64 0, .int .u64 0]) (newT_steady _ _ _) (by kernel_rfl) rfl (fun w hw => .inl ⟨by rfl, ?_⟩) ?_
    focus (unfold gives; simp [go_sem]; exact newT_new w10.heap.size 48 #[.int .i64 0, .int .u64 0] w hw.size)
    refine laneO_end (by simp) (by rfl) rfl rfl fun w11 hb0 => ?_
    rintro x ⟨g, rfl, hg1, hw1⟩ y hy
    clear hy
    simp only [fillAll, Act.put, List.setIfInBounds_toArray, List.set_cons_zero, List.set_cons_succ]
    have S11 := Lib.hid (S10.out.under hb0)
    have T11 := Lib.hid (T10.out.under hb0)
    have hgt : t < g := by have := T10.out.at_.size; omega
    have hgW : W.heap.size + 1 < g := by have := T10.out.far; omega
    have e0 := hw1.cell 0
    have e1 := hw1.cell 1
    simp only [List.getElem?_cons_zero, List.getElem?_cons_succ] at e0 e1
    have f0 := hw1.free 0
    have f1 := hw1.free 1
    have V12 : Hid (SumAt W ((w11.setCell ⟨g, 0, none⟩ (.int .i64 (tH over))).setCell ⟨g, 1, none⟩ (.int .u64 (tL over))) g over) := Lib.hid ⟨(hw1.put 0 _).put 1 _, hgW⟩
    have S12 := Lib.hid ((S11.out.other ⟨g, 0, none⟩ hgW (.int .i64 (tH over))).other ⟨g, 1, none⟩ hgW (.int .u64 (tL over)))
    clear hb0 S10 T10 YT y0 y1 HO1 HM2
    go_upto_region 10 with fail
    clear e0 e1 f0 f1 S11 T11 hw1
    generalize (w11.setCell _ _).setCell _ _ = w12 at *
    obtain ⟨c0, c1⟩ := V12.out.cells
    go_wp2_with fail
    refine (HA.out w12 S12.out.p).mono ?_
    rintro e w13 ⟨rfl, hb⟩
    have S13 := Lib.hid (S12.out.under hb)
    have V13 := Lib.hid (V12.out.under hb)
    clear hb S12 V12 HA c0 c1
    go_upto_region 11 with fail
    have G14 := Lib.hid (SumAt.mk' W w13 gets S13.out.size)
    have S14 := Lib.hid (S13.out.alloc (.cells #[.int .i64 (tH gets), .int .u64 (tL gets)] 48))
    have V14 := Lib.hid (V13.out.under ((Below.refl _ _).alloc (Nat.le_refl _) (.cells #[.int .i64 (tH gets), .int .u64 (tL gets)] 48)))
    clear S13 V13
    generalize w13.alloc _ = w14 at *
    generalize w13.heap.size = q at *
    have YV := Lib.hid (fun x : Later w14.heap.size w14 => (V14.out.under x.h).cells)
    have YG := Lib.hid (fun x : Later w14.heap.size w14 => (G14.out.under x.h).cells)
    have y0 : ∀ x : Later w14.heap.size w14, x.w.cell? ⟨g, 0, none⟩ = some (.int .i64 (tH over)) := fun x => (YV.out x).1
    have y1 : ∀ x : Later w14.heap.size w14, x.w.cell? ⟨g, 1, none⟩ = some (.int .u64 (tL over)) := fun x => (YV.out x).2
    have y2 : ∀ x : Later w14.heap.size w14, x.w.cell? ⟨q, 0, none⟩ = some (.int .i64 (tH gets)) := fun x => (YG.out x).1
    have y3 : ∀ x : Later w14.heap.size w14, x.w.cell? ⟨q, 1, none⟩ = some (.int .u64 (tL gets)) := fun x => (YG.out x).2
    refine region_lane [] [0, 1, 2, 3, 4, 5, 6, 7, 8, 9, 10, 11] [12] (by kernel_rfl) (by kernel_rfl) (fun _ _ _ _ _ h => h) ?_
    simp only [pick, List.map_nil]
    refine wpQuiet_nil ⟨rfl, ?_⟩
    simp only [List.map_cons, List.map_nil, List.getD_cons_zero, List.getD_cons_succ, List.drop_succ_cons, List.drop_zero]
    refine laneO_run 2 (by kernel_rfl) ?_
    simp only [List.take_succ_cons, List.take_zero, List.drop_succ_cons, List.drop_zero]
    repeat (go_big_quiet_step (fail))
    refine wpQuiet_nil ?_
    refine laneO_call (v := (totV (gets + bef))) (by kernel_rfl) (by rfl) (fun C hC h0 => ?_) ?_
    focus (go_big_quiet_op; exact ⟨_, fun w hw => (HP1.out w).mono fun e w' ⟨he, hb⟩ => ⟨he, hC _ _ hw hb⟩, rfl⟩)
    simp only [Act.put, List.setIfInBounds_toArray, List.set_cons_zero, List.set_cons_succ]
    refine laneO_call (v := (.int .i64 zl)) (by kernel_rfl) (by rfl) (fun C hC h0 => ?_) ?_
    focus (go_big_quiet_op; exact ⟨_, fun w hw => (HH1.out w).mono fun e w' ⟨he, hb⟩ => ⟨he, hC _ _ hw hb⟩, rfl⟩)
    simp only [Act.put, List.setIfInBounds_toArray, List.set_cons_zero, List.set_cons_succ]
    refine laneO_run 3 (by kernel_rfl) ?_
    simp only [List.take_succ_cons, List.take_zero, List.drop_succ_cons, List.drop_zero]
    repeat (go_big_quiet_step (fail))
    refine wpQuiet_nil ?_
    refine laneO_call (v := (totV (over - gets))) (by kernel_rfl) (by rfl) (fun C hC h0 => ?_) ?_
    focus (go_big_quiet_op; exact ⟨_, fun w hw => (HM3.out w).mono fun e w' ⟨he, hb⟩ => ⟨he, hC _ _ hw hb⟩, rfl⟩)
    simp only [Act.put, List.setIfInBounds_toArray, List.set_cons_zero, List.set_cons_succ]
    refine laneO_run 1 (by kernel_rfl) ?_
    simp only [List.take_succ_cons, List.take_zero, List.drop_succ_cons, List.drop_zero]
    repeat (go_big_quiet_step (fail))
    refine wpQuiet_nil ?_
    refine laneO_call (v := (totV (over - gets + aft))) (by kernel_rfl) (by rfl) (fun C hC h0 => ?_) ?_
    focus (go_big_quiet_op; exact ⟨_, fun w hw => (HP2.out w).mono fun e w' ⟨he, hb⟩ => ⟨he, hC _ _ hw hb⟩, rfl⟩)
    simp only [Act.put, List.setIfInBounds_toArray, List.set_cons_zero, List.set_cons_succ]
    refine laneO_call (v := (.int .i64 zr)) (by kernel_rfl) (by rfl) (fun C hC h0 => ?_) ?_
    focus (go_big_quiet_op; exact ⟨_, fun w hw => (HH2.out w).mono fun e w' ⟨he, hb⟩ => ⟨he, hC _ _ hw hb⟩, rfl⟩)
    simp only [Act.put, List.setIfInBounds_toArray, List.set_cons_zero, List.set_cons_succ]
    refine laneO_fixed (v := .agg #[.int .i64 zl, .int .i64 ww, .int .i64 zr]) (by kernel_rfl) (fun w hw => .inl ⟨by rfl, built_gives _ _ rfl _ (by kernel_rfl)⟩) ?_
    simp only [Act.put, List.setIfInBounds_toArray, List.set_cons_zero, List.set_cons_succ]
    refine laneO_end0 rfl rfl fun w15 hb0 => ?_
    have S15 := Lib.hid (S14.out.under hb0)
    clear hb0 S14 V14 G14 YV YG y0 y1 y2 y3 HP1 HH1 HM3 HP2 HH2
    have r0 := S15.out.r.num 0 (by simp)
    have r1 := S15.out.r.num 1 (by simp)
    have r2 := S15.out.r.num 2 (by simp)
    simp only [List.getD_cons_zero, List.getD_cons_succ] at r0 r1 r2
    have q0 := S15.out.r.free 0
    have q1 := S15.out.r.free 1
    have q2 := S15.out.r.free 2
    have R16 := Lib.hid (((S15.out.r.putNum 0 zl).putNum 1 ww).putNum 2 zr)
    have B16 := Lib.hid (((S15.out.b.setCell (p := ⟨W.heap.size + 1, 0, none⟩) (by simp) (.int .i64 zl)).setCell (p := ⟨W.heap.size + 1, 1, none⟩) (by simp) (.int .i64 ww)).setCell (p := ⟨W.heap.size + 1, 2, none⟩) (by simp) (.int .i64 zr))
    simp only [List.set_cons_zero, List.set_cons_succ] at R16
    go_wp2_with fail
    exact flat_end (n := 3) ⟨⟨_, Try.underlying29, rfl⟩, by kernel_rfl⟩ rfl (W.heap.size + 1) rfl [zl, ww, zr] rfl 29 R16.out rfl ⟨rfl, B16.out⟩
end Go.Proofs.Ytjhmdflagkenbaa
