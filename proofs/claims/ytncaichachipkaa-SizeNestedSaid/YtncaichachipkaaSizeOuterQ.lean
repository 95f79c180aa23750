import Derived.Test.YtncaichachipkaaSizeMaxQ
import Derived.Test.YtncaichachipkaaBoxMemQ
import Derived.Test.YtncaichachipkaaZQ
import Derived.Test.YtncaichachipkaaExactSumQ
/- size.outer. -/
namespace Go.Proofs.Ytncaichachipkaa
open Go Go.RowKit
set_option linter.unusedVariables false
set_option linter.unusedSimpArgs false
set_option maxRecDepth 20000
set_option maxHeartbeats 4000000

theorem mid_gives {P : Program} {o : Oper} {a : Act} {w : World} {ty : TypeId} (x : Operand) (ho : o.op = .load ty x) (g q : Nat) (hx : a.eval x = .pointer (some ⟨g, q, none⟩)) (cs : List Value) (d : TypeDesc) (hc : w.rangeAt g q cs)
    (hu : P.underlying ty = some d) (hd : d.isRow = true) (hi : (P.info? ty).map (·.size) = some cs.length) : gives P o a w fun u _ => u = .agg cs.toArray := by
  unfold gives execOp
  simp only [ho, hx, Instr.loadAt, Instr.sureAddr, Sem.run_bind, Sem.run_pure, Result.andThen_ok, run_loadVar_mid w g q ty cs d hc hu hd hi]
  exact ⟨Behind.refl w, trivial⟩
def nZ (st : List Int) (n : Int) : Int := if st.getD 9 0 = 1 then st.getD 10 0 else n
theorem innerZ_n (st : List Int) (n : Int) : innerZ st n = clampZ (nZ st n) (minZ st false (-1)) (maxZ st false (-1)) := rfl
theorem tot_add {t n : Int} (ht : -1000000000000000000000000 ≤ t ∧ t ≤ 1000000000000000000000000) (hn : I64 n) : Tot (t + n) ∧ Tot t := by unfold Tot I64 at *; omega

/-- The sum on its way (at W's end), the style in place. -/
structure OSt (W w : World) (b g q : Nat) (st : List Int) (s : Int) : Prop where
  own : W.heap.size ≤ b
  tot : Whole w b 58 [.int .i64 (tH s), .int .u64 (tL s)]
  low : Below W.heap.size W w
  sty : w.rangeAt g q (i64s st)
  near : g < W.heap.size
section
variable {W w w' : World} {b g q : Nat} {st : List Int} {s : Int}
theorem OSt.size (h : OSt W w b g q st s) : W.heap.size < w.heap.size := Nat.lt_of_le_of_lt h.own h.tot.size
theorem OSt.behind (h : OSt W w b g q st s) (hb : Below w.heap.size w w') : OSt W w' b g q st s :=
  ⟨h.own, h.tot.under hb h.tot.size, h.low.trans (hb.mono (by have := h.size; omega)), range_keep h.sty (hb.block g (by have := h.size; have := h.near; omega)), h.near⟩
theorem OSt.put (h : OSt W w b g q st s) (t : Int) : OSt W ((w.setCell ⟨b, 0, none⟩ (.int .i64 (tH t))).setCell ⟨b, 1, none⟩ (.int .u64 (tL t))) b g q st t :=
  have hb := (h.low.setCell (p := ⟨b, 0, none⟩) h.own (.int .i64 (tH t))).setCell (p := ⟨b, 1, none⟩) h.own (.int .u64 (tL t))
  ⟨h.own, (h.tot.put 0 _).put 1 _, hb, range_keep h.sty ((hb.block g h.near).trans (h.low.block g h.near).symm), h.near⟩
theorem OSt.cells (h : OSt W w b g q st s) : w.cell? ⟨b, 0, none⟩ = some (.int .i64 (tH s)) ∧ w.cell? ⟨b, 1, none⟩ = some (.int .u64 (tL s)) ∧ w.frozen? ⟨b, 0, none⟩ = false ∧ w.frozen? ⟨b, 1, none⟩ = false :=
  ⟨h.tot.cell 0, h.tot.cell 1, h.tot.free 0, h.tot.free 1⟩
end
theorem of_toldO (inn : Int) (hi : I64 inn) {x : Value} {w : World} (hx : madeT 1 2 [.int .i64 inn] x w) :
    Calls Try.prog 17 #[x] w fun e w' => e = .returned (totV inn) ∧ Below w.heap.size w w' := by
  obtain ⟨b, rfl, hb⟩ := hx
  have := of_any [inn] (fun z hz => by simp at hz; rw [hz]; exact hi) (by simp) (some ⟨b, 0, none⟩) 1 w fun _ => ⟨_, rfl, (Array.getElem?_eq_some_iff.1 hb).1, fun i h => by
    have hi0 : i = 0 := by have h2 : i < 1 := h; omega
    subst hi0
    rw [head_add, World.cell?, hb]
    rfl⟩
  simpa using this
theorem outer_any (st : List Int) (hl : st.length = 43) (hz : ∀ z ∈ st, I64 z) (g q : Nat) (n : Int) (hn : I64 n) (W : World) (hg : g < W.heap.size) (hR : W.rangeAt g q (i64s st)) :
    Calls Try.prog 12 #[.pointer (some ⟨g, q, none⟩), .int .i64 n] W fun e w' => e = .returned (.int .i64 (outerZ st n)) ∧ Below W.heap.size W w' := by
  have HL := Lib.hid hl
  have HZ := Lib.hid hz
  have HR := Lib.hid hR
  have hnz : Hid (I64 (nZ st n)) := Lib.hid (by unfold nZ; split; exact st_in hz 10; exact hn)
  have HM := Lib.hid (fun w => min_any st hl hz false (-1) (by unfold I64; omega) w)
  have HX := Lib.hid (fun w => max_any st hl hz false (-1) (by unfold I64; omega) w)
  have HC := Lib.hid (fun w => clamp_any (nZ st n) (minZ st false (-1)) (maxZ st false (-1)) w)
  have hib : Hid (I64 (innerZ st n)) := Lib.hid (clampZ_bd _ _ _ hnz.out (minZ_bd st hz _ _) (maxZ_bd st hz _ _))
  rw [← innerZ_n] at HC
  have HO := Lib.hid (show outerZ st n = heldT (innerZ st n + (st.getD 34 0 + st.getD 38 0 + if st.getD 29 0 = 1 then st.getD 30 0 else 0) + (st.getD 32 0 + st.getD 36 0 + if st.getD 25 0 = 1 then st.getD 26 0 else 0)) from rfl)
  have HN := Lib.hid (show nZ st n = if st.getD 9 0 = 1 then st.getD 10 0 else n from rfl)
  have HV : Hid (∀ w : World, w.rangeAt g q (i64s st) → w.cell? ⟨g, q + 9, none⟩ = some (.int .i64 (st.getD 9 0)) ∧ w.cell? ⟨g, q + 10, none⟩ = some (.int .i64 (st.getD 10 0)) ∧ w.cell? ⟨g, q + 25, none⟩ = some (.int .i64 (st.getD 25 0)) ∧ w.cell? ⟨g, q + 26, none⟩ = some (.int .i64 (st.getD 26 0)) ∧ w.cell? ⟨g, q + 29, none⟩ = some (.int .i64 (st.getD 29 0)) ∧ w.cell? ⟨g, q + 30, none⟩ = some (.int .i64 (st.getD 30 0)) ∧ w.cell? ⟨g, q + 32, none⟩ = some (.int .i64 (st.getD 32 0)) ∧ w.cell? ⟨g, q + 34, none⟩ = some (.int .i64 (st.getD 34 0)) ∧ w.cell? ⟨g, q + 36, none⟩ = some (.int .i64 (st.getD 36 0)) ∧ w.cell? ⟨g, q + 38, none⟩ = some (.int .i64 (st.getD 38 0))) := Lib.hid fun w hr => ⟨style_num hr 9 (by omega), style_num hr 10 (by omega), style_num hr 25 (by omega), style_num hr 26 (by omega), style_num hr 29 (by omega), style_num hr 30 (by omega), style_num hr 32 (by omega), style_num hr 34 (by omega), style_num hr 36 (by omega), style_num hr 38 (by omega)⟩
  have SB : Hid (I64 (st.getD 9 0) ∧ I64 (st.getD 10 0) ∧ I64 (st.getD 25 0) ∧ I64 (st.getD 26 0) ∧ I64 (st.getD 29 0) ∧ I64 (st.getD 30 0) ∧ I64 (st.getD 32 0) ∧ I64 (st.getD 34 0) ∧ I64 (st.getD 36 0) ∧ I64 (st.getD 38 0)) := Lib.hid ⟨st_in hz 9, st_in hz 10, st_in hz 25, st_in hz 26, st_in hz 29, st_in hz 30, st_in hz 32, st_in hz 34, st_in hz 36, st_in hz 38⟩
  clear hl hz hR
  generalize outerZ st n = out at *
  generalize innerZ st n = inn at *
  generalize hmn : minZ st false (-1) = mn at *
  generalize hmx : maxZ st false (-1) = mx at *
  clear hmn hmx
  generalize st.getD 9 0 = z9 at *
  generalize st.getD 10 0 = z10 at *
  generalize st.getD 25 0 = z25 at *
  generalize st.getD 26 0 = z26 at *
  generalize st.getD 29 0 = z29 at *
  generalize st.getD 30 0 = z30 at *
  generalize st.getD 32 0 = z32 at *
  generalize st.getD 34 0 = z34 at *
  generalize st.getD 36 0 = z36 at *
  generalize st.getD 38 0 = z38 at *
  generalize nZ st n = n1 at *
  obtain ⟨c9, c10, -, -, -, -, -, -, -, -⟩ := HV.out W HR.out
  go_enter Try.func12, Try.ntmps12
  go_upto_if 13 with fail
  go_cut [1] from 14 to 18 (fun v1 wx => v1 = .int .i64 n1 ∧ wx = W)
  case first =>
    by_cases h : z9 = 1
    · have e : n1 = z10 := by rw [HN.out, if_pos h]
      have b : (z9 == 1) = true := by rw [beq_iff_eq]; exact h
      go_wp2
      go_meet
      exact ⟨by rw [e], rfl⟩
    · have e : n1 = n := by rw [HN.out, if_neg h]
      have b : (z9 == 1) = false := by rw [beq_eq_false_iff_ne]; exact h
      go_wp2
      go_meet
      exact ⟨by rw [e], rfl⟩
  case rest =>
    obtain ⟨rfl, rfl⟩ := hcut
    clear c9 c10
    go_upto_region 3 with fail
    have YS := Lib.hid (fun w (hb : Behind wc w) => range_keep HR.out (hb.block g hg))
    refine region_lane [] [0, 1, 2, 3, 4, 5, 6, 7, 8, 9, 10, 11, 12] [13] (by kernel_rfl) (by kernel_rfl) (fun _ _ _ _ _ h => h) ?_
    simp only [pick, List.map_nil]
    refine wpQuiet_nil ⟨rfl, ?_⟩
    simp only [List.map_cons, List.map_nil, List.getD_cons_zero, List.getD_cons_succ, List.drop_succ_cons, List.drop_zero]
    refine laneO_run 3 (by kernel_rfl) ?_
    simp only [List.take_succ_cons, List.take_zero, List.drop_succ_cons, List.drop_zero]
    repeat (go_big_quiet_step (fail))
    refine wpQuiet_nil ?_
    refine laneO_fixed (v := .agg (i64s st).toArray) (by kernel_rfl) (fun w hw => .inl ⟨by rfl, mid_gives _ rfl _ _ rfl (i64s st) _ (YS.out w hw) Try.underlying33 rfl (by rw [style_size]; simp [i64s_length, HL.out])⟩) ?_
    simp only [Act.put, List.setIfInBounds_toArray, List.set_cons_zero, List.set_cons_succ]
    refine laneO_call (v := (.int .i64 mn)) (by kernel_rfl) (by rfl) (fun C hC h0 => ?_) ?_
    focus (go_big_quiet_op; exact ⟨_, fun w hw => (HM.out w).mono fun e w' ⟨he, hb⟩ => ⟨he, hC _ _ hw hb⟩, rfl⟩)
    simp only [Act.put, List.setIfInBounds_toArray, List.set_cons_zero, List.set_cons_succ]
    refine laneO_run 2 (by kernel_rfl) ?_
    simp only [List.take_succ_cons, List.take_zero, List.drop_succ_cons, List.drop_zero]
    repeat (go_big_quiet_step (fail))
    refine wpQuiet_nil ?_
    refine laneO_fixed (v := .agg (i64s st).toArray) (by kernel_rfl) (fun w hw => .inl ⟨by rfl, mid_gives _ rfl _ _ rfl (i64s st) _ (YS.out w hw) Try.underlying33 rfl (by rw [style_size]; simp [i64s_length, HL.out])⟩) ?_
    simp only [Act.put, List.setIfInBounds_toArray, List.set_cons_zero, List.set_cons_succ]
    refine laneO_call (v := (.int .i64 mx)) (by kernel_rfl) (by rfl) (fun C hC h0 => ?_) ?_
    focus (go_big_quiet_op; exact ⟨_, fun w hw => (HX.out w).mono fun e w' ⟨he, hb⟩ => ⟨he, hC _ _ hw hb⟩, rfl⟩)
    simp only [Act.put, List.setIfInBounds_toArray, List.set_cons_zero, List.set_cons_succ]
    refine laneO_call (v := (.int .i64 inn)) (by kernel_rfl) (by rfl) (fun C hC h0 => ?_) ?_
    focus (go_big_quiet_op; exact ⟨_, fun w hw => (HC.out w).mono fun e w' ⟨he, hb⟩ => ⟨he, hb ▸ hw⟩, rfl⟩)
    simp only [Act.put, List.setIfInBounds_toArray, List.set_cons_zero, List.set_cons_succ]
    refine laneO_told (madeT 1 2 [.int .i64 inn]) (madeT_steady _ _ _) (by kernel_rfl) rfl (fun w hw => .inl ⟨by rfl, ?_⟩) ?_
    · unfold gives
      simp [go_sem]
      exact madeT_new 1 2 #[.int .i64 inn] w
    refine laneO_useCall (v := totV inn) rfl rfl (of_decide_eq_true (by rfl)) rfl (by rfl) (by rfl) rfl Try.func17 (by kernel_rfl) rfl (fun x w hw hx => of_toldO inn hib.out hx) ?_
    simp only [Act.put, List.setIfInBounds_toArray, List.set_cons_zero, List.set_cons_succ]
    refine laneO_told (newT wc.heap.size 58 [.int .i64 0, .int .u64 0]) (newT_steady _ _ _) (by kernel_rfl) rfl (fun w hw => .inl ⟨by rfl, ?_⟩) ?_
    focus (unfold gives; simp [go_sem]; exact newT_new wc.heap.size 58 #[.int .i64 0, .int .u64 0] w hw.size)
    refine laneO_end (by simp) (by rfl) rfl rfl fun wb hb0 => ?_
    rintro x1 ⟨gp, rfl, hgp, hV⟩ x ⟨gx, rfl, hx⟩
    simp only [Act.put, List.setIfInBounds_toArray, List.set_cons_zero, List.set_cons_succ, fillAll]
    have S2 : Hid (OSt wc wb gp g q st 0) := Lib.hid ⟨hgp, hV, hb0, YS.out wb hb0, hg⟩
    clear hV
    obtain ⟨p0, p1, p2, p3⟩ := S2.out.cells
    have S3 := Lib.hid (S2.out.put inn)
    clear YS hb0 HM HX HC hx
    go_upto_region 4 with fail
    clear p0 p1 p2 p3 S2
    generalize (wb.setCell ⟨gp, 0, none⟩ (.int .i64 (tH inn))).setCell ⟨gp, 1, none⟩ (.int .u64 (tL inn)) = w3 at *
    clear HR hnz HN
    go_upto_region 5 with fail
    go_loopw [32] (fun v32 wr => ∃ s, ((v32 = .int .i64 0 ∧ Hid (s = inn)) ∨ (v32 = .int .i64 1 ∧ Hid (s = inn + (z34 + z38 + if z29 = 1 then z30 else 0))) ∨ (v32 = .int .i64 2 ∧ Hid (s = inn + (z34 + z38 + if z29 = 1 then z30 else 0) + (z32 + z36 + if z25 = 1 then z26 else 0)))) ∧ Hid (OSt wc wr gp g q st s)) (fun v32 _ => 2 - (intOf v32).toNat)
    case atStart => exact ⟨inn, .inl ⟨rfl, Lib.hid rfl⟩, S3⟩
    case round =>
      clear S3
      obtain ⟨s, hc, S⟩ := hrel
      rcases hc with ⟨rfl, hs⟩ | ⟨rfl, hs⟩ | ⟨rfl, hs⟩
      · have hbd : -100000000000000000000000 ≤ s ∧ s ≤ 100000000000000000000000 := by
          rw [hs.out]
          obtain ⟨-, -, ⟨a1, a2⟩, ⟨b1, b2⟩, ⟨d1, d2⟩, ⟨e1, e2⟩, ⟨f1, f2⟩, ⟨g1, g2⟩, ⟨h1, h2⟩, ⟨i1, i2⟩⟩ := SB.out
          obtain ⟨k1, k2⟩ := hib.out
          first | omega | (split <;> omega)
        obtain ⟨-, -, I25, I26, I29, I30, I32, I34, I36, I38⟩ := SB.out
        have P1 := Lib.hid (fun w => plus_any s z34 (by unfold Tot I64 at *; omega) (by assumption) w)
        have P2 := Lib.hid (fun w => plus_any (s + z34) z38 (by unfold Tot I64 at *; omega) (by assumption) w)
        have P3 := Lib.hid (fun w => plus_any (s + z34 + z38) z30 (by unfold Tot I64 at *; omega) (by assumption) w)
        clear I25 I26 I29 I30 I32 I34 I36 I38 hbd
        have HI : Hid (∀ w, (Instr.index 60 (.agg #[.int .i64 3, .int .i64 1]) (.int .i64 0)).run Try.prog w = .ok (.int .i64 3) w) := Lib.hid fun w => run_index_ints (n := 2) Try.underlying60 (by kernel_rfl) (by kernel_rfl) [3, 1] rfl 0 (by decide) w
        go_upto_region 7 with (rw [HI.out])
        clear HI
        have Y0 := Lib.hid (fun t : Later wr.heap.size wr => (S.out.behind t.h).cells)
        have YV := Lib.hid (fun t : Later wr.heap.size wr => HV.out t.w (S.out.behind t.h).sty)
        have y0 : ∀ t : Later wr.heap.size wr, t.w.cell? ⟨gp, 0, none⟩ = some (.int .i64 (tH s)) := fun t => (Y0.out t).1
        have y1 : ∀ t : Later wr.heap.size wr, t.w.cell? ⟨gp, 1, none⟩ = some (.int .u64 (tL s)) := fun t => (Y0.out t).2.1
        have y2 : ∀ t : Later wr.heap.size wr, t.w.cell? ⟨g, q + 34, none⟩ = some (.int .i64 z34) := fun t => by obtain ⟨-, -, v25, v26, v29, v30, v32, v34, v36, v38⟩ := YV.out t; assumption
        have y3 : ∀ t : Later wr.heap.size wr, t.w.cell? ⟨g, q + 38, none⟩ = some (.int .i64 z38) := fun t => by obtain ⟨-, -, v25, v26, v29, v30, v32, v34, v36, v38⟩ := YV.out t; assumption
        refine region_lane [] (List.range 15) [15] (by kernel_rfl) (by kernel_rfl) (fun _ _ _ _ _ h => h) ?_
        simp only [pick, List.map_nil]
        refine wpQuiet_nil ⟨rfl, ?_⟩
        rw [show List.range 15 = [0, 1, 2, 3, 4, 5, 6, 7, 8, 9, 10, 11, 12, 13, 14] from rfl]
        simp only [List.map_cons, List.map_nil, List.getD_cons_zero, List.getD_cons_succ, List.drop_succ_cons, List.drop_zero]
        refine laneO_run 7 (by kernel_rfl) ?_
        simp only [List.take_succ_cons, List.take_zero, List.drop_succ_cons, List.drop_zero]
        repeat (go_big_quiet_step (fail))
        refine wpQuiet_nil ?_
        refine laneO_call (v := (totV (s + z34))) (by kernel_rfl) (by rfl) (fun C hC h0 => ?_) ?_
        focus (go_big_quiet_op; exact ⟨_, fun w hw => (P1.out w).mono fun e w' ⟨he, hb⟩ => ⟨he, hC _ _ hw hb⟩, rfl⟩)
        simp only [Act.put, List.setIfInBounds_toArray, List.set_cons_zero, List.set_cons_succ]
        refine laneO_run 6 (by kernel_rfl) ?_
        simp only [List.take_succ_cons, List.take_zero, List.drop_succ_cons, List.drop_zero]
        repeat (go_big_quiet_step (fail))
        refine wpQuiet_nil ?_
        refine laneO_call (v := (totV (s + z34 + z38))) (by kernel_rfl) (by rfl) (fun C hC h0 => ?_) ?_
        focus (go_big_quiet_op; exact ⟨_, fun w hw => (P2.out w).mono fun e w' ⟨he, hb⟩ => ⟨he, hC _ _ hw hb⟩, rfl⟩)
        simp only [Act.put, List.setIfInBounds_toArray, List.set_cons_zero, List.set_cons_succ]
        refine laneO_end0 rfl rfl fun w2 hb0 => ?_
        have S2 := Lib.hid (S.out.behind hb0)
        obtain ⟨p0, p1, p2, p3⟩ := S2.out.cells
        have S3 := Lib.hid (S2.out.put (s + z34 + z38))
        clear y0 y1 y2 y3 Y0 YV S hb0 P1 P2
        go_upto_region 8 with fail
        clear p0 p1 p2 p3 S2
        generalize (w2.setCell ⟨gp, 0, none⟩ (.int .i64 (tH (s + z34 + z38)))).setCell ⟨gp, 1, none⟩ (.int .u64 (tL (s + z34 + z38))) = w3 at *
        have ck : w3.cell? ⟨g, q + 29, none⟩ = some (.int .i64 z29) := by obtain ⟨-, -, v25, v26, v29, v30, v32, v34, v36, v38⟩ := HV.out w3 S3.out.sty; assumption
        by_cases hk : z29 = 1
        · have b : (z29 == 1) = true := by rw [beq_iff_eq]; exact hk
          have HS := Lib.hid (show s + z34 + z38 + z30 = s + (z34 + z38 + if z29 = 1 then z30 else 0) by rw [if_pos hk]; omega)
          clear hk
          go_upto_region 9 with fail
          have Y0 := Lib.hid (fun t : Later w3.heap.size w3 => (S3.out.behind t.h).cells)
          have YV := Lib.hid (fun t : Later w3.heap.size w3 => HV.out t.w (S3.out.behind t.h).sty)
          have y0 : ∀ t : Later w3.heap.size w3, t.w.cell? ⟨gp, 0, none⟩ = some (.int .i64 (tH (s + z34 + z38))) := fun t => (Y0.out t).1
          have y1 : ∀ t : Later w3.heap.size w3, t.w.cell? ⟨gp, 1, none⟩ = some (.int .u64 (tL (s + z34 + z38))) := fun t => (Y0.out t).2.1
          have y2 : ∀ t : Later w3.heap.size w3, t.w.cell? ⟨g, q + 30, none⟩ = some (.int .i64 z30) := fun t => by obtain ⟨-, -, v25, v26, v29, v30, v32, v34, v36, v38⟩ := YV.out t; assumption
          refine region_lane [] [0, 1, 2, 3, 4, 5, 6, 7, 8] [9] (by kernel_rfl) (by kernel_rfl) (fun _ _ _ _ _ h => h) ?_
          simp only [pick, List.map_nil]
          refine wpQuiet_nil ⟨rfl, ?_⟩
          simp only [List.map_cons, List.map_nil, List.getD_cons_zero, List.getD_cons_succ, List.drop_succ_cons, List.drop_zero]
          refine laneO_run 8 (by kernel_rfl) ?_
          simp only [List.take_succ_cons, List.take_zero, List.drop_succ_cons, List.drop_zero]
          repeat (go_big_quiet_step (fail))
          refine wpQuiet_nil ?_
          refine laneO_call (v := (totV (s + z34 + z38 + z30))) (by kernel_rfl) (by rfl) (fun C hC h0 => ?_) ?_
          focus (go_big_quiet_op; exact ⟨_, fun w hw => (P3.out w).mono fun e w' ⟨he, hb⟩ => ⟨he, hC _ _ hw hb⟩, rfl⟩)
          simp only [Act.put, List.setIfInBounds_toArray, List.set_cons_zero, List.set_cons_succ]
          refine laneO_end0 rfl rfl fun w4 hb0 => ?_
          have S4 := Lib.hid (S3.out.behind hb0)
          obtain ⟨p0, p1, p2, p3⟩ := S4.out.cells
          have S5 := Lib.hid (S4.out.put (s + z34 + z38 + z30))
          clear y0 y1 y2 Y0 YV S3 hb0 P3 ck
          go_upto_region 10 with fail
          clear p0 p1 p2 p3 S4
          generalize (w4.setCell ⟨gp, 0, none⟩ (.int .i64 (tH (s + z34 + z38 + z30)))).setCell ⟨gp, 1, none⟩ (.int .u64 (tL (s + z34 + z38 + z30))) = w5 at *
          go_wp2
          go_roundw
          case rel => exact ⟨_, .inr (.inl ⟨rfl, Lib.hid (by rw [HS.out, hs.out])⟩), S5⟩
          case measure => simp [intOf]
        · have b : (z29 == 1) = false := by rw [beq_eq_false_iff_ne]; exact hk
          have HS := Lib.hid (show s + z34 + z38 = s + (z34 + z38 + if z29 = 1 then z30 else 0) by rw [if_neg hk]; omega)
          clear hk
          go_wp2
          go_roundw
          case rel => exact ⟨_, .inr (.inl ⟨rfl, Lib.hid (by rw [HS.out, hs.out])⟩), S3⟩
          case measure => simp [intOf]
      · have hbd : -100000000000000000000000 ≤ s ∧ s ≤ 100000000000000000000000 := by
          rw [hs.out]
          obtain ⟨-, -, ⟨a1, a2⟩, ⟨b1, b2⟩, ⟨d1, d2⟩, ⟨e1, e2⟩, ⟨f1, f2⟩, ⟨g1, g2⟩, ⟨h1, h2⟩, ⟨i1, i2⟩⟩ := SB.out
          obtain ⟨k1, k2⟩ := hib.out
          first | omega | (split <;> omega)
        obtain ⟨-, -, I25, I26, I29, I30, I32, I34, I36, I38⟩ := SB.out
        have P1 := Lib.hid (fun w => plus_any s z32 (by unfold Tot I64 at *; omega) (by assumption) w)
        have P2 := Lib.hid (fun w => plus_any (s + z32) z36 (by unfold Tot I64 at *; omega) (by assumption) w)
        have P3 := Lib.hid (fun w => plus_any (s + z32 + z36) z26 (by unfold Tot I64 at *; omega) (by assumption) w)
        clear I25 I26 I29 I30 I32 I34 I36 I38 hbd
        have HI : Hid (∀ w, (Instr.index 60 (.agg #[.int .i64 3, .int .i64 1]) (.int .i64 1)).run Try.prog w = .ok (.int .i64 1) w) := Lib.hid fun w => run_index_ints (n := 2) Try.underlying60 (by kernel_rfl) (by kernel_rfl) [3, 1] rfl 1 (by decide) w
        go_upto_region 7 with (rw [HI.out])
        clear HI
        have Y0 := Lib.hid (fun t : Later wr.heap.size wr => (S.out.behind t.h).cells)
        have YV := Lib.hid (fun t : Later wr.heap.size wr => HV.out t.w (S.out.behind t.h).sty)
        have y0 : ∀ t : Later wr.heap.size wr, t.w.cell? ⟨gp, 0, none⟩ = some (.int .i64 (tH s)) := fun t => (Y0.out t).1
        have y1 : ∀ t : Later wr.heap.size wr, t.w.cell? ⟨gp, 1, none⟩ = some (.int .u64 (tL s)) := fun t => (Y0.out t).2.1
        have y2 : ∀ t : Later wr.heap.size wr, t.w.cell? ⟨g, q + 32, none⟩ = some (.int .i64 z32) := fun t => by obtain ⟨-, -, v25, v26, v29, v30, v32, v34, v36, v38⟩ := YV.out t; assumption
        have y3 : ∀ t : Later wr.heap.size wr, t.w.cell? ⟨g, q + 36, none⟩ = some (.int .i64 z36) := fun t => by obtain ⟨-, -, v25, v26, v29, v30, v32, v34, v36, v38⟩ := YV.out t; assumption
        refine region_lane [] (List.range 15) [15] (by kernel_rfl) (by kernel_rfl) (fun _ _ _ _ _ h => h) ?_
        simp only [pick, List.map_nil]
        refine wpQuiet_nil ⟨rfl, ?_⟩
        rw [show List.range 15 = [0, 1, 2, 3, 4, 5, 6, 7, 8, 9, 10, 11, 12, 13, 14] from rfl]
        simp only [List.map_cons, List.map_nil, List.getD_cons_zero, List.getD_cons_succ, List.drop_succ_cons, List.drop_zero]
        refine laneO_run 7 (by kernel_rfl) ?_
        simp only [List.take_succ_cons, List.take_zero, List.drop_succ_cons, List.drop_zero]
        repeat (go_big_quiet_step (fail))
        refine wpQuiet_nil ?_
        refine laneO_call (v := (totV (s + z32))) (by kernel_rfl) (by rfl) (fun C hC h0 => ?_) ?_
        focus (go_big_quiet_op; exact ⟨_, fun w hw => (P1.out w).mono fun e w' ⟨he, hb⟩ => ⟨he, hC _ _ hw hb⟩, rfl⟩)
        simp only [Act.put, List.setIfInBounds_toArray, List.set_cons_zero, List.set_cons_succ]
        refine laneO_run 6 (by kernel_rfl) ?_
        simp only [List.take_succ_cons, List.take_zero, List.drop_succ_cons, List.drop_zero]
        repeat (go_big_quiet_step (fail))
        refine wpQuiet_nil ?_
        refine laneO_call (v := (totV (s + z32 + z36))) (by kernel_rfl) (by rfl) (fun C hC h0 => ?_) ?_
        focus (go_big_quiet_op; exact ⟨_, fun w hw => (P2.out w).mono fun e w' ⟨he, hb⟩ => ⟨he, hC _ _ hw hb⟩, rfl⟩)
        simp only [Act.put, List.setIfInBounds_toArray, List.set_cons_zero, List.set_cons_succ]
        refine laneO_end0 rfl rfl fun w2 hb0 => ?_
        have S2 := Lib.hid (S.out.behind hb0)
        obtain ⟨p0, p1, p2, p3⟩ := S2.out.cells
        have S3 := Lib.hid (S2.out.put (s + z32 + z36))
        clear y0 y1 y2 y3 Y0 YV S hb0 P1 P2
        go_upto_region 8 with fail
        clear p0 p1 p2 p3 S2
        generalize (w2.setCell ⟨gp, 0, none⟩ (.int .i64 (tH (s + z32 + z36)))).setCell ⟨gp, 1, none⟩ (.int .u64 (tL (s + z32 + z36))) = w3 at *
        have ck : w3.cell? ⟨g, q + 25, none⟩ = some (.int .i64 z25) := by obtain ⟨-, -, v25, v26, v29, v30, v32, v34, v36, v38⟩ := HV.out w3 S3.out.sty; assumption
        by_cases hk : z25 = 1
        · have b : (z25 == 1) = true := by rw [beq_iff_eq]; exact hk
          have HS := Lib.hid (show s + z32 + z36 + z26 = s + (z32 + z36 + if z25 = 1 then z26 else 0) by rw [if_pos hk]; omega)
          clear hk
          go_upto_region 9 with fail
          have Y0 := Lib.hid (fun t : Later w3.heap.size w3 => (S3.out.behind t.h).cells)
          have YV := Lib.hid (fun t : Later w3.heap.size w3 => HV.out t.w (S3.out.behind t.h).sty)
          have y0 : ∀ t : Later w3.heap.size w3, t.w.cell? ⟨gp, 0, none⟩ = some (.int .i64 (tH (s + z32 + z36))) := fun t => (Y0.out t).1
          have y1 : ∀ t : Later w3.heap.size w3, t.w.cell? ⟨gp, 1, none⟩ = some (.int .u64 (tL (s + z32 + z36))) := fun t => (Y0.out t).2.1
          have y2 : ∀ t : Later w3.heap.size w3, t.w.cell? ⟨g, q + 26, none⟩ = some (.int .i64 z26) := fun t => by obtain ⟨-, -, v25, v26, v29, v30, v32, v34, v36, v38⟩ := YV.out t; assumption
          refine region_lane [] [0, 1, 2, 3, 4, 5, 6, 7, 8] [9] (by kernel_rfl) (by kernel_rfl) (fun _ _ _ _ _ h => h) ?_
          simp only [pick, List.map_nil]
          refine wpQuiet_nil ⟨rfl, ?_⟩
          simp only [List.map_cons, List.map_nil, List.getD_cons_zero, List.getD_cons_succ, List.drop_succ_cons, List.drop_zero]
          refine laneO_run 8 (by kernel_rfl) ?_
          simp only [List.take_succ_cons, List.take_zero, List.drop_succ_cons, List.drop_zero]
          repeat (go_big_quiet_step (fail))
          refine wpQuiet_nil ?_
          refine laneO_call (v := (totV (s + z32 + z36 + z26))) (by kernel_rfl) (by rfl) (fun C hC h0 => ?_) ?_
          focus (go_big_quiet_op; exact ⟨_, fun w hw => (P3.out w).mono fun e w' ⟨he, hb⟩ => ⟨he, hC _ _ hw hb⟩, rfl⟩)
          simp only [Act.put, List.setIfInBounds_toArray, List.set_cons_zero, List.set_cons_succ]
          refine laneO_end0 rfl rfl fun w4 hb0 => ?_
          have S4 := Lib.hid (S3.out.behind hb0)
          obtain ⟨p0, p1, p2, p3⟩ := S4.out.cells
          have S5 := Lib.hid (S4.out.put (s + z32 + z36 + z26))
          clear y0 y1 y2 Y0 YV S3 hb0 P3 ck
          go_upto_region 10 with fail
          clear p0 p1 p2 p3 S4
          generalize (w4.setCell ⟨gp, 0, none⟩ (.int .i64 (tH (s + z32 + z36 + z26)))).setCell ⟨gp, 1, none⟩ (.int .u64 (tL (s + z32 + z36 + z26))) = w5 at *
          go_wp2
          go_roundw
          case rel => exact ⟨_, .inr (.inr ⟨rfl, Lib.hid (by rw [HS.out, hs.out])⟩), S5⟩
          case measure => simp [intOf]
        · have b : (z25 == 1) = false := by rw [beq_eq_false_iff_ne]; exact hk
          have HS := Lib.hid (show s + z32 + z36 = s + (z32 + z36 + if z25 = 1 then z26 else 0) by rw [if_neg hk]; omega)
          clear hk
          go_wp2
          go_roundw
          case rel => exact ⟨_, .inr (.inr ⟨rfl, Lib.hid (by rw [HS.out, hs.out])⟩), S3⟩
          case measure => simp [intOf]
      · have R := Lib.hid (fun w => held_all s (by
          rw [hs.out]
          obtain ⟨-, -, ⟨a1, a2⟩, ⟨b1, b2⟩, ⟨d1, d2⟩, ⟨e1, e2⟩, ⟨f1, f2⟩, ⟨g1, g2⟩, ⟨h1, h2⟩, ⟨i1, i2⟩⟩ := SB.out
          obtain ⟨k1, k2⟩ := hib.out
          unfold Tot; split <;> split <;> omega) w)
        have E := Lib.hid (show out = heldT s by rw [HO.out, hs.out])
        obtain ⟨p0, p1, -, -⟩ := S.out.cells
        go_wp2_with fail
        refine (R.out _).mono ?_
        rintro e w' ⟨rfl, hb⟩
        have B2 := Lib.hid ((S.out.behind hb).low)
        go_wp2
        go_ret
        exact ⟨ret_int E.out.symm, B2.out⟩
end Go.Proofs.Ytncaichachipkaa
