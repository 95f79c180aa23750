import Derived.Test.YtmdlkffbegphjaaSizeMaxQ
import Derived.Test.YtmdlkffbegphjaaZQ
/- size.outer. -/
namespace Go.Proofs.Ytmdlkffbegphjaa
open Go Go.RowKit
set_option linter.unusedVariables false
set_option linter.unusedSimpArgs false
set_option maxRecDepth 20000
set_option maxHeartbeats 4000000

theorem mid_gives {P : Program} {o : Oper} {a : Act} {w : World} {ty : TypeId} (x : Operand) (ho : o.op = .load ty x) (g q : Nat) (hx : a.eval x = .pointer (some ⟨g, q, none⟩)) (cs : List Value) (d : TypeDesc) (hc : w.rangeAt g q cs)
    (hu : P.underlying ty = some d) (hd : d.isRow = true) (hi : (P.info? ty).map (·.size) = some cs.length) : gives P o a w fun u _ => u = .agg cs.toArray := by
  unfold gives execOp
  simp only [ho, hx, Instr.loadAt, Instr.sureAddr, Sem.run_bind, Sem.run_pure, Result.andThen_ok, run_loadVar_mid w g q ty cs d hc hu hd hi]
  exact ⟨Behind.refl w, trivial⟩
def nZ (st : List Int) (n : Int) : Int := if st.getD 9 0 = 1 then st.getD 10 0 else n
theorem innerZ_n (st : List Int) (n : Int) : innerZ st n = clampZ (nZ st n) (minZ st false (-1)) (maxZ st false (-1)) := rfl
theorem boundZ_bd (k n base : Int) (hn : I64 n) (hp : I64 (pctZ base n)) : I64 (boundZ k n base) := by unfold boundZ I64 at *; split <;> (try split) <;> omega
theorem pctZ_bd (b h : Int) : I64 (pctZ b h) := by
  have := hold_bd (nearZ (holdZ b * max (-1000000000) (min h 1000000000)) 10000)
  unfold pctZ I64; omega
theorem minZ_bd (st : List Int) (hz : ∀ z ∈ st, I64 z) (h : Bool) (b : Int) : I64 (minZ st h b) := by
  unfold minZ; split
  · exact boundZ_bd _ _ _ (st_in hz _) (pctZ_bd _ _)
  · exact boundZ_bd _ _ _ (st_in hz _) (pctZ_bd _ _)
theorem capZ_bd (k n base : Int) (hn : I64 n) (hp : I64 (pctZ base n)) : I64 (capZ k n base) := by
  unfold capZ; split
  · unfold I64; omega
  · exact boundZ_bd _ _ _ hn hp
theorem maxZ_bd (st : List Int) (hz : ∀ z ∈ st, I64 z) (h : Bool) (b : Int) : I64 (maxZ st h b) := by
  unfold maxZ; split
  · exact capZ_bd _ _ _ (st_in hz _) (pctZ_bd _ _)
  · exact capZ_bd _ _ _ (st_in hz _) (pctZ_bd _ _)
theorem clampZ_bd (n lo hi : Int) (h1 : I64 n) (h2 : I64 lo) (h3 : I64 hi) : I64 (clampZ n lo hi) := by unfold clampZ I64 at *; omega
theorem tot_add {t n : Int} (ht : -1000000000000000000000000 ≤ t ∧ t ≤ 1000000000000000000000000) (hn : I64 n) : Tot (t + n) ∧ Tot t := by unfold Tot I64 at *; omega

/-- The sum on its way (at W's end), the style in place. -/
structure OSt (W w : World) (g q : Nat) (st : List Int) (s : Int) : Prop where
  tot : Whole w W.heap.size 58 [.int .i64 (tH s), .int .u64 (tL s)]
  low : Below W.heap.size W w
  sty : w.rangeAt g q (i64s st)
  near : g < W.heap.size
section
variable {W w w' : World} {g q : Nat} {st : List Int} {s : Int}
theorem OSt.size (h : OSt W w g q st s) : W.heap.size < w.heap.size := h.tot.size
theorem OSt.behind (h : OSt W w g q st s) (hb : Below w.heap.size w w') : OSt W w' g q st s :=
  ⟨h.tot.under hb h.tot.size, h.low.trans (hb.mono (by have := h.size; omega)), range_keep h.sty (hb.block g (by have := h.size; have := h.near; omega)), h.near⟩
theorem OSt.put (h : OSt W w g q st s) (t : Int) : OSt W ((w.setCell ⟨W.heap.size, 0, none⟩ (.int .i64 (tH t))).setCell ⟨W.heap.size, 1, none⟩ (.int .u64 (tL t))) g q st t :=
  have hb := (h.low.setCell (p := ⟨W.heap.size, 0, none⟩) (Nat.le_refl _) (.int .i64 (tH t))).setCell (p := ⟨W.heap.size, 1, none⟩) (Nat.le_refl _) (.int .u64 (tL t))
  ⟨(h.tot.put 0 _).put 1 _, hb, range_keep h.sty ((hb.block g h.near).trans (h.low.block g h.near).symm), h.near⟩
theorem OSt.cells (h : OSt W w g q st s) : w.cell? ⟨W.heap.size, 0, none⟩ = some (.int .i64 (tH s)) ∧ w.cell? ⟨W.heap.size, 1, none⟩ = some (.int .u64 (tL s)) ∧ w.frozen? ⟨W.heap.size, 0, none⟩ = false ∧ w.frozen? ⟨W.heap.size, 1, none⟩ = false :=
  ⟨h.tot.cell 0, h.tot.cell 1, h.tot.free 0, h.tot.free 1⟩
end
theorem outer_any (st : List Int) (hl : st.length = 43) (hz : ∀ z ∈ st, I64 z) (g q : Nat) (n : Int) (hn : I64 n) (W : World) (hg : g < W.heap.size) (hR : W.rangeAt g q (i64s st)) :
    Calls Try.prog 12 #[.pointer (some ⟨g, q, none⟩), .int .i64 n] W fun e w' => e = .returned (.int .i64 (outerZ st n)) ∧ Below W.heap.size W w' := by
  have HL := Lib.hid hl
  have HZ := Lib.hid hz
  have HR := Lib.hid hR
  have hnz : Hid (I64 (nZ st n)) := Lib.hid (by unfold nZ; split; exact st_in hz 10; exact hn)
  have HM := Lib.hid (fun w => min_any st hl hz false (-1) (by unfold I64; omega) w)
  have HX := Lib.hid (fun w => max_any st hl hz false (-1) (by unfold I64; omega) w)
  have HC := Lib.hid (fun w => clamp_any (nZ st n) (minZ st false (-1)) (maxZ st false (-1)) w)
  have hib : Hid (I64 (innerZ st n)) := Lib.hid (clampZ_bd _ _ _ hnz.out (minZ_bd st hz _ _) (maxZ_bd st hz _ _))
  rw [← innerZ_n] at HC
  have HO := Lib.hid (show outerZ st n = heldT (innerZ st n + (st.getD 34 0 + st.getD 38 0 + if st.getD 29 0 = 1 then st.getD 30 0 else 0) + (st.getD 32 0 + st.getD 36 0 + if st.getD 25 0 = 1 then st.getD 26 0 else 0)) from rfl)
  have HN := Lib.hid (show nZ st n = if st.getD 9 0 = 1 then st.getD 10 0 else n from rfl)
  have HV : Hid (∀ w : World, w.rangeAt g q (i64s st) → w.cell? ⟨g, q + 9, none⟩ = some (.int .i64 (st.getD 9 0)) ∧ w.cell? ⟨g, q + 10, none⟩ = some (.int .i64 (st.getD 10 0)) ∧ w.cell? ⟨g, q + 25, none⟩ = some (.int .i64 (st.getD 25 0)) ∧ w.cell? ⟨g, q + 26, none⟩ = some (.int .i64 (st.getD 26 0)) ∧ w.cell? ⟨g, q + 29, none⟩ = some (.int .i64 (st.getD 29 0)) ∧ w.cell? ⟨g, q + 30, none⟩ = some (.int .i64 (st.getD 30 0)) ∧ w.cell? ⟨g, q + 32, none⟩ = some (.int .i64 (st.getD 32 0)) ∧ w.cell? ⟨g, q + 34, none⟩ = some (.int .i64 (st.getD 34 0)) ∧ w.cell? ⟨g, q + 36, none⟩ = some (.int .i64 (st.getD 36 0)) ∧ w.cell? ⟨g, q + 38, none⟩ = some (.int .i64 (st.getD 38 0))) := Lib.hid fun w hr => ⟨style_num hr 9 (by omega), style_num hr 10 (by omega), style_num hr 25 (by omega), style_num hr 26 (by omega), style_num hr 29 (by omega), style_num hr 30 (by omega), style_num hr 32 (by omega), style_num hr 34 (by omega), style_num hr 36 (by omega), style_num hr 38 (by omega)⟩
  have SB : Hid (I64 (st.getD 9 0) ∧ I64 (st.getD 10 0) ∧ I64 (st.getD 25 0) ∧ I64 (st.getD 26 0) ∧ I64 (st.getD 29 0) ∧ I64 (st.getD 30 0) ∧ I64 (st.getD 32 0) ∧ I64 (st.getD 34 0) ∧ I64 (st.getD 36 0) ∧ I64 (st.getD 38 0)) := Lib.hid ⟨st_in hz 9, st_in hz 10, st_in hz 25, st_in hz 26, st_in hz 29, st_in hz 30, st_in hz 32, st_in hz 34, st_in hz 36, st_in hz 38⟩
  have S0 : Hid (OSt W (W.alloc (.cells #[.int .i64 0, .int .u64 0] 58)) g q st 0) := Lib.hid
    ⟨Whole.mk W 58 #[.int .i64 0, .int .u64 0], (Below.refl _ W).alloc (Nat.le_refl _) _, range_keep hR (Below.heap_alloc _ _ _ hg), hg⟩
  clear hl hz hR
  generalize outerZ st n = out at *
  generalize innerZ st n = inn at *
  generalize hmn : minZ st false (-1) = mn at *
  generalize hmx : maxZ st false (-1) = mx at *
  clear hmn hmx
  generalize st.getD 9 0 = z9 at *
  generalize st.getD 10 0 = z10 at *
  generalize st.getD 25 0 = z25 at *
  generalize st.getD 26 0 = z26 at *
  generalize st.getD 29 0 = z29 at *
  generalize st.getD 30 0 = z30 at *
  generalize st.getD 32 0 = z32 at *
  generalize st.getD 34 0 = z34 at *
  generalize st.getD 36 0 = z36 at *
  generalize st.getD 38 0 = z38 at *
  generalize nZ st n = n1 at *
  obtain ⟨c9, c10, -, -, -, -, -, -, -, -⟩ := HV.out W HR.out
  go_enter Try.func12, Try.ntmps12
  go_upto_if 13 with fail
  go_cut [1] from 14 to 18 (fun v1 wx => v1 = .int .i64 n1 ∧ wx = W)
  case first =>
    by_cases h : z9 = 1
    · have e : n1 = z10 := by rw [HN.out, if_pos h]
      have b : (z9 == 1) = true := by rw [beq_iff_eq]; exact h
      go_wp2
      go_meet
      exact ⟨by rw [e], rfl⟩
    · have e : n1 = n := by rw [HN.out, if_neg h]
      have b : (z9 == 1) = false := by rw [beq_eq_false_iff_ne]; exact h
      go_wp2
      go_meet
      exact ⟨by rw [e], rfl⟩
  case rest =>
    obtain ⟨rfl, rfl⟩ := hcut
    clear c9 c10
    have HP : Hid (∀ w, Calls Try.prog 17 #[totV 0, .int .i64 inn] w fun e w' => e = .returned (totV inn) ∧ Below w.heap.size w w') := Lib.hid (fun w => by have := plus_any 0 inn (by unfold Tot; omega) hib.out w; rwa [Int.zero_add] at this)
    go_upto_region 4 with fail
    generalize wc.alloc _ = w1 at *
    have Y0 := Lib.hid (fun t : Later w1.heap.size w1 => (S0.out.behind t.h).cells)
    have y0 : ∀ t : Later w1.heap.size w1, t.w.cell? ⟨wc.heap.size, 0, none⟩ = some (.int .i64 (tH 0)) := fun t => (Y0.out t).1
    have y1 : ∀ t : Later w1.heap.size w1, t.w.cell? ⟨wc.heap.size, 1, none⟩ = some (.int .u64 (tL 0)) := fun t => (Y0.out t).2.1
    have YS := Lib.hid (fun w (hb : Behind w1 w) => (S0.out.behind hb).sty)
    refine region_lane [] [0, 1, 2, 3, 4, 5, 6, 7, 8, 9, 10, 11] [12] (by kernel_rfl) (by kernel_rfl) (fun _ _ _ _ _ h => h) ?_
    simp only [pick, List.map_nil]
    refine wpQuiet_nil ⟨rfl, ?_⟩
    simp only [List.map_cons, List.map_nil, List.getD_cons_zero, List.getD_cons_succ, List.drop_succ_cons, List.drop_zero]
    refine laneO_run 4 (by kernel_rfl) ?_
    simp only [List.take_succ_cons, List.take_zero, List.drop_succ_cons, List.drop_zero]
    repeat (go_big_quiet_step (fail))
    refine wpQuiet_nil ?_
    refine laneO_fixed (v := .agg (i64s st).toArray) (by kernel_rfl) (fun w hw => .inl ⟨by rfl, mid_gives _ rfl _ _ rfl (i64s st) _ (YS.out w hw) Try.underlying33 rfl (by rw [style_size]; simp [i64s_length, HL.out])⟩) ?_
    simp only [Act.put, List.setIfInBounds_toArray, List.set_cons_zero, List.set_cons_succ]
    refine laneO_call (v := (.int .i64 mn)) (by kernel_rfl) (by rfl) (fun C hC h0 => ?_) ?_
    focus (go_big_quiet_op; exact ⟨_, fun w hw => (HM.out w).mono fun e w' ⟨he, hb⟩ => ⟨he, hC _ _ hw hb⟩, rfl⟩)
    simp only [Act.put, List.setIfInBounds_toArray, List.set_cons_zero, List.set_cons_succ]
    refine laneO_run 2 (by kernel_rfl) ?_
    simp only [List.take_succ_cons, List.take_zero, List.drop_succ_cons, List.drop_zero]
    repeat (go_big_quiet_step (fail))
    refine wpQuiet_nil ?_
    refine laneO_fixed (v := .agg (i64s st).toArray) (by kernel_rfl) (fun w hw => .inl ⟨by rfl, mid_gives _ rfl _ _ rfl (i64s st) _ (YS.out w hw) Try.underlying33 rfl (by rw [style_size]; simp [i64s_length, HL.out])⟩) ?_
    simp only [Act.put, List.setIfInBounds_toArray, List.set_cons_zero, List.set_cons_succ]
    refine laneO_call (v := (.int .i64 mx)) (by kernel_rfl) (by rfl) (fun C hC h0 => ?_) ?_
    focus (go_big_quiet_op; exact ⟨_, fun w hw => (HX.out w).mono fun e w' ⟨he, hb⟩ => ⟨he, hC _ _ hw hb⟩, rfl⟩)
    simp only [Act.put, List.setIfInBounds_toArray, List.set_cons_zero, List.set_cons_succ]
    refine laneO_call (v := (.int .i64 inn)) (by kernel_rfl) (by rfl) (fun C hC h0 => ?_) ?_
    focus (go_big_quiet_op; exact ⟨_, fun w hw => (HC.out w).mono fun e w' ⟨he, hb⟩ => ⟨he, hb ▸ hw⟩, rfl⟩)
    simp only [Act.put, List.setIfInBounds_toArray, List.set_cons_zero, List.set_cons_succ]
    refine laneO_call (v := (totV inn)) (by kernel_rfl) (by rfl) (fun C hC h0 => ?_) ?_
    focus (go_big_quiet_op; exact ⟨_, fun w hw => (HP.out w).mono fun e w' ⟨he, hb⟩ => ⟨he, hC _ _ hw hb⟩, rfl⟩)
    simp only [Act.put, List.setIfInBounds_toArray, List.set_cons_zero, List.set_cons_succ]
    refine laneO_end0 rfl rfl fun w2 hb0 => ?_
    have S2 := Lib.hid (S0.out.behind hb0)
    obtain ⟨p0, p1, p2, p3⟩ := S2.out.cells
    have S3 := Lib.hid (S2.out.put inn)
    clear y0 y1 Y0 YS S0 hb0 HM HX HC HP
    go_upto_region 5 with fail
    clear p0 p1 p2 p3 S2
    generalize (w2.setCell ⟨wc.heap.size, 0, none⟩ (.int .i64 (tH inn))).setCell ⟨wc.heap.size, 1, none⟩ (.int .u64 (tL inn)) = w3 at *
    clear HR hnz HN
    go_upto_region 6 with fail
    go_loopw [32] (fun v32 wr => ∃ s, ((v32 = .int .i64 0 ∧ Hid (s = inn)) ∨ (v32 = .int .i64 1 ∧ Hid (s = inn + (z34 + z38 + if z29 = 1 then z30 else 0))) ∨ (v32 = .int .i64 2 ∧ Hid (s = inn + (z34 + z38 + if z29 = 1 then z30 else 0) + (z32 + z36 + if z25 = 1 then z26 else 0)))) ∧ Hid (OSt wc wr g q st s)) (fun v32 _ => 2 - (intOf v32).toNat)
    case atStart => exact ⟨inn, .inl ⟨rfl, Lib.hid rfl⟩, S3⟩
    case round =>
      clear S3
      obtain ⟨s, hc, S⟩ := hrel
      rcases hc with ⟨rfl, hs⟩ | ⟨rfl, hs⟩ | ⟨rfl, hs⟩
      · have hbd : -100000000000000000000000 ≤ s ∧ s ≤ 100000000000000000000000 := by
          rw [hs.out]
          obtain ⟨-, -, ⟨a1, a2⟩, ⟨b1, b2⟩, ⟨d1, d2⟩, ⟨e1, e2⟩, ⟨f1, f2⟩, ⟨g1, g2⟩, ⟨h1, h2⟩, ⟨i1, i2⟩⟩ := SB.out
          obtain ⟨k1, k2⟩ := hib.out
          first | omega | (split <;> omega)
        obtain ⟨-, -, I25, I26, I29, I30, I32, I34, I36, I38⟩ := SB.out
        have P1 := Lib.hid (fun w => plus_any s z34 (by unfold Tot I64 at *; omega) (by assumption) w)
        have P2 := Lib.hid (fun w => plus_any (s + z34) z38 (by unfold Tot I64 at *; omega) (by assumption) w)
        have P3 := Lib.hid (fun w => plus_any (s + z34 + z38) z30 (by unfold Tot I64 at *; omega) (by assumption) w)
        clear I25 I26 I29 I30 I32 I34 I36 I38 hbd
        have HI : Hid (∀ w, (Instr.index 60 (.agg #[.int .i64 3, .int .i64 1]) (.int .i64 0)).run Try.prog w = .ok (.int .i64 3) w) := Lib.hid fun w => run_index_ints (n := 2) Try.underlying60 (by kernel_rfl) (by kernel_rfl) [3, 1] rfl 0 (by decide) w
        go_upto_region 8 with (rw [HI.out])
        clear HI
        have Y0 := Lib.hid (fun t : Later wr.heap.size wr => (S.out.behind t.h).cells)
        have YV := Lib.hid (fun t : Later wr.heap.size wr => HV.out t.w (S.out.behind t.h).sty)
        have y0 : ∀ t : Later wr.heap.size wr, t.w.cell? ⟨wc.heap.size, 0, none⟩ = some (.int .i64 (tH s)) := fun t => (Y0.out t).1
        have y1 : ∀ t : Later wr.heap.size wr, t.w.cell? ⟨wc.heap.size, 1, none⟩ = some (.int .u64 (tL s)) := fun t => (Y0.out t).2.1
        have y2 : ∀ t : Later wr.heap.size wr, t.w.cell? ⟨g, q + 34, none⟩ = some (.int .i64 z34) := fun t => by obtain ⟨-, -, v25, v26, v29, v30, v32, v34, v36, v38⟩ := YV.out t; assumption
        have y3 : ∀ t : Later wr.heap.size wr, t.w.cell? ⟨g, q + 38, none⟩ = some (.int .i64 z38) := fun t => by obtain ⟨-, -, v25, v26, v29, v30, v32, v34, v36, v38⟩ := YV.out t; assumption
        refine region_lane [] (List.range 15) [15] (by kernel_rfl) (by kernel_rfl) (fun _ _ _ _ _ h => h) ?_
        simp only [pick, List.map_nil]
        refine wpQuiet_nil ⟨rfl, ?_⟩
        rw [show List.range 15 = [0, 1, 2, 3, 4, 5, 6, 7, 8, 9, 10, 11, 12, 13, 14] from rfl]
        simp only [List.map_cons, List.map_nil, List.getD_cons_zero, List.getD_cons_succ, List.drop_succ_cons, List.drop_zero]
        refine laneO_run 7 (by kernel_rfl) ?_
        simp only [List.take_succ_cons, List.take_zero, List.drop_succ_cons, List.drop_zero]
        repeat (go_big_quiet_step (fail))
        refine wpQuiet_nil ?_
        refine laneO_call (v := (totV (s + z34))) (by kernel_rfl) (by rfl) (fun C hC h0 => ?_) ?_
        focus (go_big_quiet_op; exact ⟨_, fun w hw => (P1.out w).mono fun e w' ⟨he, hb⟩ => ⟨he, hC _ _ hw hb⟩, rfl⟩)
        simp only [Act.put, List.setIfInBounds_toArray, List.set_cons_zero, List.set_cons_succ]
        refine laneO_run 6 (by kernel_rfl) ?_
        simp only [List.take_succ_cons, List.take_zero, List.drop_succ_cons, List.drop_zero]
        repeat (go_big_quiet_step (fail))
        refine wpQuiet_nil ?_
        refine laneO_call (v := (totV (s + z34 + z38))) (by kernel_rfl) (by rfl) (fun C hC h0 => ?_) ?_
        focus (go_big_quiet_op; exact ⟨_, fun w hw => (P2.out w).mono fun e w' ⟨he, hb⟩ => ⟨he, hC _ _ hw hb⟩, rfl⟩)
        simp only [Act.put, List.setIfInBounds_toArray, List.set_cons_zero, List.set_cons_succ]
        refine laneO_end0 rfl rfl fun w2 hb0 => ?_
        have S2 := Lib.hid (S.out.behind hb0)
        obtain ⟨p0, p1, p2, p3⟩ := S2.out.cells
        have S3 := Lib.hid (S2.out.put (s + z34 + z38))
        clear y0 y1 y2 y3 Y0 YV S hb0 P1 P2
        go_upto_region 9 with fail
        clear p0 p1 p2 p3 S2
        generalize (w2.setCell ⟨wc.heap.size, 0, none⟩ (.int .i64 (tH (s + z34 + z38)))).setCell ⟨wc.heap.size, 1, none⟩ (.int .u64 (tL (s + z34 + z38))) = w3 at *
        have ck : w3.cell? ⟨g, q + 29, none⟩ = some (.int .i64 z29) := by obtain ⟨-, -, v25, v26, v29, v30, v32, v34, v36, v38⟩ := HV.out w3 S3.out.sty; assumption
        by_cases hk : z29 = 1
        · have b : (z29 == 1) = true := by rw [beq_iff_eq]; exact hk
          have HS := Lib.hid (show s + z34 + z38 + z30 = s + (z34 + z38 + if z29 = 1 then z30 else 0) by rw [if_pos hk]; omega)
          clear hk
          go_upto_region 10 with fail
          have Y0 := Lib.hid (fun t : Later w3.heap.size w3 => (S3.out.behind t.h).cells)
          have YV := Lib.hid (fun t : Later w3.heap.size w3 => HV.out t.w (S3.out.behind t.h).sty)
          have y0 : ∀ t : Later w3.heap.size w3, t.w.cell? ⟨wc.heap.size, 0, none⟩ = some (.int .i64 (tH (s + z34 + z38))) := fun t => (Y0.out t).1
          have y1 : ∀ t : Later w3.heap.size w3, t.w.cell? ⟨wc.heap.size, 1, none⟩ = some (.int .u64 (tL (s + z34 + z38))) := fun t => (Y0.out t).2.1
          have y2 : ∀ t : Later w3.heap.size w3, t.w.cell? ⟨g, q + 30, none⟩ = some (.int .i64 z30) := fun t => by obtain ⟨-, -, v25, v26, v29, v30, v32, v34, v36, v38⟩ := YV.out t; assumption
          refine region_lane [] [0, 1, 2, 3, 4, 5, 6, 7, 8] [9] (by kernel_rfl) (by kernel_rfl) (fun _ _ _ _ _ h => h) ?_
          simp only [pick, List.map_nil]
          refine wpQuiet_nil ⟨rfl, ?_⟩
          simp only [List.map_cons, List.map_nil, List.getD_cons_zero, List.getD_cons_succ, List.drop_succ_cons, List.drop_zero]
          refine laneO_run 8 (by kernel_rfl) ?_
          simp only [List.take_succ_cons, List.take_zero, List.drop_succ_cons, List.drop_zero]
          repeat (go_big_quiet_step (fail))
          refine wpQuiet_nil ?_
          refine laneO_call (v := (totV (s + z34 + z38 + z30))) (by kernel_rfl) (by rfl) (fun C hC h0 => ?_) ?_
          focus (go_big_quiet_op; exact ⟨_, fun w hw => (P3.out w).mono fun e w' ⟨he, hb⟩ => ⟨he, hC _ _ hw hb⟩, rfl⟩)
          simp only [Act.put, List.setIfInBounds_toArray, List.set_cons_zero, List.set_cons_succ]
          refine laneO_end0 rfl rfl fun w4 hb0 => ?_
          have S4 := Lib.hid (S3.out.behind hb0)
          obtain ⟨p0, p1, p2, p3⟩ := S4.out.cells
          have S5 := Lib.hid (S4.out.put (s + z34 + z38 + z30))
          clear y0 y1 y2 Y0 YV S3 hb0 P3 ck
          go_upto_region 11 with fail
          clear p0 p1 p2 p3 S4
          generalize (w4.setCell ⟨wc.heap.size, 0, none⟩ (.int .i64 (tH (s + z34 + z38 + z30)))).setCell ⟨wc.heap.size, 1, none⟩ (.int .u64 (tL (s + z34 + z38 + z30))) = w5 at *
          go_wp2
          go_roundw
          case rel => exact ⟨_, .inr (.inl ⟨rfl, Lib.hid (by rw [HS.out, hs.out])⟩), S5⟩
          case measure => simp [intOf]
        · have b : (z29 == 1) = false := by rw [beq_eq_false_iff_ne]; exact hk
          have HS := Lib.hid (show s + z34 + z38 = s + (z34 + z38 + if z29 = 1 then z30 else 0) by rw [if_neg hk]; omega)
          clear hk
          go_wp2
          go_roundw
          case rel => exact ⟨_, .inr (.inl ⟨rfl, Lib.hid (by rw [HS.out, hs.out])⟩), S3⟩
          case measure => simp [intOf]
      · have hbd : -100000000000000000000000 ≤ s ∧ s ≤ 100000000000000000000000 := by
          rw [hs.out]
          obtain ⟨-, -, ⟨a1, a2⟩, ⟨b1, b2⟩, ⟨d1, d2⟩, ⟨e1, e2⟩, ⟨f1, f2⟩, ⟨g1, g2⟩, ⟨h1, h2⟩, ⟨i1, i2⟩⟩ := SB.out
          obtain ⟨k1, k2⟩ := hib.out
          first | omega | (split <;> omega)
        obtain ⟨-, -, I25, I26, I29, I30, I32, I34, I36, I38⟩ := SB.out
        have P1 := Lib.hid (fun w => plus_any s z32 (by unfold Tot I64 at *; omega) (by assumption) w)
        have P2 := Lib.hid (fun w => plus_any (s + z32) z36 (by unfold Tot I64 at *; omega) (by assumption) w)
        have P3 := Lib.hid (fun w => plus_any (s + z32 + z36) z26 (by unfold Tot I64 at *; omega) (by assumption) w)
        clear I25 I26 I29 I30 I32 I34 I36 I38 hbd
        have HI : Hid (∀ w, (Instr.index 60 (.agg #[.int .i64 3, .int .i64 1]) (.int .i64 1)).run Try.prog w = .ok (.int .i64 1) w) := Lib.hid fun w => run_index_ints (n := 2) Try.underlying60 (by kernel_rfl) (by kernel_rfl) [3, 1] rfl 1 (by decide) w
        go_upto_region 8 with (rw [HI.out])
        clear HI
        have Y0 := Lib.hid (fun t : Later wr.heap.size wr => (S.out.behind t.h).cells)
        have YV := Lib.hid (fun t : Later wr.heap.size wr => HV.out t.w (S.out.behind t.h).sty)
        have y0 : ∀ t : Later wr.heap.size wr, t.w.cell? ⟨wc.heap.size, 0, none⟩ = some (.int .i64 (tH s)) := fun t => (Y0.out t).1
        have y1 : ∀ t : Later wr.heap.size wr, t.w.cell? ⟨wc.heap.size, 1, none⟩ = some (.int .u64 (tL s)) := fun t => (Y0.out t).2.1
        have y2 : ∀ t : Later wr.heap.size wr, t.w.cell? ⟨g, q + 32, none⟩ = some (.int .i64 z32) := fun t => by obtain ⟨-, -, v25, v26, v29, v30, v32, v34, v36, v38⟩ := YV.out t; assumption
        have y3 : ∀ t : Later wr.heap.size wr, t.w.cell? ⟨g, q + 36, none⟩ = some (.int .i64 z36) := fun t => by obtain ⟨-, -, v25, v26, v29, v30, v32, v34, v36, v38⟩ := YV.out t; assumption
        refine region_lane [] (List.range 15) [15] (by kernel_rfl) (by kernel_rfl) (fun _ _ _ _ _ h => h) ?_
        simp only [pick, List.map_nil]
        refine wpQuiet_nil ⟨rfl, ?_⟩
        rw [show List.range 15 = [0, 1, 2, 3, 4, 5, 6, 7, 8, 9, 10, 11, 12, 13, 14] from rfl]
        simp only [List.map_cons, List.map_nil, List.getD_cons_zero, List.getD_cons_succ, List.drop_succ_cons, List.drop_zero]
        refine laneO_run 7 (by kernel_rfl) ?_
        simp only [List.take_succ_cons, List.take_zero, List.drop_succ_cons, List.drop_zero]
        repeat (go_big_quiet_step (fail))
        refine wpQuiet_nil ?_
        refine laneO_call (v := (totV (s + z32))) (by kernel_rfl) (by rfl) (fun C hC h0 => ?_) ?_
        focus (go_big_quiet_op; exact ⟨_, fun w hw => (P1.out w).mono fun e w' ⟨he, hb⟩ => ⟨he, hC _ _ hw hb⟩, rfl⟩)
        simp only [Act.put, List.setIfInBounds_toArray, List.set_cons_zero, List.set_cons_succ]
        refine laneO_run 6 (by kernel_rfl) ?_
        simp only [List.take_succ_cons, List.take_zero, List.drop_succ_cons, List.drop_zero]
        repeat (go_big_quiet_step (fail))
        refine wpQuiet_nil ?_
        refine laneO_call (v := (totV (s + z32 + z36))) (by kernel_rfl) (by rfl) (fun C hC h0 => ?_) ?_
        focus (go_big_quiet_op; exact ⟨_, fun w hw => (P2.out w).mono fun e w' ⟨he, hb⟩ => ⟨he, hC _ _ hw hb⟩, rfl⟩)
        simp only [Act.put, List.setIfInBounds_toArray, List.set_cons_zero, List.set_cons_succ]
        refine laneO_end0 rfl rfl fun w2 hb0 => ?_
        have S2 := Lib.hid (S.out.behind hb0)
        obtain ⟨p0, p1, p2, p3⟩ := S2.out.cells
        have S3 := Lib.hid (S2.out.put (s + z32 + z36))
        clear y0 y1 y2 y3 Y0 YV S hb0 P1 P2
        go_upto_region 9 with fail
        clear p0 p1 p2 p3 S2
        generalize (w2.setCell ⟨wc.heap.size, 0, none⟩ (.int .i64 (tH (s + z32 + z36)))).setCell ⟨wc.heap.size, 1, none⟩ (.int .u64 (tL (s + z32 + z36))) = w3 at *
        have ck : w3.cell? ⟨g, q + 25, none⟩ = some (.int .i64 z25) := by obtain ⟨-, -, v25, v26, v29, v30, v32, v34, v36, v38⟩ := HV.out w3 S3.out.sty; assumption
        by_cases hk : z25 = 1
        · have b : (z25 == 1) = true := by rw [beq_iff_eq]; exact hk
          have HS := Lib.hid (show s + z32 + z36 + z26 = s + (z32 + z36 + if z25 = 1 then z26 else 0) by rw [if_pos hk]; omega)
          clear hk
          go_upto_region 10 with fail
          have Y0 := Lib.hid (fun t : Later w3.heap.size w3 => (S3.out.behind t.h).cells)
          have YV := Lib.hid (fun t : Later w3.heap.size w3 => HV.out t.w (S3.out.behind t.h).sty)
          have y0 : ∀ t : Later w3.heap.size w3, t.w.cell? ⟨wc.heap.size, 0, none⟩ = some (.int .i64 (tH (s + z32 + z36))) := fun t => (Y0.out t).1
          have y1 : ∀ t : Later w3.heap.size w3, t.w.cell? ⟨wc.heap.size, 1, none⟩ = some (.int .u64 (tL (s + z32 + z36))) := fun t => (Y0.out t).2.1
          have y2 : ∀ t : Later w3.heap.size w3, t.w.cell? ⟨g, q + 26, none⟩ = some (.int .i64 z26) := fun t => by obtain ⟨-, -, v25, v26, v29, v30, v32, v34, v36, v38⟩ := YV.out t; assumption
          refine region_lane [] [0, 1, 2, 3, 4, 5, 6, 7, 8] [9] (by kernel_rfl) (by kernel_rfl) (fun _ _ _ _ _ h => h) ?_
          simp only [pick, List.map_nil]
          refine wpQuiet_nil ⟨rfl, ?_⟩
          simp only [List.map_cons, List.map_nil, List.getD_cons_zero, List.getD_cons_succ, List.drop_succ_cons, List.drop_zero]
          refine laneO_run 8 (by kernel_rfl) ?_
          simp only [List.take_succ_cons, List.take_zero, List.drop_succ_cons, List.drop_zero]
          repeat (go_big_quiet_step (fail))
          refine wpQuiet_nil ?_
          refine laneO_call (v := (totV (s + z32 + z36 + z26))) (by kernel_rfl) (by rfl) (fun C hC h0 => ?_) ?_
          focus (go_big_quiet_op; exact ⟨_, fun w hw => (P3.out w).mono fun e w' ⟨he, hb⟩ => ⟨he, hC _ _ hw hb⟩, rfl⟩)
          simp only [Act.put, List.setIfInBounds_toArray, List.set_cons_zero, List.set_cons_succ]
          refine laneO_end0 rfl rfl fun w4 hb0 => ?_
          have S4 := Lib.hid (S3.out.behind hb0)
          obtain ⟨p0, p1, p2, p3⟩ := S4.out.cells
          have S5 := Lib.hid (S4.out.put (s + z32 + z36 + z26))
          clear y0 y1 y2 Y0 YV S3 hb0 P3 ck
          go_upto_region 11 with fail
          clear p0 p1 p2 p3 S4
          generalize (w4.setCell ⟨wc.heap.size, 0, none⟩ (.int .i64 (tH (s + z32 + z36 + z26)))).setCell ⟨wc.heap.size, 1, none⟩ (.int .u64 (tL (s + z32 + z36 + z26))) = w5 at *
          go_wp2
          go_roundw
          case rel => exact ⟨_, .inr (.inr ⟨rfl, Lib.hid (by rw [HS.out, hs.out])⟩), S5⟩
          case measure => simp [intOf]
        · have b : (z25 == 1) = false := by rw [beq_eq_false_iff_ne]; exact hk
          have HS := Lib.hid (show s + z32 + z36 = s + (z32 + z36 + if z25 = 1 then z26 else 0) by rw [if_neg hk]; omega)
          clear hk
          go_wp2
          go_roundw
          case rel => exact ⟨_, .inr (.inr ⟨rfl, Lib.hid (by rw [HS.out, hs.out])⟩), S3⟩
          case measure => simp [intOf]
      · have R := Lib.hid (fun w => held_all s (by
          rw [hs.out]
          obtain ⟨-, -, ⟨a1, a2⟩, ⟨b1, b2⟩, ⟨d1, d2⟩, ⟨e1, e2⟩, ⟨f1, f2⟩, ⟨g1, g2⟩, ⟨h1, h2⟩, ⟨i1, i2⟩⟩ := SB.out
          obtain ⟨k1, k2⟩ := hib.out
          unfold Tot; split <;> split <;> omega) w)
        have E := Lib.hid (show out = heldT s by rw [HO.out, hs.out])
        obtain ⟨p0, p1, -, -⟩ := S.out.cells
        go_wp2_with fail
        refine (R.out _).mono ?_
        rintro e w' ⟨rfl, hb⟩
        have B2 := Lib.hid (S.out.behind hb).low
        go_wp2
        go_ret
        exact ⟨ret_int E.out.symm, B2.out⟩
end Go.Proofs.Ytmdlkffbegphjaa
