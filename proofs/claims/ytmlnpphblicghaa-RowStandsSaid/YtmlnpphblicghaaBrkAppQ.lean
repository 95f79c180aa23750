import Derived.Test.YtmlnpphblicghaaTotHeldQ
import Derived.Test.YtmlnpphblicghaaTotSubQ
import Derived.Test.YtmlnpphblicghaaAppNumQ
import Derived.Test.YtmlnpphblicghaaZQ
/- brk.appendLines. -/
namespace Go.Proofs.Ytmlnpphblicghaa
open Go Go.RowKit
set_option linter.unusedVariables false
set_option linter.unusedSimpArgs false
set_option maxRecDepth 20000
set_option maxHeartbeats 4000000

def spC (x : Sp) : List Value := [.int .i64 x.sf, .int .i64 x.st, .int .i64 x.sw]
theorem spC_len (x : Sp) : (spC x).length = 3 := rfl
theorem sp_info : (Try.prog.info? 28).map (fun i => (i.zero, i.size, i.bytes)) = some (some (.agg #[.int .i64 0, .int .i64 0, .int .i64 0]), 3, 24) := by kernel_rfl
theorem Row.dropped {w : World} {B : Nat} {ad : Addr} {xs : List Value} (h : Row w B (some ad) xs) (k : Nat) : Row w B (some (ad.add k)) (xs.drop k) := fun hn => by
  rw [List.length_drop] at hn
  obtain ⟨ad', e, hb, hc⟩ := h (by omega)
  injection e with e
  subst e
  refine ⟨_, rfl, by rw [add_block]; exact hb, fun i hi => ?_⟩
  rw [List.length_drop] at hi
  have ha : (ad.add k).add i = ad.add (k + i) := by unfold Addr.add; split <;> split <;> simp_all [Nat.add_assoc]
  rw [ha, hc (k + i) (by omega), List.getElem_drop]
/-- Lines in the making: where the first of them begins (a sum) lies at W's end. -/
structure ASt (W w : World) (B0 : Nat) (V : List Nat) (A : Option Addr) (n c : Nat) (L : List Sp) (s : Int) : Prop where
  own : w.ownsRow B0 28 3 (.slice A n c) n (L.flatMap spC)
  beg : Whole w W.heap.size 68 [.int .i64 (tH s), .int .u64 (tL s)]
  only : Only V W w
  near : ∀ k, (Value.slice A n c).ownBlock = some k → k ∈ V ∨ W.heap.size < k
  old : ∀ x ∈ V, x < W.heap.size ∧ B0 ≤ x
section
variable {W w w' : World} {B0 : Nat} {V : List Nat} {A A' : Option Addr} {n c c' : Nat} {L : List Sp} {s : Int}
theorem ASt.size (h : ASt W w B0 V A n c L s) : W.heap.size < w.heap.size := h.beg.size
theorem ASt.behind (h : ASt W w B0 V A n c L s) (hb : Below w.heap.size w w') : ASt W w' B0 V A n c L s :=
  ⟨own_below h.own hb (Nat.le_refl _), h.beg.under hb h.beg.size, h.only.then (Only.of_below hb), h.near, h.old⟩
theorem ASt.off (h : ASt W w B0 V A n c L s) : (Value.slice A n c).ownBlock ≠ some W.heap.size := fun e => by
  rcases h.near _ e with h1 | h1
  · have := (h.old _ h1).1; omega
  · omega
theorem ASt.pushed (h : ASt W w B0 V A n c L s) (x : Sp) (ho : w'.ownsRow B0 28 3 (.slice A' (n + 1) c') (n + 1) (L.flatMap spC ++ spC x)) (hn : Only (Value.slice A n c).ownBlock.toList w w')
    (hk : ∀ g, (Value.slice A' (n + 1) c').ownBlock = some g → (Value.slice A n c).ownBlock = some g ∨ w.heap.size ≤ g) : ASt W w' B0 V A' (n + 1) c' (L ++ [x]) s := by
  refine ⟨by simpa [List.flatMap_append] using ho, hn.whole h.beg fun e => h.off (by simpa using e), h.only.trans hn fun y hy => ?_, fun k e => ?_, h.old⟩
  · rcases h.near y (by simpa using hy) with h1 | h1
    · exact .inl h1
    · exact .inr (by omega)
  · rcases hk k e with h1 | h1
    · exact h.near k h1
    · have := h.size; exact .inr (by omega)
theorem ASt.setTot (h : ASt W w B0 V A n c L s) (t : Int) : ASt W ((w.setCell ⟨W.heap.size, 0, none⟩ (.int .i64 (tH t))).setCell ⟨W.heap.size, 1, none⟩ (.int .u64 (tL t))) B0 V A n c L t := by
  have ho : Only [W.heap.size] w ((w.setCell ⟨W.heap.size, 0, none⟩ (.int .i64 (tH t))).setCell ⟨W.heap.size, 1, none⟩ (.int .u64 (tL t))) := ((Only.refl _ w).setCell _ (.inl (by simp)) _).setCell _ (.inl (by simp)) _
  exact ⟨ho.owns h.own fun b hb => by have := h.off; rw [hb] at this; simpa using fun e => this (by rw [e]), (h.beg.put 0 _).put 1 _, (h.only.setCell _ (.inr (by simp)) _).setCell _ (.inr (by simp)) _, h.near, h.old⟩
theorem ASt.cells (h : ASt W w B0 V A n c L s) : w.cell? ⟨W.heap.size, 0, none⟩ = some (.int .i64 (tH s)) ∧ w.cell? ⟨W.heap.size, 1, none⟩ = some (.int .u64 (tL s)) ∧ w.frozen? ⟨W.heap.size, 0, none⟩ = false ∧ w.frozen? ⟨W.heap.size, 1, none⟩ = false :=
  ⟨h.beg.cell 0, h.beg.cell 1, h.beg.free 0, h.beg.free 1⟩
end
theorem app_any (g : List Gl) (hg : FineG g) (A : Option Addr) (cg : Nat) (a : Int) (ha : I64 a) (i0 : Nat) (hi0 : i0 < g.length) (B0 : Nat) (A0 : Option Addr) (n0 c0 : Nat) (L0 : List Sp) (Ae : Option Addr) (ce : Nat) (W : World)
    (hG : Row W B0 A (i64s (gCells g))) (hL : W.ownsRow B0 28 3 (.slice A0 n0 c0) n0 (L0.flatMap spC)) (hB0 : B0 ≤ W.heap.size) (hn0 : n0 = L0.length) (hn : n0 ≤ i0)
    (hE : ∀ w, Only (Value.slice A0 n0 c0).ownBlock.toList W w → Row w W.heap.size Ae ((leasts (endsS (g.drop i0) i0 0)).flatMap enC)) (hce : (endsS (g.drop i0) i0 0).length ≤ ce) (hcm : ce ≤ 9223372036854775807) (hl : (endsS (g.drop i0) i0 0).length ≤ 5000000) :
    Calls Try.prog 33 #[.slice A0 n0 c0, .slice A g.length cg, .int .i64 i0, .slice Ae (endsS (g.drop i0) i0 0).length ce, .int .i64 a] W fun e w' => ∃ (A' : Option Addr) (c' : Nat) (L' : List Sp),
      e = .returned (.slice A' L'.length c') ∧ w'.ownsRow B0 28 3 (.slice A' L'.length c') L'.length (L'.flatMap spC) ∧ L' ++ linesI a g (lastAt (endsS (g.drop i0) i0 0) + 1) = L0 ++ linesI a g i0 ∧ L'.length ≤ lastAt (endsS (g.drop i0) i0 0) + 1 ∧
      Only (Value.slice A0 n0 c0).ownBlock.toList W w' := by
  have HA := Lib.hid (AInv.start (a := a) hg L0 hi0)
  have FG := Lib.hid hg
  have hgl := hg.1
  have S0 : Hid (ASt W (W.alloc (.cells #[.int .i64 0, .int .u64 0] 68)) B0 (Value.slice A0 n0 c0).ownBlock.toList A0 n0 c0 L0 0) := Lib.hid
    ⟨hL.alloc _, Whole.mk W 68 #[.int .i64 0, .int .u64 0], (Only.refl _ W).alloc _, fun k e => .inl (by simp [e]), fun x hx => by have := hL.lt x (by simpa using hx); omega⟩
  have RG : Hid (∀ w, Only (Value.slice A0 n0 c0).ownBlock.toList W w → Row w B0 A (i64s (gCells g))) := Lib.hid fun w ho => ho.row hG hB0 fun x hx => (hL.lt x (by simpa using hx)).1
  have RE := Lib.hid hE
  have HN0 := Lib.hid hn0
  have hB1 := hB0
  clear hG hL hE hn0 hg
  generalize hV : (Value.slice A0 n0 c0).ownBlock.toList = V at *
  clear hV
  generalize hes : endsS (g.drop i0) i0 0 = es0 at *
  clear hes
  generalize lastAt es0 = z at *
  generalize L0 ++ linesI a g i0 = F at *
  go_enter Try.func33, Try.ntmps33
  go_wp2
  generalize W.alloc (.cells #[.int .i64 0, .int .u64 0] 68) = W1 at *
  obtain ⟨m0, hm0⟩ : ∃ m, m = es0.length := ⟨_, rfl⟩
  rw [← hm0] at hce hl ⊢
  go_loopw [0, 2, 3] (fun v0 v2 v3 wr => ∃ (A1 : Option Addr) (n c : Nat) (L : List Sp) (i : Nat) (es : List (Nat × Int)) (m : Nat) (Ae : Option Addr) (ce : Nat) (s : Int), v0 = .slice A1 n c ∧ v2 = .int .i64 i ∧ v3 = .slice Ae m ce ∧
    m ≤ ce ∧ ce ≤ 9223372036854775807 ∧ m ≤ 5000000 ∧ n ≤ i ∧ Hid (m = es.length) ∧ Hid (n = L.length) ∧ ASt W wr B0 V A1 n c L s ∧ Hid (AInv a g F z L i s es) ∧ Hid (∀ w, Only V W w → Row w W.heap.size Ae ((leasts es).flatMap enC))) (fun _ v2 _ _ => g.length + 1 - (intOf v2).toNat)
  case atStart => exact ⟨A0, n0, c0, L0, i0, es0, m0, Ae, ce, 0, rfl, rfl, rfl, hce, hcm, hl, hn, Lib.hid hm0, HN0, S0.out, HA, RE⟩
  case round =>
    clear S0 HA RE hm0 HN0 hce hcm hl
    obtain ⟨A1, n, c, L, i, es, m, Ae, ce, s, rfl, rfl, rfl, hmc, hcm, hm5, hni, HM, HN, hS, HI, RE⟩ := hrel
    have HS := Lib.hid hS
    have zS := hS.size
    have hil := HI.out.le
    clear hS
    by_cases hgo : 0 < m ∧ i < g.length
    · obtain ⟨h0, hlt⟩ := hgo
      obtain ⟨e, r, rfl⟩ : ∃ e r, es = e :: r := by
        cases es with
        | nil => have := HM.out; simp at this; omega
        | cons e r => exact ⟨e, r, rfl⟩
      have hmr : m = r.length + 1 := HM.out
      obtain ⟨t, w, hj, hx, hit, htl, hbw, hI, hnext⟩ := HI.out.step FG.out hlt
      have HNX := Lib.hid hnext
      have hbs := HI.out.bd
      have PL := Lib.hid (fun w => plus_any s a (hbs.tot (by omega)) ha w)
      have MI := Lib.hid (fun w' => minus_any w s (hbw.tot (by omega)) (hbs.tot (by omega)) w')
      have HE := Lib.hid (fun w' => held_any (w - s) hI w')
      have FT := Lib.hid (fun (w' : World) (ho : Only V W w') => fits_any e r Ae ce (s + a) w' ((RE.out w' ho).more ho.size) (by omega))
      have hix : ((leasts (e :: r))[fitN (s + a) r]'(by rw [leasts_length]; exact hj)).at_ = t ∧ ((leasts (e :: r))[fitN (s + a) r]'(by rw [leasts_length]; exact hj)).sum = w := by
        have h1 := leasts_get (e :: r) _ hj
        rw [List.getElem?_eq_getElem hj] at hx
        injection hx with hx
        rw [hx] at h1
        exact h1
      have REN := Lib.hid (fun (w' : World) (ho : Only V W w') => (RE.out w' ho).en (i := fitN (s + a) r) (by rw [leasts_length]; exact hj))
      generalize hy : (leasts (e :: r))[fitN (s + a) r]'(by rw [leasts_length]; exact hj) = y at *
      clear hy
      obtain ⟨ya, ys, yl⟩ := y
      obtain ⟨e1, e2⟩ := hix
      simp only at e1 e2 REN
      subst e1
      subst e2
      rw [← hmr] at FT
      have REX := Lib.hid (fun (ad : Addr) (hA : Ae = some ad) (w' : World) (ho : Only V W w') => (by
        have := (RE.out w' ho)
        rw [hA] at this
        have := this.dropped ((fitN (s + a) r + 1) * 5)
        rwa [rec_drop enC_len, leasts_drop] at this : Row w' W.heap.size (some (ad.add ((fitN (s + a) r + 1) * 5))) ((leasts ((e :: r).drop (fitN (s + a) r + 1))).flatMap enC)))
      have HDL : Hid (((e :: r).drop (fitN (s + a) r + 1)).length = m - (fitN (s + a) r + 1)) := Lib.hid (by rw [List.length_drop, hmr]; rfl)
      have hbt := hbw
      clear hI hbw hbs hx hnext HI RE
      rw [List.length_cons, ← hmr] at hj
      generalize (e :: r).drop (fitN (s + a) r + 1) = es' at *
      generalize fitN (s + a) r = j at *
      clear HM hmr
      simp only [totV] at PL MI HE FT
      have hm0 : (0 : Int) < m := by omega
      have hil2 : (i : Int) < g.length := by omega
      obtain ⟨d0, d1, -, -⟩ := HS.out.cells
      go_wp2_with fail
      refine (PL.out _).mono ?_
      rintro o w1 ⟨rfl, b1⟩
      have S1 := Lib.hid (HS.out.behind b1)
      clear b1 HS d0 d1 PL
      go_wp2_with fail
      refine (FT.out _ S1.out.only).mono ?_
      rintro o w2 ⟨rfl, b2⟩
      have S2 := Lib.hid (S1.out.behind b2)
      clear b2 S1 FT
      obtain ⟨ad, rfl, hab, c0, c1, c2, c3, c4⟩ := REN.out w2 S2.out.only
      have RX := Lib.hid (REX.out ad rfl)
      have hjm : (j : Int) < m := by omega
      have RX2 : Hid (∀ w', Only V W w' → Row w' W.heap.size (if ce = j + 1 then some ad else some (ad.add ((j + 1) * 5))) ((leasts es').flatMap enC)) := Lib.hid fun w' ho => by
        split
        · have h0 : es' = [] := List.eq_nil_of_length_eq_zero (by rw [HDL.out]; omega)
          rw [h0]
          exact Row.nil _ _ _
        · exact RX.out w' ho
      clear REN REX RX
      go_upto_region 5 with fail
      have X3 := Lib.hid (Whole.mk w2 70 #[.int .i64 ya, .int .i64 (tH ys), .int .u64 (tL ys), .int .i64 (tH yl), .int .u64 (tL yl)])
      have S3 := Lib.hid (S2.out.behind ((Below.refl _ w2).alloc (Nat.le_refl _) (.cells #[.int .i64 ya, .int .i64 (tH ys), .int .u64 (tL ys), .int .i64 (tH yl), .int .u64 (tL yl)] 70)))
      have hne : (Value.slice A1 n c).ownBlock ≠ some w2.heap.size := fun e => by have := owns_lt S2.out.own e; omega
      have zW : W.heap.size < w2.heap.size := S2.out.size
      clear S2 c0 c1 c2 c3 c4 zS
      generalize w2.alloc _ = w3 at *
      generalize w2.heap.size = ge at *
      have zX := X3.out.size
      have Y := Lib.hid (fun q : Later w3.heap.size w3 => (⟨S3.out.behind q.h, X3.out.under q.h zX⟩ : _ ∧ _))
      have y1 : ∀ q : Later w3.heap.size w3, q.w.cell? ⟨W.heap.size, 0, none⟩ = some (.int .i64 (tH s)) := fun q => (Y.out q).1.cells.1
      have y2 : ∀ q : Later w3.heap.size w3, q.w.cell? ⟨W.heap.size, 1, none⟩ = some (.int .u64 (tL s)) := fun q => (Y.out q).1.cells.2.1
      have y3 : ∀ q : Later w3.heap.size w3, q.w.cell? ⟨ge, 0, none⟩ = some (.int .i64 ya) := fun q => (Y.out q).2.cell 0
      have y4 : ∀ q : Later w3.heap.size w3, q.w.cell? ⟨ge, 1, none⟩ = some (.int .i64 (tH ys)) := fun q => (Y.out q).2.cell 1
      have y5 : ∀ q : Later w3.heap.size w3, q.w.cell? ⟨ge, 2, none⟩ = some (.int .u64 (tL ys)) := fun q => (Y.out q).2.cell 2
      refine region_lane [] [0, 1, 2, 3, 4, 5, 6, 7, 8, 9, 10] [11, 12] (by kernel_rfl) (by kernel_rfl) (fun _ _ _ _ _ h => h) ?_
      simp only [pick, List.map_nil]
      refine wpQuiet_nil ⟨rfl, ?_⟩
      simp only [List.map_cons, List.map_nil, List.getD_cons_zero, List.getD_cons_succ, List.drop_succ_cons, List.drop_zero]
      refine laneO_run 7 (by kernel_rfl) ?_
      simp only [List.take_succ_cons, List.take_zero, List.drop_succ_cons, List.drop_zero]
      repeat (go_big_quiet_step (fail))
      refine wpQuiet_nil ?_
      refine laneO_call (v := totV (ys - s)) (by kernel_rfl) (by rfl) (fun C hC h0 => ?_) ?_
      focus (go_big_quiet_op; exact ⟨_, fun w hw => (MI.out w).mono fun e w' ⟨he, hb⟩ => ⟨he, hC _ _ hw hb⟩, rfl⟩)
      simp only [Act.put, List.setIfInBounds_toArray, List.set_cons_zero, List.set_cons_succ]
      refine laneO_call (v := .int .i64 (ys - s)) (by kernel_rfl) (by rfl) (fun C hC h0 => ?_) ?_
      focus (go_big_quiet_op; exact ⟨_, fun w hw => (HE.out w).mono fun e w' ⟨he, hb⟩ => ⟨he, hC _ _ hw hb⟩, rfl⟩)
      simp only [Act.put, List.setIfInBounds_toArray, List.set_cons_zero, List.set_cons_succ]
      refine laneO_fixed (v := .agg #[.int .i64 i, .int .i64 ya, .int .i64 (ys - s)]) (by kernel_rfl) (fun w hw => .inl ⟨by rfl, ?_⟩) ?_
      · unfold gives
        simp [go_sem]
        exact Behind.refl w
      simp only [Act.put, List.setIfInBounds_toArray, List.set_cons_zero, List.set_cons_succ]
      refine laneO_told (madeT 1 28 [.int .i64 i, .int .i64 ya, .int .i64 (ys - s)]) (madeT_steady _ _ _) (by kernel_rfl) rfl (fun w hw => .inl ⟨by rfl, ?_⟩) ?_
      · unfold gives
        simp [go_sem]
        exact madeT_new 1 28 #[.int .i64 i, .int .i64 ya, .int .i64 (ys - s)] w
      refine laneO_end (by simp) rfl rfl rfl fun w4 hb0 => ?_
      rintro u ⟨g1, rfl, hg1⟩
      simp only [Act.put, List.setIfInBounds_toArray, List.set_cons_zero, List.set_cons_succ, fillAll]
      clear y1 y2 y3 y4 y5 Y
      have S4 := Lib.hid (S3.out.behind hb0)
      have X4 := Lib.hid (X3.out.under hb0 zX)
      clear hb0 S3 X3 zX MI HE
      refine wpList_pushOne (by rfl) (.tmp 32) (.tmp 42) _ rfl B0 28 3 24 (.agg #[.int .i64 0, .int .i64 0, .int .i64 0]) Try.underlying25 sp_info rfl (by decide) n (.slice A1 n c) _ rfl S4.out.own (by have := S4.out.size; omega) g1 [.int .i64 i, .int .i64 ya, .int .i64 (ys - s)] rfl hg1 rfl (by simp [Value.oneCell']) (by unfold maxLen; omega) (by omega) ?_
      intro A5 c5 w5 h5 ho5 hk5
      have S5 := Lib.hid (S4.out.pushed ⟨i, ya, ys - s⟩ h5 ho5 hk5)
      have X5 := Lib.hid (ho5.whole X4.out fun e => hne (by simpa using e))
      clear h5 ho5 hk5 S4 X4 hg1 hne
      have e0 := X5.out.cell 0
      by_cases ht : ya < g.length
      · have hti : (ya : Int) < g.length := by omega
        obtain ⟨adg, rfl, hgb, -, -, -, r3⟩ := (RG.out w5 S5.out.only).gl ht
        have HNX2 := Lib.hid (HNX.out (ys + g[ya].adv) (fun _ => rfl) (fun h => absurd ht h))
        have PL2 := Lib.hid (fun w => plus_any ys g[ya].adv (hbt.tot (by omega)) (FG.out.at_ ya ht) w)
        generalize g[ya].adv = v at *
        clear HNX
        simp only [totV] at PL2
        go_upto_region 7 with fail
        have zX := X5.out.size
        have zB : B0 ≤ w5.heap.size := by have := S5.out.size; omega
        have Y := Lib.hid (fun q : Later w5.heap.size w5 => X5.out.under q.h zX)
        have y3 : ∀ q : Later w5.heap.size w5, q.w.cell? ⟨ge, 0, none⟩ = some (.int .i64 ya) := fun q => (Y.out q).cell 0
        have y4 : ∀ q : Later w5.heap.size w5, q.w.cell? ⟨ge, 1, none⟩ = some (.int .i64 (tH ys)) := fun q => (Y.out q).cell 1
        have y5 : ∀ q : Later w5.heap.size w5, q.w.cell? ⟨ge, 2, none⟩ = some (.int .u64 (tL ys)) := fun q => (Y.out q).cell 2
        have y6 : ∀ q : Later w5.heap.size w5, q.w.cell? ⟨(adg.add (ya * 4)).block, (adg.add (ya * 4)).off + 3, none⟩ = some (.int .i64 v) := fun q => (q.h.cell (p := ⟨(adg.add (ya * 4)).block, (adg.add (ya * 4)).off + 3, none⟩) (by simp only [add_block]; omega)).trans r3
        refine region_lane [] [0, 1, 2, 3, 4, 5, 6, 7, 8] [9] (by kernel_rfl) (by kernel_rfl) (fun _ _ _ _ _ h => h) ?_
        simp only [pick, List.map_nil]
        refine wpQuiet_nil ⟨rfl, ?_⟩
        simp only [List.map_cons, List.map_nil, List.getD_cons_zero, List.getD_cons_succ, List.drop_succ_cons, List.drop_zero]
        refine laneO_run 8 (by kernel_rfl) ?_
        simp only [List.take_succ_cons, List.take_zero, List.drop_succ_cons, List.drop_zero]
        repeat (go_big_quiet_step (fail))
        refine wpQuiet_nil ?_
        refine laneO_call (v := totV (ys + v)) (by kernel_rfl) (by rfl) (fun C hC h0 => ?_) ?_
        focus (go_big_quiet_op; exact ⟨_, fun w hw => (PL2.out w).mono fun e w' ⟨he, hb⟩ => ⟨he, hC _ _ hw hb⟩, rfl⟩)
        simp only [Act.put, List.setIfInBounds_toArray, List.set_cons_zero, List.set_cons_succ]
        refine laneO_end0 rfl rfl fun w6 hb0 => ?_
        have S6 := Lib.hid (S5.out.behind hb0)
        have X6 := Lib.hid (X5.out.under hb0 zX)
        clear hb0 y3 y4 y5 y6 Y S5 X5 r3 PL2 zX zB e0
        obtain ⟨d0, d1, f0, f1⟩ := S6.out.cells
        go_upto_region 8 with fail
        have S7 := Lib.hid (S6.out.setTot (ys + v))
        have X7 := Lib.hid ((X6.out.other (p := ⟨W.heap.size, 0, none⟩) (by show ge ≠ W.heap.size; omega) (.int .i64 (tH (ys + v)))).other (p := ⟨W.heap.size, 1, none⟩) (by show ge ≠ W.heap.size; omega) (.int .u64 (tL (ys + v))))
        clear S6 X6 d0 d1 f0 f1
        generalize (w6.setCell ⟨W.heap.size, 0, none⟩ (.int .i64 (tH (ys + v)))).setCell ⟨W.heap.size, 1, none⟩ (.int .u64 (tL (ys + v))) = w7 at *
        have ex := X7.out.cell 0
        go_quiet (fail)
        clear ex
        go_wp2
        go_roundw
        case rel => exact ⟨A5, n + 1, c5, _, ya + 1, es', m - (j + 1), _, _, _, rfl, by go_num, rfl, by omega, by omega, by omega, by omega, Lib.hid HDL.out.symm, Lib.hid (by simp [HN.out]), S7.out.behind (by exact Below.drewN' (Below.refl _ _) nq), HNX2, RX2⟩
        case measure => simp [intOf]; omega
      · have hti : ¬ (ya : Int) < g.length := by omega
        have HNX2 := Lib.hid (HNX.out s (fun h => absurd h ht) (fun _ => rfl))
        clear HNX
        have S7 := Lib.hid S5.out
        have X7 := Lib.hid X5.out
        clear S5 X5
        go_upto_region 8 with fail
        generalize w5 = w7 at *
        have ex := X7.out.cell 0
        go_quiet (fail)
        clear ex
        go_wp2
        go_roundw
        case rel => exact ⟨A5, n + 1, c5, _, ya + 1, es', m - (j + 1), _, _, _, rfl, by go_num, rfl, by omega, by omega, by omega, by omega, Lib.hid HDL.out.symm, Lib.hid (by simp [HN.out]), S7.out.behind (by exact Below.drewN' (Below.refl _ _) nq), HNX2, RX2⟩
        case measure => simp [intOf]; omega
    · have HD := Lib.hid (HI.out.done (by
        rcases Nat.eq_zero_or_pos m with h | h
        · left; have := HM.out; rw [h] at this; exact List.eq_nil_of_length_eq_zero this.symm
        · right; omega))
      have hiz : i ≤ z + 1 := HI.out.iz
      have hnz : n ≤ z + 1 := by omega
      rcases Nat.eq_zero_or_pos m with h | h
      · subst h
        go_wp2
        go_ret
        exact ⟨A1, c, L, by rw [← HN.out]; rfl, by rw [← HN.out]; exact HS.out.own, HD.out, by rw [← HN.out]; exact hnz, HS.out.only⟩
      · have hm0 : (0 : Int) < m := by omega
        have hil2 : ¬ (i : Int) < g.length := by omega
        go_wp2
        go_ret
        exact ⟨A1, c, L, by rw [← HN.out]; rfl, by rw [← HN.out]; exact HS.out.own, HD.out, by rw [← HN.out]; exact hnz, HS.out.only⟩
end Go.Proofs.Ytmlnpphblicghaa
