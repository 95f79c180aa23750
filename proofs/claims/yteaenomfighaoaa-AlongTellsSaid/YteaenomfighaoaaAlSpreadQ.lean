import Derived.Test.YteaenomfighaoaaAlJustQ
import Derived.Test.YteaenomfighaoaaAlShareQ
import Derived.Test.YteaenomfighaoaaTotAboveQ
/- along.spread. -/
namespace Go.Proofs.Yteaenomfighaoaa
open Go Go.RowKit
set_option linter.unusedVariables false
set_option linter.unusedSimpArgs false
set_option maxRecDepth 20000
set_option maxHeartbeats 4000000

/-- The lead's box, the gaps' row, the free's box. -/
structure SpS (W w : World) (N : Nat) (a b : Int) (gf : Nat) (zs : List Int) : Prop where
  r : SumV w W.heap.size a
  row : RowG w (W.heap.size + 1) 2 (W.heap.size + 1) N (i64s zs)
  v : SumV w gf b
  far : W.heap.size + 1 < gf
  low : Below W.heap.size W w
section
variable {W w w' : World} {N gf : Nat} {a b : Int} {zs : List Int}
theorem SpS.size (h : SpS W w N a b gf zs) : W.heap.size + 2 ≤ w.heap.size := by have := h.v.size; have := h.far; omega
theorem SpS.under (h : SpS W w N a b gf zs) (hb : Below w.heap.size w w') : SpS W w' N a b gf zs :=
  ⟨h.r.under hb h.r.size, own_below h.row hb (Nat.le_refl _), h.v.under hb h.v.size, h.far, h.low.trans (hb.mono (by have := h.size; omega))⟩
theorem SpS.shared {ys : List Int} (h : SpS W w N a b gf zs) (ho : Only [W.heap.size + 1] w w') (hr : RowG w' (W.heap.size + 1) 2 (W.heap.size + 1) N (i64s ys)) : SpS W w' N a b gf ys :=
  ⟨ho.whole h.r (by simp), hr, ho.whole h.v (by have := h.far; simp; omega), h.far, h.low.trans (ho.below (by simp) (by have := h.size; omega))⟩
theorem SpS.setR (h : SpS W w N a b gf zs) (c : Int) : SpS W ((w.setCell ⟨W.heap.size, 0, none⟩ (.int .i64 (tH c))).setCell ⟨W.heap.size, 1, none⟩ (.int .u64 (tL c))) N c b gf zs :=
  ⟨(h.r.put 0 _).put 1 _, rowG_off (rowG_off h.row (by omega) _ _) (by omega) _ _, (h.v.other (p := ⟨W.heap.size, 0, none⟩) (by have := h.far; simp; omega) _).other (p := ⟨W.heap.size, 1, none⟩) (by have := h.far; simp; omega) _, h.far, (h.low.setCell (p := ⟨W.heap.size, 0, none⟩) (by simp) _).setCell (p := ⟨W.heap.size, 1, none⟩) (by simp) _⟩
end
theorem isAuto_of (f : Int) (l : List Al) : isAuto f l = (decide (0 < f) && decide (0 < autosA l)) := rfl
theorem spread_any (l : List Al) (A : Option Addr) (c : Nat) (inner j : Int) (W : World) (hR : Row W W.heap.size A (l.flatMap alC)) (hok : ∀ x ∈ l, AlOk x) (hl5 : l.length ≤ 100) (hi : -35184372088832 ≤ inner ∧ inner ≤ 35184372088832) :
    Calls Try.prog 12 #[.slice A l.length c, .int .i64 inner, .int .i64 j] W fun e w' => ∃ g, e = .returned (.tuple #[totV (startA (freeA inner l) l j), .slice (some ⟨g, 0, none⟩) (2 * l.length) (2 * l.length)]) ∧ RowG w' W.heap.size 2 g (2 * l.length) (i64s (gapR (freeA inner l) l j)) ∧ Below W.heap.size W w' := by
  have HR := Lib.hid hR
  have FB := freeA_bd hok hl5 hi
  have LF := Lib.hid (fun w h => left_any l A c inner w h hok hl5 hi)
  have AU := Lib.hid (fun w h => autos_any l A c w h hl5)
  have AL := autosA_le l
  have TL := takeT_len (freeA inner l) l j
  have HTG := Lib.hid (fun k (h : k < (takeT (freeA inner l) l j).length) => takeT_getD h)
  have HFA := Lib.hid (fun (h : 0 < freeA inner l) (m : Nat) (hm : (takeT (freeA inner l) l j).length = m) => fill_all (l := l) (j := j) h (by omega) (by omega) m hm)
  have HGN := Lib.hid (fun (h : ¬ 0 < freeA inner l) => gapR_none (l := l) (j := j) h)
  obtain ⟨f, hf⟩ : ∃ f, freeA inner l = f := ⟨_, rfl⟩
  have HIA := Lib.hid (isAuto_of f l)
  have HTK := Lib.hid (show takeT f l j = if isAuto f l then autoK l l.length else justT l.length j from rfl)
  have HST := Lib.hid (show startA f l j = if isAuto f l then 0 else justS f j from rfl)
  rw [hf] at LF FB TL HTG HFA HGN ⊢
  clear hf hok hR hi
  obtain ⟨n, hn⟩ : ∃ n, l.length = n := ⟨_, rfl⟩
  have HML := Lib.hid (autoK_len l n (by omega))
  have HNL := Lib.hid hn
  rw [List.take_of_length_le (by omega)] at HML
  rw [hn] at LF AU AL TL HTG HFA HGN HTK hl5 ⊢
  clear hn
  obtain ⟨N, hN⟩ : ∃ N : Nat, 2 * n = N := ⟨_, rfl⟩
  have hNz : 2 * (n : Int) = (N : Int) := by omega
  have hN2 : N ≤ 200 := by omega
  rw [hN] at AL TL HTG HFA HGN ⊢
  clear hN
  obtain ⟨M, hM⟩ : ∃ M, autosA l = M := ⟨_, rfl⟩
  rw [hM] at AU AL HIA HML
  clear hM
  obtain ⟨i0, hi0, hz0, hz1, hz2⟩ := info_parts (show (Try.prog.info? 2).map (fun i => (i.zero, i.size, i.bytes)) = some (some (.int .i64 0), 1, 8) from by kernel_rfl)
  have R0 := Lib.hid (Whole.mk W 36 #[.int .i64 0, .int .u64 0])
  have B0 := Lib.hid ((Below.refl W.heap.size W).alloc (Nat.le_refl _) (.cells #[.int .i64 0, .int .u64 0] 36))
  go_enter Try.func12, Try.ntmps12
  go_upto_region 2 with (at_make; refine wpList_make_full _ rfl _ _ 24 rfl (W.heap.size + 1) 2 i0 (.int .i64 0) 1 Try.underlying24 hi0 hz0 hz1 .i64 .i64 _ _ N rfl rfl rfl rfl (by rw [hz2]; omega) (by unfold maxLen; omega) (by simp) ?_; intro w2 q1 q2; have O1 := Lib.hid q1; have G1 := Lib.hid (Only.of_grown q2); clear q1 q2)
  have Z2 : Hid (RowG w2 (W.heap.size + 1) 2 (W.heap.size + 1) N (i64s (List.replicate N 0))) := Lib.hid (by
    have e1 : (madeCells (Value.int .i64 0).cells (N * 1)).toList = List.replicate N (Value.int .i64 0) := by rw [Nat.mul_one]; exact toList_madeCells_one _ _
    have o := O1.out
    rw [e1] at o
    simpa [i64s] using o)
  have R2 := Lib.hid (G1.out.whole R0.out (by simp))
  have B2 := Lib.hid (B0.out.trans (G1.out.below (B := W.heap.size) (by simp) (by simp)))
  clear O1 G1 R0 B0 hi0 hz0 hz1 hz2
  go_wp2_with fail
  refine (LF.out w2 ((HR.out.below B2.out).more B2.out.size)).mono ?_
  rintro e w3 ⟨rfl, hb⟩
  have Z3 := Lib.hid (own_below Z2.out hb (Nat.le_refl _))
  have R3 := Lib.hid (R2.out.under hb R2.out.size)
  have B3 := Lib.hid (B2.out.trans (hb.mono B2.out.size))
  have hs3 : W.heap.size + 1 < w3.heap.size := (rowG_lt Z3.out).2
  clear hb LF Z2 R2 B2
  go_upto_region 3 with fail
  have S4 : Hid (SpS W (w3.alloc (.cells #[.int .i64 (tH f), .int .u64 (tL f)] 36)) N 0 f w3.heap.size (List.replicate N 0)) := Lib.hid
    ⟨R3.out.made _, own_below Z3.out ((Below.refl _ _).alloc (Nat.le_refl _) _) (Nat.le_refl _), Whole.mk w3 36 #[.int .i64 (tH f), .int .u64 (tL f)], hs3, B3.out.alloc B3.out.size _⟩
  clear Z3 R3 B3 hs3
  generalize w3.alloc _ = w4 at *
  obtain ⟨gf, hgf⟩ : ∃ g, w3.heap.size = g := ⟨_, rfl⟩
  rw [hgf] at S4 ⊢
  clear hgf
  have HAB : Hid (∀ w, Calls Try.prog 24 #[totV f, .agg #[.int .i64 0, .int .u64 0]] w fun e w' => e = .returned (.bool (decide (0 < f))) ∧ Below w.heap.size w w') := Lib.hid (fun w => above_any f 0 w)
  have v0 := S4.out.v.cell 0
  have v1 := S4.out.v.cell 1
  simp only [List.getElem?_cons_zero, List.getElem?_cons_succ] at v0 v1
  go_wp2_with fail
  refine (HAB.out _).mono ?_
  rintro e w5 ⟨rfl, hb⟩
  have S5 := Lib.hid (S4.out.under hb)
  clear hb S4 HAB v0 v1
  obtain ⟨ov, hov⟩ : ∃ b, decide (0 < f) = b := ⟨_, rfl⟩
  have HOV := Lib.hid hov
  rw [hov] at HIA
  simp only [hov]
  clear hov
  go_wp2_with fail
  refine (AU.out w5 ((HR.out.below S5.out.low).more S5.out.low.size)).mono ?_
  rintro e w6 ⟨A6, c6, rfl, o6, hb⟩
  have O6 : Hid (w6.ownsRow (W.heap.size + 2) 3 1 (.slice A6 M c6) M (natV (autoK l n))) := Lib.hid (own_raise o6 fun g hg => Nat.le_trans S5.out.size (own_low o6 g hg))
  have S6 := Lib.hid (S5.out.under hb)
  clear hb S5 AU o6
  obtain ⟨T, hT⟩ : ∃ T, takeT f l j = T := ⟨_, rfl⟩
  rw [hT] at TL HTG HFA HTK
  clear hT
  obtain ⟨st, hst⟩ : ∃ s, startA f l j = s := ⟨_, rfl⟩
  have HS0 := Lib.hid hst
  rw [hst] at HST
  clear hst
  obtain ⟨b, hb⟩ : ∃ b, ((!ov) || decide (M = 0)) = b := ⟨_, rfl⟩
  have HBB := Lib.hid hb
  clear hb
  go_upto_region 5 with fail
  go_cut [29] from 23 to 29 (fun v29 wx => v29 = .bool b ∧ wx = w6)
  case first =>
    cases ov with
    | true =>
      have e : decide (M = 0) = b := HBB.out
      have zM : ((M : Int) == 0) = b := by rw [← e]; by_cases h : M = 0 <;> simp [h]
      clear e
      go_wp2_with fail
      go_meet
      exact ⟨rfl, rfl⟩
    | false =>
      have e : true = b := HBB.out
      subst e
      go_wp2_with fail
      go_meet
      exact ⟨rfl, rfl⟩
  case rest =>
  obtain ⟨rfl, rfl⟩ := hcut
  generalize wc = w6 at *
  go_upto_if 29 with fail
  go_cut [10] from 30 to 37 (fun v10 wx => ∃ (A2 : Option Addr) (c2 m : Nat), v10 = .slice A2 m c2 ∧ Hid (T.length = m) ∧ m ≤ N ∧ Hid (wx.ownsRow (W.heap.size + 2) 3 1 (.slice A2 m c2) m (natV T)) ∧ Hid (SpS W wx N st f gf (List.replicate N 0)))
  case first =>
    clear HTG HFA HGN
    cases ov with
    | true =>
      by_cases hM0 : M = 0
      · have eb : true = b := by rw [← HBB.out, hM0]; rfl
        subst eb
        have IA : isAuto f l = false := by rw [HIA.out, hM0]; rfl
        have HTE : Hid (T = justT n j) := Lib.hid (by rw [HTK.out, IA]; rfl)
        have HSE : Hid (st = justS f j) := Lib.hid (by rw [HST.out, IA]; rfl)
        clear HTK HST HIA IA hM0
        obtain ⟨m7, hm7⟩ : ∃ m, (justT n j).length = m := ⟨_, rfl⟩
        have HLEN : Hid (T.length = m7) := Lib.hid (by rw [HTE.out]; exact hm7)
        have J := Lib.hid (justified_any f n j (by omega) hl5 w6)
        rw [hm7, ← HSE.out] at J
        clear hm7
        have v0 := S6.out.v.cell 0
        have v1 := S6.out.v.cell 1
        simp only [List.getElem?_cons_zero, List.getElem?_cons_succ] at v0 v1
        go_wp2_with fail
        refine J.out.mono ?_
        rintro e w7 ⟨A7, c7, rfl, o7, hb⟩
        have O7 : Hid (w7.ownsRow (W.heap.size + 2) 3 1 (.slice A7 m7 c7) m7 (natV (justT n j))) := Lib.hid (own_raise o7 fun g hg => Nat.le_trans S6.out.size (own_low o7 g hg))
        have S7 := Lib.hid (S6.out.under hb)
        clear hb S6 O6 J o7 v0 v1
        have r0 := S7.out.r.cell 0
        have r1 := S7.out.r.cell 1
        have f0 := S7.out.r.free 0
        have f1 := S7.out.r.free 1
        simp only [List.getElem?_cons_zero, List.getElem?_cons_succ] at r0 r1
        have S8 := Lib.hid (S7.out.setR st)
        have O8 := Lib.hid (ownsRow_setCell_below (ownsRow_setCell_below O7.out (a := ⟨W.heap.size, 0, none⟩) (by simp) (.int .i64 (tH st))) (a := ⟨W.heap.size, 1, none⟩) (by simp) (.int .u64 (tL st)))
        rw [← HTE.out] at O8
        go_wp2_with fail
        go_meet
        exact ⟨A7, c7, m7, rfl, HLEN, by rw [← HLEN.out]; exact TL, O8, S8⟩
      · have eb : false = b := by rw [← HBB.out]; simp [hM0]
        subst eb
        have IA : isAuto f l = true := by rw [HIA.out, decide_eq_true (by omega : 0 < M)]; rfl
        have HTE : Hid (autoK l n = T) := Lib.hid (by rw [HTK.out, IA]; rfl)
        have HSE : Hid (st = 0) := Lib.hid (by rw [HST.out, IA]; rfl)
        have HLM : Hid (T.length = M) := Lib.hid (by rw [← HTE.out]; exact HML.out)
        rw [HTE.out] at O6
        have S6' : Hid (SpS W w6 N st f gf (List.replicate N 0)) := Lib.hid (by rw [HSE.out]; exact S6.out)
        clear S6
        have S6 := S6'
        clear S6'
        clear HTK HST HIA IA hM0 HTE HSE
        go_wp2_with fail
        go_meet
        exact ⟨A6, c6, M, rfl, HLM, by rw [← HLM.out]; exact TL, O6, S6⟩
    | false =>
      have eb : true = b := HBB.out
      subst eb
      have IA : isAuto f l = false := by rw [HIA.out]; rfl
      have HTE : Hid (T = justT n j) := Lib.hid (by rw [HTK.out, IA]; rfl)
      have HSE : Hid (st = justS f j) := Lib.hid (by rw [HST.out, IA]; rfl)
      clear HTK HST HIA IA
      obtain ⟨m7, hm7⟩ : ∃ m, (justT n j).length = m := ⟨_, rfl⟩
      have HLEN : Hid (T.length = m7) := Lib.hid (by rw [HTE.out]; exact hm7)
      have J := Lib.hid (justified_any f n j (by omega) hl5 w6)
      rw [hm7, ← HSE.out] at J
      clear hm7
      have v0 := S6.out.v.cell 0
      have v1 := S6.out.v.cell 1
      simp only [List.getElem?_cons_zero, List.getElem?_cons_succ] at v0 v1
      go_wp2_with fail
      refine J.out.mono ?_
      rintro e w7 ⟨A7, c7, rfl, o7, hb⟩
      have O7 : Hid (w7.ownsRow (W.heap.size + 2) 3 1 (.slice A7 m7 c7) m7 (natV (justT n j))) := Lib.hid (own_raise o7 fun g hg => Nat.le_trans S6.out.size (own_low o7 g hg))
      have S7 := Lib.hid (S6.out.under hb)
      clear hb S6 O6 J o7 v0 v1
      have r0 := S7.out.r.cell 0
      have r1 := S7.out.r.cell 1
      have f0 := S7.out.r.free 0
      have f1 := S7.out.r.free 1
      simp only [List.getElem?_cons_zero, List.getElem?_cons_succ] at r0 r1
      have S8 := Lib.hid (S7.out.setR st)
      have O8 := Lib.hid (ownsRow_setCell_below (ownsRow_setCell_below O7.out (a := ⟨W.heap.size, 0, none⟩) (by simp) (.int .i64 (tH st))) (a := ⟨W.heap.size, 1, none⟩) (by simp) (.int .u64 (tL st)))
      rw [← HTE.out] at O8
      go_wp2_with fail
      go_meet
      exact ⟨A7, c7, m7, rfl, HLEN, by rw [← HLEN.out]; exact TL, O8, S8⟩
  case rest =>
    obtain ⟨A2, c2, m, rfl, HTL, hm, O7, S7⟩ := hcut
    generalize wc = w7 at *
    clear O6 S6 HIA HTK HST
    have HS7 := S7
    cases ov with
    | true =>
      have h0 : 0 < f := of_decide_eq_true HOV.out
      have E := Lib.hid (HFA.out h0 m HTL.out)
      have SH := Lib.hid (gaps_share f (by omega) (by omega) (W.heap.size + 1) N T A2 c2 m HTL.out (by omega) (by omega) (fun k hk => HTG.out k (by rw [HTL.out]; exact hk)) w7 _ _ S7.out.row O7.out)
      rw [E.out] at SH
      clear HGN HFA HTG E HS7
      have v0 := S7.out.v.cell 0
      have v1 := S7.out.v.cell 1
      simp only [List.getElem?_cons_zero, List.getElem?_cons_succ] at v0 v1
      go_wp2_with fail
      refine SH.out.mono ?_
      rintro e w8 ⟨rfl, r8, on8⟩
      have S8 := Lib.hid (S7.out.shared on8 r8)
      clear r8 on8 S7 O7 SH v0 v1
      have r0 := S8.out.r.cell 0
      have r1 := S8.out.r.cell 1
      have f0 := S8.out.r.free 0
      have f1 := S8.out.r.free 1
      simp only [List.getElem?_cons_zero, List.getElem?_cons_succ] at r0 r1
      have S9 := Lib.hid (S8.out.setR st)
      go_wp2_with fail
      refine cells_end2 (n := 2) sum_flatA rfl W.heap.size rfl (SumC st) rfl 36 S9.out.r rfl ?_
      rw [HS0.out]
      exact ⟨W.heap.size + 1, rfl, own_raise S9.out.row fun g hg => by have := own_low S9.out.row g hg; omega, S9.out.low⟩
    | false =>
      have h0 : ¬ 0 < f := of_decide_eq_false HOV.out
      have E := Lib.hid (HGN.out (by omega))
      rw [← E.out] at S7
      have S8 := S7
      clear S7 HGN HFA HTG HS7
      have r0 := S8.out.r.cell 0
      have r1 := S8.out.r.cell 1
      have f0 := S8.out.r.free 0
      have f1 := S8.out.r.free 1
      simp only [List.getElem?_cons_zero, List.getElem?_cons_succ] at r0 r1
      have S9 := Lib.hid (S8.out.setR st)
      go_wp2_with fail
      refine cells_end2 (n := 2) sum_flatA rfl W.heap.size rfl (SumC st) rfl 36 S9.out.r rfl ?_
      rw [HS0.out]
      exact ⟨W.heap.size + 1, rfl, own_raise S9.out.row fun g hg => by have := own_low S9.out.row g hg; omega, S9.out.low⟩
end Go.Proofs.Yteaenomfighaoaa
