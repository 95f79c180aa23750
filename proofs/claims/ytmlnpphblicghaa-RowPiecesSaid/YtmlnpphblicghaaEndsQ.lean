import Derived.Test.YtmlnpphblicghaaTotAboveQ
import Derived.Test.YtmlnpphblicghaaBrkFineQ
import Derived.Test.YtmlnpphblicghaaEndMidQ
import Derived.Test.YtmlnpphblicghaaBrkFitsQ
import Derived.Test.YtmlnpphblicghaaZQ
import Derived.Deep.CutBlock
/- brk.endsFrom. -/
namespace Go.Proofs.Ytmlnpphblicghaa
open Go Go.RowKit
set_option linter.unusedVariables false
set_option linter.unusedSimpArgs false
set_option maxRecDepth 20000
set_option maxHeartbeats 4000000

theorem en_info : (Try.prog.info? 70).map (fun i => (i.zero, i.size, i.bytes)) = some (some (.agg #[.int .i64 0, .int .i64 0, .int .u64 0, .int .i64 0, .int .u64 0]), 5, 40) := by kernel_rfl
/-- Ends in the making: their sum lies at lo, the row behind it. -/
structure EndSt (W w : World) (A : Option Addr) (n c : Nat) (L : List En) (s : Int) : Prop where
  own : w.ownsRow (W.heap.size + 1) 70 5 (.slice A n c) n (L.flatMap enC)
  tot : Whole w W.heap.size 68 [.int .i64 (tH s), .int .u64 (tL s)]
  low : Below W.heap.size W w
section
variable {W w w' : World} {A A' : Option Addr} {n c c' : Nat} {L : List En} {s : Int}
theorem EndSt.size (h : EndSt W w A n c L s) : W.heap.size + 1 ≤ w.heap.size := h.tot.size
theorem EndSt.behind (h : EndSt W w A n c L s) (hb : Below w.heap.size w w') : EndSt W w' A n c L s :=
  ⟨own_below h.own hb (Nat.le_refl _), h.tot.under hb h.tot.size, h.low.trans (hb.mono (by have := h.size; omega))⟩
theorem EndSt.pushed {L : List (Nat × Int)} (h : EndSt W w A n c (L.map rawEn) s) (e : Nat × Int) (ho : w'.ownsRow (W.heap.size + 1) 70 5 (.slice A' (n + 1) c') (n + 1) ((L.map rawEn).flatMap enC ++ enC (rawEn e))) (hb : Below (W.heap.size + 1) w w') :
    EndSt W w' A' (n + 1) c' ((L ++ [e]).map rawEn) s :=
  ⟨by simpa [List.map_append, List.flatMap_append] using ho, h.tot.under hb (by omega), h.low.trans (hb.mono (by omega))⟩
theorem EndSt.setTot (h : EndSt W w A n c L s) (t : Int) : EndSt W ((w.setCell ⟨W.heap.size, 0, none⟩ (.int .i64 (tH t))).setCell ⟨W.heap.size, 1, none⟩ (.int .u64 (tL t))) A n c L t := by
  have ho : Only [W.heap.size] w ((w.setCell ⟨W.heap.size, 0, none⟩ (.int .i64 (tH t))).setCell ⟨W.heap.size, 1, none⟩ (.int .u64 (tL t))) := ((Only.refl _ w).setCell _ (.inl (by simp)) _).setCell _ (.inl (by simp)) _
  exact ⟨ho.owns h.own fun b hb => by have := (h.own.lt b hb).1; simp; omega, (h.tot.put 0 _).put 1 _, h.low.trans (ho.below (by simp) (by have := h.size; omega))⟩
theorem EndSt.cells (h : EndSt W w A n c L s) : w.cell? ⟨W.heap.size, 0, none⟩ = some (.int .i64 (tH s)) ∧ w.cell? ⟨W.heap.size, 1, none⟩ = some (.int .u64 (tL s)) ∧ w.frozen? ⟨W.heap.size, 0, none⟩ = false ∧ w.frozen? ⟨W.heap.size, 1, none⟩ = false :=
  ⟨h.tot.cell 0, h.tot.cell 1, h.tot.free 0, h.tot.free 1⟩
/-- Two cells of an end written: its least. -/
theorem EndSt.setLeast {g : Nat} (h : EndSt W w (some ⟨g, 0, none⟩) n c L s) (i : Nat) (hi : i < L.length) (m : Int) :
    EndSt W ((w.setCell ⟨g, i * 5 + 3, none⟩ (.int .i64 (tH m))).setCell ⟨g, i * 5 + 4, none⟩ (.int .u64 (tL m))) (some ⟨g, 0, none⟩) n c (L.set i ⟨L[i].at_, L[i].sum, m⟩) s := by
  have hg : W.heap.size + 1 ≤ g := (h.own.lt g rfl).1
  have h1 := ((h.own.stored (i * 5 + 3) (.int .i64 (tH m))).1.stored (i * 5 + 4) (.int .u64 (tL m))).1
  rw [rec_set2 enC_len L i hi 3 4 (by decide) (by decide) _ _ ⟨L[i].at_, L[i].sum, m⟩ (by rfl)] at h1
  exact ⟨h1, (h.tot.other (by simp; omega) _).other (by simp; omega) _, (h.low.setCell (by simp; omega) _).setCell (by simp; omega) _⟩
theorem EndSt.enAt {g : Nat} (h : EndSt W w (some ⟨g, 0, none⟩) n c L s) (hn : n = L.length) (i : Nat) (hi : i < L.length) (j : Nat) (hj : j < 5) : w.cell? ⟨g, i * 5 + j, none⟩ = (enC L[i])[j]? ∧ w.frozen? ⟨g, i * 5 + j, none⟩ = false :=
  ⟨(h.own.cellAt _ (by omega)).trans (rec_get enC_len L i hi j hj), h.own.frozenAt _⟩
end
theorem ends_any (g : List Gl) (hg : FineG g) (A : Option Addr) (c : Nat) (st : Nat) (hf : st ≤ g.length) (W : World) (hR : Row W W.heap.size A (i64s (gCells g))) :
    Calls Try.prog 32 #[.slice A g.length c, .int .i64 st] W fun e w' => ∃ (A' : Option Addr) (c' : Nat), e = .returned (.slice A' (endsS (g.drop st) st 0).length c') ∧
      w'.ownsRow W.heap.size 70 5 (.slice A' (endsS (g.drop st) st 0).length c') (endsS (g.drop st) st 0).length ((leasts (endsS (g.drop st) st 0)).flatMap enC) ∧ Below W.heap.size W w' := by
  have HR := Lib.hid hR
  have HG := Lib.hid hg
  have hgl := hg.1
  have F0 : Hid (endsS (g.drop st) st 0 = endsS (g.drop st) st 0) := Lib.hid rfl
  have hF1 : 0 < (endsS (g.drop st) st 0).length := by obtain ⟨e, es, he⟩ := endsS_ne (g.drop st) st 0; rw [he]; simp
  clear hR hg
  generalize hFF : endsS (g.drop st) st 0 = F at F0 hF1 ⊢
  have HF0 := Lib.hid hFF
  clear hFF F0
  have G0 : Hid (EndSt W (W.alloc (.cells #[.int .i64 0, .int .u64 0] 68)) none 0 0 (([] : List (Nat × Int)).map rawEn) 0) := Lib.hid ⟨World.ownsRow_nil _ _ _ _, Whole.mk W 68 #[.int .i64 0, .int .u64 0], (Below.refl _ W).alloc (Nat.le_refl _) _⟩
  go_enter Try.func32, Try.ntmps32
  go_upto_block 0 with fail
  go_cut [5, 7] (fun v5 v7 wx => ∃ (A1 : Option Addr) (c1 n k : Nat) (cur : List (Nat × Int)) (s : Int), v5 = .slice A1 n c1 ∧ v7 = .int .i64 k ∧ n = cur.length ∧ n ≤ 4194304 ∧ k ≤ g.length ∧ EndSt W wx A1 n c1 (cur.map rawEn) s ∧ Hid (cur ++ [(k, s)] = F))
  case first =>
    go_wp2_with fail
    generalize W.alloc (.cells #[.int .i64 0, .int .u64 0] 68) = W1 at *
    go_loopw [5, 7] (fun v5 v7 wx => ∃ (A1 : Option Addr) (c1 n k : Nat) (cur : List (Nat × Int)) (s : Int), v5 = .slice A1 n c1 ∧ v7 = .int .i64 k ∧ n = cur.length ∧ n ≤ k ∧ k ≤ g.length ∧ BdS s k ∧ EndSt W wx A1 n c1 (cur.map rawEn) s ∧ Hid (cur ++ endsS (g.drop k) k s = F)) (fun _ v7 _ => g.length - (intOf v7).toNat)
    case atStart => exact ⟨none, 0, 0, st, [], 0, rfl, rfl, rfl, Nat.zero_le _, hf, by unfold BdS; omega, G0.out, Lib.hid HF0.out⟩
    case round =>
      clear G0
      obtain ⟨A1, c1, n, k, cur, s, rfl, rfl, hn, hnk, hk, hbd, hS, hC⟩ := hrel
      have HN := Lib.hid hn
      have FG := Lib.hid HG.out
      clear HG HF0
      have HG := Lib.hid hS
      have hBD := Lib.hid hbd
      have hT := Lib.hid (hbd.tot (by omega))
      clear hn hbd
      by_cases hlt : k < g.length
      · have hki : (k : Int) < g.length := by omega
        obtain ⟨ad, rfl, hab, r0, r1, r2, r3⟩ := (HR.out.below hS.low).gl hlt
        have hE : endsS (g.drop k) k s = if g[k].kind = 4 then [(k, s)] else if g[k].kind = 2 then (k, s) :: endsS (g.drop (k + 1)) (k + 1) (s + g[k].adv) else endsS (g.drop (k + 1)) (k + 1) (s + g[k].adv) := by
          rw [List.drop_eq_getElem_cons hlt]; rfl
        have HE := Lib.hid hE
        have HI := Lib.hid (FG.out.at_ k hlt)
        have HB2 := Lib.hid (FG.out.bd k hlt hBD.out)
        have zA : ad.block < W.heap.size := hab
        clear hE
        generalize g[k] = x at *
        obtain ⟨xk, xr, xa, xv⟩ := x
        simp only at r0 r1 r2 r3 HE HI HB2
        by_cases h4 : xk = 4
        · subst h4
          rw [if_pos rfl] at HE
          have H2 := Lib.hid (HE.out ▸ hC.out)
          clear hS HE hC r1 r2 r3
          go_wp2_with fail
          go_meet
          exact ⟨A1, c1, n, k, cur, s, rfl, rfl, HN.out, by omega, hk, HG.out, H2.out⟩
        · have e4 : (xk != 4) = true := by simpa using h4
          rw [if_neg h4] at HE
          have PL := Lib.hid (fun w => plus_any s xv hT.out HI.out w)
          simp only [totV] at PL
          by_cases h2 : xk = 2
          · subst h2
            rw [if_pos rfl] at HE
            have H2 : Hid ((cur ++ [(k, s)]) ++ endsS (g.drop (k + 1)) (k + 1) (s + xv) = F) := Lib.hid (by have := hC.out; rw [HE.out] at this; simpa using this)
            obtain ⟨d0, d1, f0, f1⟩ := hS.cells
            have R3 := Lib.hid ((hS.low.cell (p := ⟨(ad.add (k * 4)).block, (ad.add (k * 4)).off + 3, none⟩) (by simp only [add_block]; omega)).symm.trans r3)
            clear hS HE hC r1 r2 r3
            go_upto_region 8 with (at_builtin; refine wpList_new rfl (.tmp 30) (.tmp 35) _ rfl (W.heap.size + 1) 70 5 40 (.agg #[.int .i64 0, .int .i64 0, .int .u64 0, .int .i64 0, .int .u64 0]) Try.underlying64 en_info rfl (by decide) _ _ _ _ rfl HG.out.own rfl ⟨by omega, by unfold maxLen; omega, HG.out.size⟩ rfl (by simp [Value.oneCell']) ?_; intro A2 c2 w2 own2 hb2; have G2 := Lib.hid (HG.out.pushed (k, s) own2 hb2); clear own2 hb2 HG d0 d1)
            have zT := G2.out.size
            have Y := Lib.hid (fun t : Later w2.heap.size w2 => G2.out.behind t.h)
            have y1 : ∀ t : Later w2.heap.size w2, t.w.cell? ⟨W.heap.size, 0, none⟩ = some (.int .i64 (tH s)) := fun t => (Y.out t).cells.1
            have y2 : ∀ t : Later w2.heap.size w2, t.w.cell? ⟨W.heap.size, 1, none⟩ = some (.int .u64 (tL s)) := fun t => (Y.out t).cells.2.1
            have y3 : ∀ t : Later w2.heap.size w2, t.w.cell? ⟨(ad.add (k * 4)).block, (ad.add (k * 4)).off + 3, none⟩ = some (.int .i64 xv) := fun t => (Y.out t).low.cell (p := ⟨(ad.add (k * 4)).block, (ad.add (k * 4)).off + 3, none⟩) (by simp only [add_block]; omega) |>.trans R3.out
            refine region_lane [] [0, 1, 2, 3, 4, 5, 6] [7] (by kernel_rfl) (by kernel_rfl) (fun _ _ _ _ _ h => h) ?_
            simp only [pick, List.map_nil]
            refine wpQuiet_nil ⟨rfl, ?_⟩
            simp only [List.map_cons, List.map_nil, List.getD_cons_zero, List.getD_cons_succ, List.drop_succ_cons, List.drop_zero]
            refine laneO_run 6 (by kernel_rfl) ?_
            simp only [List.take_succ_cons, List.take_zero, List.drop_succ_cons, List.drop_zero]
            repeat (go_big_quiet_step (fail))
            refine wpQuiet_nil ?_
            refine laneO_call (v := totV (s + xv)) (by kernel_rfl) (by rfl) (fun C hC h0 => ?_) ?_
            focus (go_big_quiet_op; exact ⟨_, fun w hw => (PL.out w).mono fun e w' ⟨he, hb⟩ => ⟨he, hC _ _ hw hb⟩, rfl⟩)
            simp only [Act.put, List.setIfInBounds_toArray, List.set_cons_zero, List.set_cons_succ]
            refine laneO_end0 rfl rfl fun w1 hb0 => ?_
            have G3 := Lib.hid (G2.out.behind hb0)
            obtain ⟨d0, d1, f0, f1⟩ := G3.out.cells
            clear y1 y2 y3 Y G2 zT PL
            go_wp2_with fail
            have G4 := Lib.hid (G3.out.setTot (s + xv))
            clear G3 d0 d1 f0 f1
            go_roundw
            case rel => exact ⟨A2, c2, n + 1, k + 1, cur ++ [(k, s)], s + xv, rfl, by go_num, by simp [HN.out], by omega, by omega, HB2.out, G4.out, H2⟩
            case measure => simp [intOf]; omega
          · have e2 : (xk == 2) = false := by simpa using h2
            rw [if_neg h2] at HE
            have H2 : Hid (cur ++ endsS (g.drop (k + 1)) (k + 1) (s + xv) = F) := Lib.hid (by have := hC.out; rwa [HE.out] at this)
            clear HE hC r1 r2
            go_upto_region 8 with fail
            have zT := HG.out.size
            have Y := Lib.hid (fun t : Later wr.heap.size wr => HG.out.behind t.h)
            have y1 : ∀ t : Later wr.heap.size wr, t.w.cell? ⟨W.heap.size, 0, none⟩ = some (.int .i64 (tH s)) := fun t => (Y.out t).cells.1
            have y2 : ∀ t : Later wr.heap.size wr, t.w.cell? ⟨W.heap.size, 1, none⟩ = some (.int .u64 (tL s)) := fun t => (Y.out t).cells.2.1
            have y3 : ∀ t : Later wr.heap.size wr, t.w.cell? ⟨(ad.add (k * 4)).block, (ad.add (k * 4)).off + 3, none⟩ = some (.int .i64 xv) := fun t => (t.h.cell (p := ⟨(ad.add (k * 4)).block, (ad.add (k * 4)).off + 3, none⟩) (by simp only [add_block]; omega)).trans r3
            refine region_lane [] [0, 1, 2, 3, 4, 5, 6] [7] (by kernel_rfl) (by kernel_rfl) (fun _ _ _ _ _ h => h) ?_
            simp only [pick, List.map_nil]
            refine wpQuiet_nil ⟨rfl, ?_⟩
            simp only [List.map_cons, List.map_nil, List.getD_cons_zero, List.getD_cons_succ, List.drop_succ_cons, List.drop_zero]
            refine laneO_run 6 (by kernel_rfl) ?_
            simp only [List.take_succ_cons, List.take_zero, List.drop_succ_cons, List.drop_zero]
            repeat (go_big_quiet_step (fail))
            refine wpQuiet_nil ?_
            refine laneO_call (v := totV (s + xv)) (by kernel_rfl) (by rfl) (fun C hC h0 => ?_) ?_
            focus (go_big_quiet_op; exact ⟨_, fun w hw => (PL.out w).mono fun e w' ⟨he, hb⟩ => ⟨he, hC _ _ hw hb⟩, rfl⟩)
            simp only [Act.put, List.setIfInBounds_toArray, List.set_cons_zero, List.set_cons_succ]
            refine laneO_end0 rfl rfl fun w1 hb0 => ?_
            have G3 := Lib.hid (HG.out.behind hb0)
            obtain ⟨d0, d1, f0, f1⟩ := G3.out.cells
            clear y1 y2 y3 Y HG zT PL
            go_wp2_with fail
            have G4 := Lib.hid (G3.out.setTot (s + xv))
            clear G3 d0 d1 f0 f1
            go_roundw
            case rel => exact ⟨A1, c1, n, k + 1, cur, s + xv, rfl, by go_num, HN.out, by omega, by omega, HB2.out, G4.out, H2⟩
            case measure => simp [intOf]; omega
      · have hke : k = g.length := by omega
        subst hke
        have H2 : Hid (cur ++ [(g.length, s)] = F) := Lib.hid (by have := hC.out; rwa [List.drop_length] at this)
        have hki : ¬ (g.length : Int) < g.length := by omega
        clear hS hC
        go_wp2_with fail
        go_meet
        exact ⟨A1, c1, n, g.length, cur, s, rfl, rfl, HN.out, by omega, Nat.le_refl _, HG.out, H2.out⟩
  case rest =>
    obtain ⟨A1, c1, n, k, cur, s, rfl, rfl, hn, hn4, hk, hS, hC⟩ := hcut
    have HG := Lib.hid hS
    obtain ⟨d0, d1, f0, f1⟩ := hS.cells
    have HN : Hid (F.length = n + 1) := Lib.hid (by rw [← hC.out, hn]; simp)
    clear hS hn G0
    go_upto_block 2 with (at_builtin; refine wpList_new rfl (.tmp 44) (.tmp 49) _ rfl (W.heap.size + 1) 70 5 40 (.agg #[.int .i64 0, .int .i64 0, .int .u64 0, .int .i64 0, .int .u64 0]) Try.underlying64 en_info rfl (by decide) _ _ _ _ rfl HG.out.own rfl ⟨by omega, by unfold maxLen; omega, HG.out.size⟩ rfl (by simp [Value.oneCell']) ?_; intro A2 c2 w2 own2 hb2; have G2 := Lib.hid (HG.out.pushed (k, s) own2 hb2); clear own2 hb2 HG d0 d1)
    rw [hC.out] at G2
    have hgs := owns_some G2.out.own (by omega)
    obtain ⟨gb, c3, hv, -, -, -⟩ := hgs
    injection hv with hA hn' hc'
    subst hA
    subst hc'
    clear hC
    have G3 : Hid (EndSt W w2 (some ⟨gb, 0, none⟩) (n + 1) c2 (midE F n) s) := Lib.hid (by rw [midE_last F n HN.out.symm]; exact G2.out)
    clear G2
    go_wp2_with fail
    go_loopw [8] (fun v8 wr => ∃ (j : Nat) (z : Int), j ≤ n ∧ z + 1 = j ∧ v8 = .int .i64 z ∧ EndSt W wr (some ⟨gb, 0, none⟩) (n + 1) c2 (midE F j) s) (fun v8 _ => (intOf v8 + 1).toNat)
    case atStart => exact ⟨n, (n : Int) - 1, Nat.le_refl _, by omega, by go_num, G3.out⟩
    case round =>
      clear G3
      obtain ⟨j, z, hj, hz, rfl, hS⟩ := hrel
      have HG := Lib.hid hS
      clear hS
      rcases Nat.eq_zero_or_pos j with h0 | h0
      · subst h0
        have hz0 : ¬ (0 : Int) ≤ z := by omega
        rw [midE_zero] at HG
        go_wp2
        go_ret
        exact ⟨some ⟨gb, 0, none⟩, c2, by rw [HN.out]; rfl, by rw [HN.out]; exact own_base HG.out.own (by omega), HG.out.low⟩
      · obtain ⟨q, rfl⟩ : ∃ q, j = q + 1 := ⟨j - 1, by omega⟩
        obtain rfl : z = (q : Int) := by omega
        have hqF : q + 1 < F.length := by have := HN.out; omega
        have hl := midE_length F (q + 1)
        have a3 := HG.out.enAt (HN.out.symm.trans hl.symm) q (by omega) 3 (by decide)
        have a4 := HG.out.enAt (HN.out.symm.trans hl.symm) q (by omega) 4 (by decide)
        have b3 := HG.out.enAt (HN.out.symm.trans hl.symm) (q + 1) (by omega) 3 (by decide)
        have b4 := HG.out.enAt (HN.out.symm.trans hl.symm) (q + 1) (by omega) 4 (by decide)
        have hst := midE_step F q hqF
        have hput := fun (w : World) (h : EndSt W w (some ⟨gb, 0, none⟩) (n + 1) c2 (midE F (q + 1)) s) (m : Int) => h.setLeast q (by omega) m
        rw [midE_at F q hqF] at a3 a4
        simp only [midE_at F q hqF] at hput
        rw [midE_next F q hqF] at b3 b4
        have hset : midE F (q + 1) = (midE F (q + 1)).set q (rawEn F[q]) := by
          have := (List.set_getElem_self (show q < (midE F (q + 1)).length by omega)).symm
          rwa [midE_at F q hqF] at this
        simp only [enC, rawEn, List.getElem?_cons_succ, List.getElem?_cons_zero] at a3 a4 b3 b4 hput hset
        generalize F[q] = x at *
        generalize lowS F[q + 1] (F.drop (q + 2)) = y at *
        obtain ⟨xa, xs⟩ := x
        simp only at a3 a4 b3 b4 hst hput hset
        have HST := Lib.hid hst
        have HPUT := Lib.hid hput
        have HSET := Lib.hid hset
        have AB := Lib.hid (fun w => above_any xs y w)
        simp only [totV] at AB
        clear hst hput hset hqF hl hz
        have zg : gb < wr.heap.size := owns_lt HG.out.own rfl
        have zW := HG.out.size
        go_upto_region 13 with fail
        have y1 : ∀ t : Later wr.heap.size wr, t.w.cell? ⟨gb, q * 5 + 3, none⟩ = some (.int .i64 (tH xs)) := fun t => (t.h.cell (p := ⟨gb, q * 5 + 3, none⟩) zg).trans a3.1
        have y2 : ∀ t : Later wr.heap.size wr, t.w.cell? ⟨gb, q * 5 + 4, none⟩ = some (.int .u64 (tL xs)) := fun t => (t.h.cell (p := ⟨gb, q * 5 + 4, none⟩) zg).trans a4.1
        have y3 : ∀ t : Later wr.heap.size wr, t.w.cell? ⟨gb, (q + 1) * 5 + 3, none⟩ = some (.int .i64 (tH y)) := fun t => (t.h.cell (p := ⟨gb, (q + 1) * 5 + 3, none⟩) zg).trans b3.1
        have y4 : ∀ t : Later wr.heap.size wr, t.w.cell? ⟨gb, (q + 1) * 5 + 4, none⟩ = some (.int .u64 (tL y)) := fun t => (t.h.cell (p := ⟨gb, (q + 1) * 5 + 4, none⟩) zg).trans b4.1
        refine region_lane [] [0, 1, 2, 3, 4, 5, 6, 7, 8, 9, 10] [11] (by kernel_rfl) (by kernel_rfl) (fun _ _ _ _ _ h => h) ?_
        simp only [pick, List.map_nil]
        refine wpQuiet_nil ⟨rfl, ?_⟩
        simp only [List.map_cons, List.map_nil, List.getD_cons_zero, List.getD_cons_succ, List.drop_succ_cons, List.drop_zero]
        refine laneO_run 11 (by kernel_rfl) ?_
        simp only [List.take_succ_cons, List.take_zero, List.drop_succ_cons, List.drop_zero]
        repeat (go_big_quiet_step (fail))
        refine wpQuiet_nil ?_
        refine laneO_end0 rfl rfl fun w1 hb0 => ?_
        go_wp2_with fail
        refine (AB.out _).mono ?_
        rintro e w3 ⟨rfl, hb3⟩
        have B3 := Lib.hid (hb0.trans hb3)
        have HG3 := Lib.hid (HG.out.behind B3.out)
        clear hb0 hb3 y1 y2 y3 y4 AB
        obtain ⟨a3, -⟩ := a3
        obtain ⟨a4, -⟩ := a4
        have fa3 := HG3.out.own.frozenAt (q * 5 + 3)
        have fa4 := HG3.out.own.frozenAt (q * 5 + 4)
        have ca3 := (B3.out.cell (p := ⟨gb, q * 5 + 3, none⟩) zg).trans a3
        have ca4 := (B3.out.cell (p := ⟨gb, q * 5 + 4, none⟩) zg).trans a4
        have cb3 := (B3.out.cell (p := ⟨gb, (q + 1) * 5 + 3, none⟩) zg).trans b3.1
        have cb4 := (B3.out.cell (p := ⟨gb, (q + 1) * 5 + 4, none⟩) zg).trans b4.1
        clear a3 a4 b3 b4 B3 zW zg
        by_cases hys : y < xs
        · have hd : decide (y < xs) = true := by simpa using hys
          have H5 : Hid (EndSt W ((w3.setCell ⟨gb, q * 5 + 3, none⟩ (.int .i64 (tH y))).setCell ⟨gb, q * 5 + 4, none⟩ (.int .u64 (tL y))) (some ⟨gb, 0, none⟩) (n + 1) c2 (midE F q) s) := Lib.hid (by
            rw [HST.out, show min xs y = y by omega]; exact HPUT.out w3 HG3.out y)
          clear HST HPUT HSET HG3 hys
          go_wp2
          go_roundw
          case rel => exact ⟨q, (q : Int) - 1, by omega, by omega, by go_num, H5.out⟩
          case measure => simp [intOf]
        · have hd : decide (y < xs) = false := by simpa using hys
          have H5 : Hid (EndSt W w3 (some ⟨gb, 0, none⟩) (n + 1) c2 (midE F q) s) := Lib.hid (by
            rw [HST.out, show min xs y = xs by omega, ← HSET.out]; exact HG3.out)
          clear HST HPUT HSET HG3 hys
          go_wp2
          go_roundw
          case rel => exact ⟨q, (q : Int) - 1, by omega, by omega, by go_num, H5.out⟩
          case measure => simp [intOf]
end Go.Proofs.Ytmlnpphblicghaa
