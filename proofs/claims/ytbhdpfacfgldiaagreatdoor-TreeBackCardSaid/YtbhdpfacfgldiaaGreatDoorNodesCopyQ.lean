import Derived.Test.YtbhdpfacfgldiaaGreatDoorCopyMemQ
import Derived.Test.YtbhdpfacfgldiaaGreatDoorMidGQ
/- nodes.Copy. -/
namespace Go.Proofs.YtbhdpfacfgldiaaGreatDoor
open Go Go.RowKit
set_option linter.unusedVariables false
set_option linter.unusedSimpArgs false
set_option maxRecDepth 20000
set_option maxHeartbeats 4000000

theorem run_makeMap_hint {P : Program} {t k e : TypeId} (hu : P.underlying t = some (.map k e)) (q : IntKind) (n : Int) (w : World) : (Instr.makeMap t (some (.int q n))).run P w = .ok (.map (some w.heap.size)) (w.alloc (.map #[] 0)) := by
  simp [Instr.makeMap, run_underlying hu, asInt, asIntOf, Result.andThen]
def mapT (lo : Nat) : Told := fun v w => ∃ b, v = .map (some b) ∧ lo ≤ b ∧ MapP Tryz.prog 3 w b 0 (fun _ => none)
theorem mapT_steady (lo : Nat) : Steady (mapT lo) := fun v w w' hb ⟨b, e, hl, h⟩ => ⟨b, e, hl, h.only (Only.of_below (S := []) hb) (by simp)⟩
def hdT (lo : Nat) (most : Int) : Told := fun v w => ∃ b, v = .agg #[.int .i64 most, .map (some b)] ∧ lo ≤ b ∧ MapP Tryz.prog 3 w b 0 (fun _ => none)
theorem hdT_steady (lo : Nat) (most : Int) : Steady (hdT lo most) := fun v w w' hb ⟨b, e, hl, h⟩ => ⟨b, e, hl, h.only (Only.of_below (S := []) hb) (by simp)⟩
def newsT (lo : Nat) (most : Int) : Told := fun v w => ∃ c b, v = .pointer (some ⟨c, 0, none⟩) ∧ lo ≤ c ∧ lo ≤ b ∧ Whole w c 86 [.int .i64 most, .map (some b)] ∧ MapP Tryz.prog 3 w b 0 (fun _ => none)
theorem newsT_steady (lo : Nat) (most : Int) : Steady (newsT lo most) := fun v w w' hb ⟨c, b, e, h1, h2, hw, h⟩ => ⟨c, b, e, h1, h2, hw.under hb hw.size, h.only (Only.of_below (S := []) hb) (by simp)⟩
def idsT (lo : Nat) (l : List Int) : Told := fun v w => ∃ A c, v = .slice A l.length c ∧ w.ownsRow lo 3 1 (.slice A l.length c) l.length (idC l)
theorem idsT_steady (lo : Nat) (l : List Int) : Steady (idsT lo l) := fun v w w' hb ⟨A, c, e, h⟩ => ⟨A, c, e, own_keepN h hb⟩
/-- A node copied: its struct, then where it lies. -/
def cpT (lo : Nat) (n : Nd) (K : List Int) : Told := fun v w => ∃ A c B d, v = .agg (ndC n (.slice A n.sty.length c) (.slice B K.length d)).toArray ∧ StyOwn w lo (.slice A n.sty.length c) n.sty ∧ w.ownsRow lo 3 1 (.slice B K.length d) K.length (idC K)
theorem cpT_steady (lo : Nat) (n : Nd) (K : List Int) : Steady (cpT lo n K) := fun v w w' hb ⟨A, c, B, d, e, h, k⟩ => ⟨A, c, B, d, e, h.only (Only.of_below (S := []) hb) (by simp), own_keepN k hb⟩
def cpAtT (lo : Nat) (n : Nd) (K : List Int) : Told := fun v w => ∃ g A c B d, v = .pointer (some ⟨g, 0, none⟩) ∧ lo ≤ g ∧ Whole w g 88 (ndC n (.slice A n.sty.length c) (.slice B K.length d)) ∧ StyOwn w lo (.slice A n.sty.length c) n.sty ∧ w.ownsRow lo 3 1 (.slice B K.length d) K.length (idC K)
theorem cpAtT_steady (lo : Nat) (n : Nd) (K : List Int) : Steady (cpAtT lo n K) := fun v w w' hb ⟨g, A, c, B, d, e, hl, hw, h, k⟩ => ⟨g, A, c, B, d, e, hl, hw.under hb hw.size, h.only (Only.of_below (S := []) hb) (by simp), own_keepN k hb⟩
theorem node_range {w : World} {g : Nat} {t : TypeId} {n : Nd} {s k : Value} (h : Whole w g t (ndC n s k)) : w.rangeAt g 0 (nodeC n s) := fun j v hv => by
  have hj : j < 5 := by have := (List.getElem?_eq_some_iff.1 hv).1; simpa [nodeC] using this
  rw [Nat.zero_add, h.cell j, ← hv]
  match j, hj with
  | 0, _ => rfl
  | 1, _ => rfl
  | 2, _ => rfl
  | 3, _ => rfl
  | 4, _ => rfl
theorem wf_in64 {x : Int} (h : (Lit.int .i64 x).wf = true) : In64i x := by
  simp only [Lit.wf, Bool.and_eq_true, decide_eq_true_eq] at h
  exact ⟨h.1, h.2⟩
/-- A copy under way. -/
structure CopySt (W w : World) (most : Int) (L : List Nd) (c bc : Nat) (left : Lit → Bool) : Prop where
  at_ : ∃ f sv kv m, CopyAt w W.heap.size c bc most L f sv kv (fun z => left (.int .i64 z)) m
  low : Below W.heap.size W w
  sub : ∀ z, In64i z → left (.int .i64 z) = true → hasZ L z = true
theorem ncopy_any {W : World} {base t : Nat} {most : Int} {L : List Nd} (hT : Tree W base t most L) (hL : L.length ≤ 1000) :
    Calls Tryz.prog 46 #[.pointer (some ⟨t, 0, none⟩)] W fun e w' => ∃ c, e = .returned (.pointer (some ⟨c, 0, none⟩)) ∧ Tree w' W.heap.size c most L ∧ Below W.heap.size W w' := by
  have LN := Lib.hid (fun w (hb : Behind W w) => nlen_any (hT.behind hb))
  obtain ⟨b0, f0, sv0, kv0, h0⟩ := hT
  have HT := Lib.hid h0
  have hmk := fun (n : Int) (w : World) => run_makeMap_hint (P := Tryz.prog) (t := 84) Tryz.underlying84 .i64 n w
  have K : Maps.Keyed Tryz.prog 3 := Maps.int_keyed Tryz.underlying3
  clear h0
  go_enter Tryz.func46, Tryz.ntmps46
  go_upto_region 1 with fail
  have y0 : ∀ x : Later W.heap.size W, x.w.cell? ⟨t, 0, none⟩ = some (.int .i64 most) := fun x => (HT.out.hd.under x.h HT.out.hd.size).cell 0
  refine region_lane [] [0, 1, 2, 3, 4, 5, 6, 7, 8] [9] (by kernel_rfl) (by kernel_rfl) (fun _ _ _ _ _ h => h) ?_
  simp only [pick, List.map_nil]
  refine wpQuiet_nil ⟨rfl, ?_⟩
  simp only [List.map_cons, List.map_nil, List.getD_cons_zero, List.getD_cons_succ, List.drop_succ_cons, List.drop_zero]
  refine laneO_run 5 (by kernel_rfl) ?_
  simp only [List.take_succ_cons, List.take_zero, List.drop_succ_cons, List.drop_zero]
  repeat (go_big_quiet_step (fail))
  refine wpQuiet_nil ?_
  refine laneO_call (v := .int .i64 (L.length : Int)) (by kernel_rfl) (by rfl) (fun C hC h0 => ?_) ?_
  focus (go_big_quiet_op; exact ⟨_, fun w hw => (LN.out w (h0 w hw)).mono fun e w' ⟨he, hb⟩ => ⟨he, hb ▸ hw⟩, rfl⟩)
  simp only [Act.put, List.setIfInBounds_toArray, List.set_cons_zero, List.set_cons_succ]
  refine laneO_told (mapT W.heap.size) (mapT_steady _) (by kernel_rfl) rfl (fun w hw => .inl ⟨by rfl, ?_⟩) ?_
  focus (unfold gives; simp [go_sem, hmk]; exact ⟨(Below.refl _ _).alloc (Nat.le_refl _) _, w.heap.size, rfl, hw.size, MapP.made _ _ w⟩)
  refine laneO_gives (hdT W.heap.size most) (hdT_steady _ _) rfl (by rfl) (by rfl) (fun a' w hw hm => ?_) ?_
  · obtain ⟨b, e, hl, hM⟩ : mapT W.heap.size (a'.tmps.getD 12 undef) w := hm 12 (by simp [Oper.looksAt, Op.operands])
    have e9 : a'.tmps.getD 9 undef = .int .i64 most := hm 9 (by simp [Oper.looksAt, Op.operands])
    have e2 : ((#[(0, Operand.tmp 9), (1, Operand.tmp 12)] : Array (Nat × Operand)).map fun (i, x) => (i, a'.eval x)).toList = [(0, .int .i64 most), (1, .map (some b))] := by simp [Act.eval] at e e9 ⊢; exact ⟨e9, e⟩
    have e3 : Tryz.prog.built 86 [(0, .int .i64 most), (1, .map (some b))] = some #[.int .i64 most, .map (some b)] := by kernel_rfl
    exact gives_mono (built_gives 86 #[(0, .tmp 9), (1, .tmp 12)] rfl #[.int .i64 most, .map (some b)] (by rw [e2]; exact e3)) fun v w' hb' hv => ⟨b, hv, hl, hM.only (Only.of_below (S := []) hb') (by simp)⟩
  refine laneO_gives (newsT W.heap.size most) (newsT_steady _ _) rfl (by rfl) (by rfl) (fun a' w hw hm => ?_) ?_
  · obtain ⟨b, e, hl, hM⟩ : hdT W.heap.size most (a'.tmps.getD 13 undef) w := hm 13 (by simp [Oper.looksAt, Op.operands])
    have hb1 : Behind w (w.alloc (.cells #[.int .i64 most, .map (some b)] 86)) := (Below.refl _ _).alloc (Nat.le_refl _) _
    have e3 : a'.eval (.tmp 13) = .agg #[.int .i64 most, .map (some b)] := e
    unfold gives
    simp only [execOp, e3]
    simp [go_sem]
    exact ⟨hb1, w.heap.size, b, rfl, hw.size, hl, Whole.mk w 86 #[.int .i64 most, .map (some b)], hM.only (Only.of_below (S := []) hb1) (by simp)⟩
  refine laneO_end (by simp) (by rfl) rfl rfl fun w1 hb1 => ?_
  rintro x ⟨c, bc, rfl, hc, hbc, hN, hM⟩ y hy z hz
  clear hy hz y0 LN
  simp only [fillAll, Act.put, List.setIfInBounds_toArray, List.set_cons_zero, List.set_cons_succ]
  have HT1 := Lib.hid (HT.out.behind hb1)
  obtain ⟨D, hown, hsz, hD⟩ := HT1.out.mp
  have HD := Lib.hid hD
  have B1 := Lib.hid (show Below W.heap.size W w1 from hb1)
  have zr := hb1.size
  have m1 : w1.cell? ⟨t, 1, none⟩ = some (.map (some b0)) := HT1.out.hd.cell 1
  have N1 := Lib.hid hN
  have M1 := Lib.hid hM
  have OW := Lib.hid hown
  clear hD hb1 hN hM hown hsz
  go_wp2_with (first | (at_range; refine wpList_range_own _ rfl _ 84 rfl 3 83 K Tryz.underlying84 ptrR b0 L.length D rfl OW.out ?_; intro w2 hrg0 hg0 hs0) | fail)
  go_frame
  have G0 : Only [] w1 w2 := Only.of_grown hg0
  have dom0 : ∀ z, In64i z → Maps.has D (.int .i64 z) = hasZ L z := fun z hz => ((HD.out z hz).2).trans (HT.out.dom z)
  have C2 : Hid (CopySt W w2 most L c bc (Maps.has D)) := Lib.hid
    ⟨⟨_, _, _, _, CopyAt.start HT.out.ok ⟨hc, hbc⟩ (G0.whole N1.out (by simp)) (M1.out.only G0 (by simp)) fun n hn => by
        have hr := HT.out.ok.rng n hn
        rw [dom0 n.id ⟨by omega, by omega⟩]
        exact has_iff.2 ⟨n, hn, rfl⟩⟩,
      B1.out.trans (G0.below (B := W.heap.size) (by simp) B1.out.size), fun z hz h => by rw [← dom0 z hz]; exact h⟩
  have R2 := Lib.hid hrg0
  clear hrg0 hg0 hs0 G0 dom0 N1 M1 OW m1
  generalize w1.heap.size = r at *
  go_loopw [4] (fun _ wr => ∃ (left : Lit → Bool) (cnt : Nat), Hid (wr.ranges Tryz.prog 3 ptrR b0 r L.length D left cnt) ∧ Hid (CopySt W wr most L c bc left)) (fun _ wr => wr.rangeLeft b0 r)
  case atStart => exact ⟨_, _, R2, C2⟩
  case round =>
    clear R2 C2
    obtain ⟨left, cnt, RG, CS⟩ := hrel
    generalize wr = w3 at *
    go_wp2_with (first | (at_next; refine wpList_next_ranges _ rfl _ rfl 3 K ptrR (Value.int .i64) ptrV (fun key kl hkey => by obtain ⟨x, rfl, _⟩ := Maps.keyOf_int_inv Tryz.underlying3 hkey; exact ⟨x, rfl⟩) (fun v y h => by obtain ⟨c, e, -⟩ := ptrR_form v y h; exact ⟨c, e⟩) b0 r L.length D left cnt rfl RG.out ?_ ?_) | fail)
    · intro hc0 hl0
      go_wp2_with fail
      go_ret
      obtain ⟨f, sv, kv, m, hA⟩ := CS.out.at_
      exact ⟨c, rfl, ⟨bc, f, sv, kv, hA.done fun z => hl0 _⟩, CS.out.low⟩
    · intro x cc kl y yl w4 cnt1 hkey hlx hR hat hrg1 hlt hg1 hs1 hen
      obtain ⟨x', ex, rfl, hwx⟩ := Maps.keyOf_int_inv Tryz.underlying3 hkey
      cases ex
      have hx : In64i x := wf_in64 hwx
      have ey : y = .lit (.int .i64 (ptrN cc)) := (Prod.mk.inj (Option.some.inj (hR.symm.trans (ptrR_mk cc)))).1
      have hf : f0 x = cc := ptrN_inj (by
        have h1 := hat (.lit (.int .i64 (-1)))
        rw [(HD.out x hx).1, ey] at h1
        simpa using h1)
      have hh := CS.out.sub x hx hlx
      obtain ⟨n, hn, rfl⟩ := has_iff.1 hh
      obtain ⟨g0, hg0⟩ := HT.out.there hn
      obtain rfl : cc = some g0 := hf.symm.trans hg0
      have G1 : Only [r] w3 w4 := by have := Only.of_grown hg1; simpa using this
      have Bw4 : Below W.heap.size W w4 := CS.out.low.trans (G1.below (B := W.heap.size) (by simp; exact zr) CS.out.low.size)
      have HT4 := HT.out.behind Bw4
      have NW := Lib.hid (HT4.nod n hn g0 hg0).2
      have ST := Lib.hid (HT4.sty n hn).at_
      have KD := Lib.hid (ids_of_own (HT4.kid n hn) (by have := kids_few L n.id; omega))
      obtain ⟨f, sv, kv, m, CA⟩ := CS.out.at_
      have CA4 := Lib.hid (CA.only G1 (by simp; exact ranges_odd RG.out))
      have SUB := Lib.hid CS.out.sub
      have RG4 := Lib.hid hrg1
      have LE := Lib.hid (RG.out.left_eq)
      have B4 := Lib.hid Bw4
      have HN := Lib.hid hn
      have HLX := Lib.hid hlx
      have hsW := Bw4.size
      have c1 := CA4.out.hd.cell 1
      simp only [List.getElem?_cons_zero, List.getElem?_cons_succ] at c1
      generalize sv0 n.id = s0 at *
      generalize kv0 n.id = k0 at *
      clear hkey hR hat hrg1 hg1 hs1 ey hf hh hg0 G1 Bw4 HT4 CA CS RG hwx hn hlx HD
      rw [show ptrV (some g0) = Value.pointer (some ⟨g0, 0, none⟩) from rfl] at hen
      go_upto_region 5 with (rw [hen])
      clear hen
      have y3 : ∀ x : Later w4.heap.size w4, x.w.cell? ⟨c, 1, none⟩ = some (.map (some bc)) := fun x => (CA4.out.hd.under x.h CA4.out.hd.size).cell 1
      have y5 : ∀ x : Later w4.heap.size w4, x.w.cell? ⟨g0, 5, none⟩ = some k0 := fun x => (NW.out.under x.h NW.out.size).cell 5
      have YN := Lib.hid (fun w (hb : Behind w4 w) => node_range (NW.out.under hb NW.out.size))
      have YS := Lib.hid (fun w (hb : Behind w4 w) => ST.out.below hb)
      have YK := Lib.hid (fun w (hb : Behind w4 w) => KD.out.below hb)
      obtain ⟨Kl, hKl⟩ : ∃ Kl, kidsZ L n.id = Kl := ⟨_, rfl⟩
      rw [hKl] at YK
      have HKL := Lib.hid hKl
      clear hKl
      refine region_lane [] [0, 1, 2, 3, 4, 5, 6, 7, 8, 9, 10, 11, 12, 13, 14, 15, 16] [17] (by kernel_rfl) (by kernel_rfl) (fun _ _ _ _ _ h => h) ?_
      simp only [pick, List.map_nil]
      refine wpQuiet_nil ⟨rfl, ?_⟩
      simp only [List.map_cons, List.map_nil, List.getD_cons_zero, List.getD_cons_succ, List.drop_succ_cons, List.drop_zero]
      refine laneO_run 8 (by kernel_rfl) ?_
      simp only [List.take_succ_cons, List.take_zero, List.drop_succ_cons, List.drop_zero]
      repeat (go_big_quiet_step (fail))
      refine wpQuiet_nil ?_
      refine laneO_fixed (v := .agg (nodeC n s0).toArray) (by kernel_rfl) (fun w hw => .inl ⟨by rfl, mid_gives (.tmp 32) rfl g0 0 rfl (nodeC n s0) _ (YN.out w hw) Tryz.underlying32 rfl (by kernel_rfl)⟩) ?_
      simp only [Act.put, List.setIfInBounds_toArray, List.set_cons_zero, List.set_cons_succ]
      refine laneO_callT (lentT w4.heap.size n) (lentT_steady _ _) rfl rfl (by rfl) (by rfl) Tryz.func59 (by kernel_rfl) rfl (fun a' w hw hm => ?_) ?_
      · have e := hm 33 (by simp)
        have e : a'.tmps.getD 33 undef = .agg (nodeC n s0).toArray := e
        have e2 : (#[Operand.tmp 33] : Array Operand).map a'.eval = #[.agg (nodeC n s0).toArray] := by simp [Act.eval] at e ⊢; exact e
        rw [e2]
        refine (lent_any n _ w (YS.out w hw)).mono ?_
        rintro e w' ⟨sv', rfl, hs', hb'⟩
        obtain ⟨A, c, rfl, -⟩ := id hs'
        exact ⟨_, rfl, hb', A, c, rfl, hs'.mono hw.size⟩
      refine laneO_run 4 (by kernel_rfl) ?_
      simp only [List.take_succ_cons, List.take_zero, List.drop_succ_cons, List.drop_zero]
      repeat (go_big_quiet_step (fail))
      refine wpQuiet_nil ?_
      refine laneO_callT (idsT w4.heap.size Kl) (idsT_steady _ _) rfl rfl (by rfl) (by rfl) Tryz.func61 (by kernel_rfl) rfl (fun a' w hw hm => ?_) ?_
      · have e := hm 38 (by simp)
        have e : a'.tmps.getD 38 undef = k0 := e
        have e2 : (#[Operand.tmp 38] : Array Operand).map a'.eval = #[k0] := by simp [Act.eval] at e ⊢; exact e
        rw [e2]
        refine (cloneI_any k0 Kl w (YK.out w hw)).mono ?_
        rintro e w' ⟨v', rfl, ⟨A, c, rfl, ho, -⟩, hb'⟩
        exact ⟨_, rfl, hb', A, c, rfl, own_mono ho hw.size⟩
      refine laneO_gives (cpT w4.heap.size n Kl) (cpT_steady _ _ _) rfl (by rfl) (by rfl) (fun a' w hw hm => ?_) ?_
      · obtain ⟨A, c, e, hs'⟩ : lentT w4.heap.size n (a'.tmps.getD 34 undef) w := hm 34 (by simp [Oper.looksAt, Op.operands])
        obtain ⟨B, d, e', ho⟩ : idsT w4.heap.size Kl (a'.tmps.getD 39 undef) w := hm 39 (by simp [Oper.looksAt, Op.operands])
        have e2 : ((#[(0, Operand.tmp 34), (1, Operand.tmp 39)] : Array (Nat × Operand)).map fun (i, x) => (i, a'.eval x)).toList = [(0, .agg (nodeC n (.slice A n.sty.length c)).toArray), (1, .slice B Kl.length d)] := by simp [Act.eval] at e e' ⊢; exact ⟨e, e'⟩
        have e3 : Tryz.prog.built 88 [(0, .agg (nodeC n (.slice A n.sty.length c)).toArray), (1, .slice B Kl.length d)] = some (ndC n (.slice A n.sty.length c) (.slice B Kl.length d)).toArray := by kernel_rfl
        exact gives_mono (built_gives 88 #[(0, .tmp 34), (1, .tmp 39)] rfl (ndC n (.slice A n.sty.length c) (.slice B Kl.length d)).toArray (by rw [e2]; exact e3)) fun v w' hb' hv => ⟨A, c, B, d, hv, hs'.only (Only.of_below (S := []) hb') (by simp), own_keepN ho hb'⟩
      refine laneO_gives (cpAtT w4.heap.size n Kl) (cpAtT_steady _ _ _) rfl (by rfl) (by rfl) (fun a' w hw hm => ?_) ?_
      · obtain ⟨A, c, B, d, e, hs', ho⟩ : cpT w4.heap.size n Kl (a'.tmps.getD 40 undef) w := hm 40 (by simp [Oper.looksAt, Op.operands])
        have hb1 : Behind w (w.alloc (.cells (ndC n (.slice A n.sty.length c) (.slice B Kl.length d)).toArray 88)) := (Below.refl _ _).alloc (Nat.le_refl _) _
        have e3 : a'.eval (.tmp 40) = .agg (ndC n (.slice A n.sty.length c) (.slice B Kl.length d)).toArray := e
        unfold gives
        simp only [execOp, e3]
        simp [go_sem, ndC]
        exact ⟨hb1, w.heap.size, A, c, B, d, rfl, hw.size, Whole.mk w 88 (ndC n (.slice A n.sty.length c) (.slice B Kl.length d)).toArray, hs'.only (Only.of_below (S := []) hb1) (by simp), own_keepN ho hb1⟩
      refine laneO_end (by simp) (by rfl) rfl rfl fun w5 hb5 => ?_
      rintro x ⟨g, A, ca, B, db, rfl, hg, hNd, hSt, hKd⟩ y2 hy2 y3' hy3 y4 hy4
      clear hy2 hy3 hy4 y3 y5 YN YS YK
      simp only [fillAll, Act.put, List.setIfInBounds_toArray, List.set_cons_zero, List.set_cons_succ]
      have CA5 := CA4.out.behind hb5
      have hI : In64i n.id := hx
      have hfn : f n.id = none := by
        have := CA4.out.dom n.id
        rw [HLX.out] at this
        simpa using this
      have hm1 : m < maxLen := by have := CA4.out.cnt; unfold maxLen; omega
      obtain ⟨w6, hrun, M6, O6⟩ := CA5.mp.store (t := 84) Tryz.underlying3 Tryz.underlying84 hm1 hI g hfn
      have R5 := ranges_only RG4.out (Only.of_below (S := []) hb5) (by simp) (by simp)
      have hrb : r ≠ bc := fun e => by
        subst e
        obtain ⟨Dm, ⟨es, clock, hbk, -⟩, -⟩ := CA5.mp
        exact (ranges_odd R5).2 _ _ hbk
      have hbb : b0 ≠ bc := by have := HT.out.mp.lt; omega
      have RG6 := Lib.hid (ranges_only R5 O6 (by simpa using hbb) (by simpa using hrb))
      have CS6 : Hid (CopySt W w6 most L c bc (fun z => left z && !z.sameKey (.int .i64 n.id))) := Lib.hid (by
        refine ⟨?_, (B4.out.trans (hb5.mono hsW)).trans (O6.below (B := W.heap.size) (by simp; exact hbc) (by have := hb5.size; omega)), fun z hz h => SUB.out z hz ?_⟩
        · have e : (fun z => left (.int .i64 z) && !(Lit.int .i64 z).sameKey (.int .i64 n.id)) = fun z => left (.int .i64 z) && !(z == n.id) := by
            funext z; rw [sameKey_i64]
          rw [e]
          rw [← HKL.out] at hKd
          exact ⟨_, _, _, _, CA4.out.step HN.out HLX.out hb5 hg (by rw [← HKL.out] at hNd; exact hNd) hSt hKd M6 O6 hsW⟩
        · simp at h; exact h.1)
      clear hNd hSt hKd CA5 hb5 M6 O6 R5 CA4 RG4
      go_wp2_with (rw [hrun])
      go_roundw
      case rel => exact ⟨_, cnt1, RG6, CS6⟩
      case measure => rw [RG6.out.left_eq, LE.out]; exact hlt
end Go.Proofs.YtbhdpfacfgldiaaGreatDoor
