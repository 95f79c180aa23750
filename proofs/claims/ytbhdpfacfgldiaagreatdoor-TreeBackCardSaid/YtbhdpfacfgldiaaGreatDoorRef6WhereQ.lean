import Derived.Test.YtbhdpfacfgldiaaGreatDoorZSQ
/- quoinref6: the error of a place. -/
namespace Go.Proofs.YtbhdpfacfgldiaaGreatDoor
open Go Go.RowKit
set_option linter.unusedVariables false
set_option linter.unusedSimpArgs false
set_option maxRecDepth 20000
set_option maxHeartbeats 4000000

structure Op6 where
  k : Int
  id : Int
  at_ : Int
  bf : Int
  tx : ByteArray
abbrev opV (o : Op6) : Value := .agg #[.int .i64 o.k, .int .i64 o.id, .int .i64 o.at_, .int .i64 o.bf, .string o.tx]
def opC (o : Op6) : List Value := [.int .i64 o.k, .int .i64 o.id, .int .i64 o.at_, .int .i64 o.bf, .string o.tx]
def placeB (L : List Nd) (o : Op6) : Bool := o.bf != -1 && (!hasZ L o.bf || parZ L o.bf != o.at_ || o.bf == o.id)
def whereZ (L : List Nd) (o : Op6) (deep : Int) : Int :=
  if hasZ L o.at_ = false then 9 else if txZ L o.at_ = true then 8 else if o.k = 5 ∧ belowZ L o.at_ o.id = true then 12 else if placeB L o = true then 14 else if 20 < deepZ L o.at_ + deep then 13 else 0
theorem deep_bd {L : List Nd} (h : TreeOk L) : ∀ (k : Nat) (id : Int), rkZ L id < k → hasZ L id = true → 0 ≤ deepZ L id ∧ deepZ L id ≤ rkZ L id
  | 0, _, hk, _ => absurd hk (by omega)
  | k + 1, id, hk, hi => by
    rw [h.deep_has hi]
    rcases (h.step hi).2 with ⟨e1, e2⟩ | ⟨e1, e2⟩
    · rw [e2, deep_no (h.not_nobody (by omega))]; omega
    · have := deep_bd h k _ (by omega) e1
      omega
theorem rwhere_any (m : Int) (v : Value) (L : List Nd) (op : Op6) (deep : Int) (W : World) (hOK : TreeOk L) (hL : L.length ≤ 1000) (hd : 0 ≤ deep ∧ deep ≤ 1000) (h : NodesSee W v L) :
    Calls Tryz.prog 51 #[r6V m v, opV op, .int .i64 deep] W fun e w' => e = .returned (.int .i64 (whereZ L op deep)) ∧ Below W.heap.size W w' := by
  obtain ⟨k, id, at_, bf, tx⟩ := op
  have OK := Lib.hid hOK
  have WZ := Lib.hid (show whereZ L ⟨k, id, at_, bf, tx⟩ deep = if hasZ L at_ = false then 9 else if txZ L at_ = true then 8 else if k = 5 ∧ belowZ L at_ id = true then 12 else if (bf != -1 && (!hasZ L bf || parZ L bf != at_ || bf == id)) = true then 14 else if 20 < deepZ L at_ + deep then 13 else 0 from rfl)
  generalize whereZ L ⟨k, id, at_, bf, tx⟩ deep = out at *
  have hal := (((Below.refl W.heap.size W).alloc (Nat.le_refl _) (.cells #[.int .i64 m, v] 40)).alloc (by simp) (.cells #[.int .i64 k, .int .i64 id, .int .i64 at_, .int .i64 bf, .string tx] 54))
  have B0 := Lib.hid hal
  have S0 := Lib.hid (nodes_see_behind h hal)
  have XT0 := Lib.hid ((Whole.mk W 40 #[.int .i64 m, v]).made (.cells #[.int .i64 k, .int .i64 id, .int .i64 at_, .int .i64 bf, .string tx] 54))
  have XO0 : Hid (Whole ((W.alloc (.cells #[.int .i64 m, v] 40)).alloc (.cells #[.int .i64 k, .int .i64 id, .int .i64 at_, .int .i64 bf, .string tx] 54)) (W.heap.size + 1) 54 [.int .i64 k, .int .i64 id, .int .i64 at_, .int .i64 bf, .string tx]) := Lib.hid (by
    have h := Whole.mk (W.alloc (.cells #[.int .i64 m, v] 40)) 54 #[.int .i64 k, .int .i64 id, .int .i64 at_, .int .i64 bf, .string tx]
    simpa using h)
  clear hal
  obtain ⟨A, c, svs, rfl, hs, hl, hR, -⟩ := h
  have FI := Lib.hid (fun w (hs : NodesSee w (.slice A L.length c) L) (x : Int) => rfind_any m _ L x w hs)
  have PA := Lib.hid (fun w (hs : NodesSee w (.slice A L.length c) L) (x : Int) => rparent_any m _ L x w hs)
  have BE := Lib.hid (fun w (hs : NodesSee w (.slice A L.length c) L) (x y : Int) => rbelow_any m _ L x y w hOK hs)
  have DE := Lib.hid (fun w (hs : NodesSee w (.slice A L.length c) L) (x : Int) => rdeep_any m _ L x w hOK hL hs)
  have HR := Lib.hid hR
  have HS := Lib.hid hs
  clear hR hs hOK
  go_enter Tryz.func51, Tryz.ntmps51
  go_upto_region 1 with fail
  generalize (W.alloc _).alloc _ = w0 at *
  have t0 : w0.cell? ⟨W.heap.size, 0, none⟩ = some (.int .i64 m) := XT0.out.cell 0
  have t1 : w0.cell? ⟨W.heap.size, 1, none⟩ = some (.slice A L.length c) := XT0.out.cell 1
  have o0 : w0.cell? ⟨W.heap.size + 1, 0, none⟩ = some (.int .i64 k) := XO0.out.cell 0
  have o1 : w0.cell? ⟨W.heap.size + 1, 1, none⟩ = some (.int .i64 id) := XO0.out.cell 1
  have o2 : w0.cell? ⟨W.heap.size + 1, 2, none⟩ = some (.int .i64 at_) := XO0.out.cell 2
  have o3 : w0.cell? ⟨W.heap.size + 1, 3, none⟩ = some (.int .i64 bf) := XO0.out.cell 3
  go_wp2_with fail
  refine (FI.out _ S0.out at_).mono ?_
  rintro e w1 ⟨rfl, hb⟩
  have B1 := Lib.hid (B0.out.trans (Below.mono hb B0.out.size))
  have S1 := Lib.hid (nodes_see_behind S0.out hb)
  have XT1 := Lib.hid (XT0.out.under hb XT0.out.size)
  have XO1 := Lib.hid (XO0.out.under hb XO0.out.size)
  clear hb B0 S0 XT0 XO0 t0 t1 o0 o1 o2 o3
  have t0 : w1.cell? ⟨W.heap.size, 0, none⟩ = some (.int .i64 m) := XT1.out.cell 0
  have t1 : w1.cell? ⟨W.heap.size, 1, none⟩ = some (.slice A L.length c) := XT1.out.cell 1
  have o0 : w1.cell? ⟨W.heap.size + 1, 0, none⟩ = some (.int .i64 k) := XO1.out.cell 0
  have o1 : w1.cell? ⟨W.heap.size + 1, 1, none⟩ = some (.int .i64 id) := XO1.out.cell 1
  have o2 : w1.cell? ⟨W.heap.size + 1, 2, none⟩ = some (.int .i64 at_) := XO1.out.cell 2
  have o3 : w1.cell? ⟨W.heap.size + 1, 3, none⟩ = some (.int .i64 bf) := XO1.out.cell 3
  cases ha : hasZ L at_
  · have E := Lib.hid (show out = 9 by rw [WZ.out, ha, if_pos rfl])
    rw [find_no ha]
    go_wp2_with fail
    go_ret
    exact ⟨ret_int (by first | exact E.out.symm | (rw [E.out])), B1.out⟩
  have hrk := (OK.out.step ha).1
  have hrd := deep_bd OK.out _ at_ (Nat.lt_succ_self _) ha
  have ef : findZ L at_ = (rkZ L at_ : Int) := by unfold findZ; rw [ha, if_pos rfl]
  rw [ef]
  obtain ⟨ad, hA, -, -, -, n2, -⟩ := (HR.out.below B1.out).ndr HS.out hrk (by rw [HS.out]; exact hrk)
  have etx : L[rkZ L at_].tx = txZ L at_ := by
    have h1 := OK.out.at_mem (List.getElem_mem hrk)
    rw [rk_get hrk] at h1
    unfold txZ; rw [h1]
  rw [etx] at n2
  rw [ha, if_neg (by decide)] at WZ
  clear etx ef
  subst hA
  have hki : (rkZ L at_ : Int) < L.length := by omega
  obtain ⟨r, hr⟩ : ∃ r, rkZ L at_ = r := ⟨_, rfl⟩
  rw [hr] at n2 hki hrd ⊢
  clear hr hrk
  cases ht : txZ L at_
  rotate_left
  · have E := Lib.hid (show out = 8 by rw [WZ.out, ht, if_pos rfl])
    rw [ht] at n2
    go_wp2_with fail
    go_ret
    exact ⟨ret_int (by first | exact E.out.symm | (rw [E.out])), B1.out⟩
  rw [ht] at n2 WZ
  rw [if_neg (by decide)] at WZ
  go_upto_region 6 with fail
  go_cut [22] from 23 to 34 (fun v wx => v = .bool ((k == 5) && belowZ L at_ id) ∧ Below w1.heap.size w1 wx)
  case first =>
    cases b5 : (k == 5)
    · go_wp2_with fail
      go_meet
      exact ⟨by rw [b5]; rfl, Below.refl _ _⟩
    · go_wp2_with fail
      refine (BE.out _ S1.out at_ id).mono ?_
      rintro e w2 ⟨rfl, hb⟩
      have HB := Lib.hid hb
      clear hb
      go_wp2_with fail
      go_meet
      exact ⟨by rw [b5]; rfl, HB.out⟩
  case rest =>
    obtain ⟨rfl, hb⟩ := hcut
    rename World => w2
    have B2 := Lib.hid (B1.out.trans (Below.mono hb B1.out.size))
    have S2 := Lib.hid (nodes_see_behind S1.out hb)
    have XT2 := Lib.hid (XT1.out.under hb XT1.out.size)
    have XO2 := Lib.hid (XO1.out.under hb XO1.out.size)
    clear hb B1 S1 XT1 XO1 t0 t1 o0 o1 o2 o3
    cases h5 : ((k == 5) && belowZ L at_ id)
    rotate_left
    · have E := Lib.hid (show out = 12 by
        rw [Bool.and_eq_true, beq_iff_eq] at h5
        rw [WZ.out, if_pos h5])
      go_wp2_with fail
      go_ret
      exact ⟨ret_int (by first | exact E.out.symm | (rw [E.out])), B2.out⟩
    have WZ2 := Lib.hid (show out = if (bf != -1 && (!hasZ L bf || parZ L bf != at_ || bf == id)) = true then 14 else if 20 < deepZ L at_ + deep then 13 else 0 by
      rw [WZ.out, if_neg (fun h => by
        have : ((k == 5) && belowZ L at_ id) = true := by rw [Bool.and_eq_true, beq_iff_eq]; exact h
        rw [this] at h5; cases h5)])
    clear WZ h5 n2
    go_upto_region 8 with fail
    go_cut [34] from 35 to 61 (fun v wx => v = .bool (bf != -1 && (!hasZ L bf || parZ L bf != at_ || bf == id)) ∧ Below w2.heap.size w2 wx)
    case first =>
      have ZT := Lib.hid (fun w (hw : Behind w2 w) => XT2.out.under hw XT2.out.size)
      have ZS := Lib.hid (fun w (hw : Behind w2 w) => nodes_see_behind S2.out hw)
      have y1 : ∀ t : Later w2.heap.size w2, t.w.cell? ⟨W.heap.size + 1, 1, none⟩ = some (.int .i64 id) := fun t => (XO2.out.under t.h XO2.out.size).cell 1
      have y2 : ∀ t : Later w2.heap.size w2, t.w.cell? ⟨W.heap.size + 1, 2, none⟩ = some (.int .i64 at_) := fun t => (XO2.out.under t.h XO2.out.size).cell 2
      have y3 : ∀ t : Later w2.heap.size w2, t.w.cell? ⟨W.heap.size + 1, 3, none⟩ = some (.int .i64 bf) := fun t => (XO2.out.under t.h XO2.out.size).cell 3
      cases b1 : (bf != -1)
      · skip
        refine region_lane [] (List.range 26) [26] (by kernel_rfl) (by kernel_rfl) (fun _ _ _ _ _ h => h) ?_
        simp only [pick, List.map_nil]
        refine wpQuiet_nil ⟨rfl, ?_⟩
        rw [show List.range 26 = [0, 1, 2, 3, 4, 5, 6, 7, 8, 9, 10, 11, 12, 13, 14, 15, 16, 17, 18, 19, 20, 21, 22, 23, 24, 25] from rfl]
        simp only [List.map_cons, List.map_nil, List.getD_cons_zero, List.getD_cons_succ, List.drop_succ_cons, List.drop_zero]
        refine laneO_run 4 (by kernel_rfl) ?_
        simp only [List.take_succ_cons, List.take_zero, List.drop_succ_cons, List.drop_zero]
        repeat (go_big_quiet_step (fail))
        refine wpQuiet_nil ?_
        refine laneO_skip (by kernel_rfl) (by rfl) ?_
        simp only [Act.put, List.setIfInBounds_toArray, List.set_cons_zero, List.set_cons_succ]
        refine laneO_skip (by kernel_rfl) (by rfl) ?_
        simp only [Act.put, List.setIfInBounds_toArray, List.set_cons_zero, List.set_cons_succ]
        refine laneO_skip (by kernel_rfl) (by rfl) ?_
        simp only [Act.put, List.setIfInBounds_toArray, List.set_cons_zero, List.set_cons_succ]
        refine laneO_skip (by kernel_rfl) (by rfl) ?_
        simp only [Act.put, List.setIfInBounds_toArray, List.set_cons_zero, List.set_cons_succ]
        refine laneO_skip (by kernel_rfl) (by rfl) ?_
        simp only [Act.put, List.setIfInBounds_toArray, List.set_cons_zero, List.set_cons_succ]
        refine laneO_skip (by kernel_rfl) (by rfl) ?_
        simp only [Act.put, List.setIfInBounds_toArray, List.set_cons_zero, List.set_cons_succ]
        refine laneO_skip (by kernel_rfl) (by rfl) ?_
        simp only [Act.put, List.setIfInBounds_toArray, List.set_cons_zero, List.set_cons_succ]
        refine laneO_skip (by kernel_rfl) (by rfl) ?_
        simp only [Act.put, List.setIfInBounds_toArray, List.set_cons_zero, List.set_cons_succ]
        refine laneO_skip (by kernel_rfl) (by rfl) ?_
        simp only [Act.put, List.setIfInBounds_toArray, List.set_cons_zero, List.set_cons_succ]
        refine laneO_skip (by kernel_rfl) (by rfl) ?_
        simp only [Act.put, List.setIfInBounds_toArray, List.set_cons_zero, List.set_cons_succ]
        refine laneO_skip (by kernel_rfl) (by rfl) ?_
        simp only [Act.put, List.setIfInBounds_toArray, List.set_cons_zero, List.set_cons_succ]
        refine laneO_skip (by kernel_rfl) (by rfl) ?_
        simp only [Act.put, List.setIfInBounds_toArray, List.set_cons_zero, List.set_cons_succ]
        refine laneO_skip (by kernel_rfl) (by rfl) ?_
        simp only [Act.put, List.setIfInBounds_toArray, List.set_cons_zero, List.set_cons_succ]
        refine laneO_skip (by kernel_rfl) (by rfl) ?_
        simp only [Act.put, List.setIfInBounds_toArray, List.set_cons_zero, List.set_cons_succ]
        refine laneO_skip (by kernel_rfl) (by rfl) ?_
        simp only [Act.put, List.setIfInBounds_toArray, List.set_cons_zero, List.set_cons_succ]
        refine laneO_skip (by kernel_rfl) (by rfl) ?_
        simp only [Act.put, List.setIfInBounds_toArray, List.set_cons_zero, List.set_cons_succ]
        refine laneO_skip (by kernel_rfl) (by rfl) ?_
        simp only [Act.put, List.setIfInBounds_toArray, List.set_cons_zero, List.set_cons_succ]
        refine laneO_skip (by kernel_rfl) (by rfl) ?_
        simp only [Act.put, List.setIfInBounds_toArray, List.set_cons_zero, List.set_cons_succ]
        refine laneO_skip (by kernel_rfl) (by rfl) ?_
        simp only [Act.put, List.setIfInBounds_toArray, List.set_cons_zero, List.set_cons_succ]
        refine laneO_skip (by kernel_rfl) (by rfl) ?_
        simp only [Act.put, List.setIfInBounds_toArray, List.set_cons_zero, List.set_cons_succ]
        refine laneO_skip (by kernel_rfl) (by rfl) ?_
        simp only [Act.put, List.setIfInBounds_toArray, List.set_cons_zero, List.set_cons_succ]
        refine laneO_run 1 (by kernel_rfl) ?_
        simp only [List.take_succ_cons, List.take_zero, List.drop_succ_cons, List.drop_zero]
        repeat (go_big_quiet_step (fail))
        refine wpQuiet_nil ?_
        refine laneO_end0 rfl rfl fun w3 hb0 => ?_
        go_wp2_with fail
        go_meet
        exact ⟨by rw [b1]; rfl, hb0⟩
      · cases hf : hasZ L bf
        · have FB := Lib.hid (fun w (hw : Behind w2 w) => by
            have := FI.out w (ZS.out w hw) bf
            rw [find_no hf] at this; exact this)
          refine region_lane [] (List.range 26) [26] (by kernel_rfl) (by kernel_rfl) (fun _ _ _ _ _ h => h) ?_
          simp only [pick, List.map_nil]
          refine wpQuiet_nil ⟨rfl, ?_⟩
          rw [show List.range 26 = [0, 1, 2, 3, 4, 5, 6, 7, 8, 9, 10, 11, 12, 13, 14, 15, 16, 17, 18, 19, 20, 21, 22, 23, 24, 25] from rfl]
          simp only [List.map_cons, List.map_nil, List.getD_cons_zero, List.getD_cons_succ, List.drop_succ_cons, List.drop_zero]
          refine laneO_run 4 (by kernel_rfl) ?_
          simp only [List.take_succ_cons, List.take_zero, List.drop_succ_cons, List.drop_zero]
          repeat (go_big_quiet_step (fail))
          refine wpQuiet_nil ?_
          refine laneO_fixed (v := .agg #[.int .i64 m, .slice (some ad) L.length c]) (by kernel_rfl) (fun w hw => .inl ⟨by rfl, cells_gives rtree_flat (.tmp 3) rfl W.heap.size rfl [.int .i64 m, .slice (some ad) L.length c] rfl 40 (ZT.out w hw)⟩) ?_
          simp only [Act.put, List.setIfInBounds_toArray, List.set_cons_zero, List.set_cons_succ]
          refine laneO_run 2 (by kernel_rfl) ?_
          simp only [List.take_succ_cons, List.take_zero, List.drop_succ_cons, List.drop_zero]
          repeat (go_big_quiet_step (fail))
          refine wpQuiet_nil ?_
          refine laneO_call (v := .int .i64 (-1)) (by kernel_rfl) (by rfl) (fun C hC h0 => ?_) ?_
          focus (go_big_quiet_op; exact ⟨_, fun w hw => (FB.out w (h0 _ hw)).mono fun e w' ⟨he, hb⟩ => ⟨he, hC _ _ hw hb⟩, rfl⟩)
          simp only [Act.put, List.setIfInBounds_toArray, List.set_cons_zero, List.set_cons_succ]
          refine laneO_run 2 (by kernel_rfl) ?_
          simp only [List.take_succ_cons, List.take_zero, List.drop_succ_cons, List.drop_zero]
          repeat (go_big_quiet_step (fail))
          refine wpQuiet_nil ?_
          refine laneO_skip (by kernel_rfl) (by rfl) ?_
          simp only [Act.put, List.setIfInBounds_toArray, List.set_cons_zero, List.set_cons_succ]
          refine laneO_skip (by kernel_rfl) (by rfl) ?_
          simp only [Act.put, List.setIfInBounds_toArray, List.set_cons_zero, List.set_cons_succ]
          refine laneO_skip (by kernel_rfl) (by rfl) ?_
          simp only [Act.put, List.setIfInBounds_toArray, List.set_cons_zero, List.set_cons_succ]
          refine laneO_skip (by kernel_rfl) (by rfl) ?_
          simp only [Act.put, List.setIfInBounds_toArray, List.set_cons_zero, List.set_cons_succ]
          refine laneO_skip (by kernel_rfl) (by rfl) ?_
          simp only [Act.put, List.setIfInBounds_toArray, List.set_cons_zero, List.set_cons_succ]
          refine laneO_skip (by kernel_rfl) (by rfl) ?_
          simp only [Act.put, List.setIfInBounds_toArray, List.set_cons_zero, List.set_cons_succ]
          refine laneO_skip (by kernel_rfl) (by rfl) ?_
          simp only [Act.put, List.setIfInBounds_toArray, List.set_cons_zero, List.set_cons_succ]
          refine laneO_run 2 (by kernel_rfl) ?_
          simp only [List.take_succ_cons, List.take_zero, List.drop_succ_cons, List.drop_zero]
          repeat (go_big_quiet_step (fail))
          refine wpQuiet_nil ?_
          refine laneO_skip (by kernel_rfl) (by rfl) ?_
          simp only [Act.put, List.setIfInBounds_toArray, List.set_cons_zero, List.set_cons_succ]
          refine laneO_skip (by kernel_rfl) (by rfl) ?_
          simp only [Act.put, List.setIfInBounds_toArray, List.set_cons_zero, List.set_cons_succ]
          refine laneO_skip (by kernel_rfl) (by rfl) ?_
          simp only [Act.put, List.setIfInBounds_toArray, List.set_cons_zero, List.set_cons_succ]
          refine laneO_skip (by kernel_rfl) (by rfl) ?_
          simp only [Act.put, List.setIfInBounds_toArray, List.set_cons_zero, List.set_cons_succ]
          refine laneO_skip (by kernel_rfl) (by rfl) ?_
          simp only [Act.put, List.setIfInBounds_toArray, List.set_cons_zero, List.set_cons_succ]
          refine laneO_run 2 (by kernel_rfl) ?_
          simp only [List.take_succ_cons, List.take_zero, List.drop_succ_cons, List.drop_zero]
          repeat (go_big_quiet_step (fail))
          refine wpQuiet_nil ?_
          refine laneO_end0 rfl rfl fun w3 hb0 => ?_
          go_wp2_with fail
          go_meet
          exact ⟨by rw [b1, hf]; rfl, hb0⟩
        · obtain ⟨q, hq⟩ := find_yes hf
          have FB := Lib.hid (fun w (hw : Behind w2 w) => by
            have := FI.out w (ZS.out w hw) bf
            rw [hq] at this; exact this)
          have dq : decide ((q : Int) < 0) = false := by rw [decide_eq_false_iff_not]; omega
          have PB := Lib.hid (fun w (hw : Behind w2 w) => PA.out w (ZS.out w hw) bf)
          generalize parZ L bf = pb at *
          cases b2 : (pb != at_)
          · skip
            refine region_lane [] (List.range 26) [26] (by kernel_rfl) (by kernel_rfl) (fun _ _ _ _ _ h => h) ?_
            simp only [pick, List.map_nil]
            refine wpQuiet_nil ⟨rfl, ?_⟩
            rw [show List.range 26 = [0, 1, 2, 3, 4, 5, 6, 7, 8, 9, 10, 11, 12, 13, 14, 15, 16, 17, 18, 19, 20, 21, 22, 23, 24, 25] from rfl]
            simp only [List.map_cons, List.map_nil, List.getD_cons_zero, List.getD_cons_succ, List.drop_succ_cons, List.drop_zero]
            refine laneO_run 4 (by kernel_rfl) ?_
            simp only [List.take_succ_cons, List.take_zero, List.drop_succ_cons, List.drop_zero]
            repeat (go_big_quiet_step (fail))
            refine wpQuiet_nil ?_
            refine laneO_fixed (v := .agg #[.int .i64 m, .slice (some ad) L.length c]) (by kernel_rfl) (fun w hw => .inl ⟨by rfl, cells_gives rtree_flat (.tmp 3) rfl W.heap.size rfl [.int .i64 m, .slice (some ad) L.length c] rfl 40 (ZT.out w hw)⟩) ?_
            simp only [Act.put, List.setIfInBounds_toArray, List.set_cons_zero, List.set_cons_succ]
            refine laneO_run 2 (by kernel_rfl) ?_
            simp only [List.take_succ_cons, List.take_zero, List.drop_succ_cons, List.drop_zero]
            repeat (go_big_quiet_step (fail))
            refine wpQuiet_nil ?_
            refine laneO_call (v := .int .i64 q) (by kernel_rfl) (by rfl) (fun C hC h0 => ?_) ?_
            focus (go_big_quiet_op; exact ⟨_, fun w hw => (FB.out w (h0 _ hw)).mono fun e w' ⟨he, hb⟩ => ⟨he, hC _ _ hw hb⟩, rfl⟩)
            simp only [Act.put, List.setIfInBounds_toArray, List.set_cons_zero, List.set_cons_succ]
            refine laneO_run 2 (by kernel_rfl) ?_
            simp only [List.take_succ_cons, List.take_zero, List.drop_succ_cons, List.drop_zero]
            repeat (go_big_quiet_step (fail))
            refine wpQuiet_nil ?_
            refine laneO_fixed (v := .agg #[.int .i64 m, .slice (some ad) L.length c]) (by kernel_rfl) (fun w hw => .inl ⟨by rfl, cells_gives rtree_flat (.tmp 3) rfl W.heap.size rfl [.int .i64 m, .slice (some ad) L.length c] rfl 40 (ZT.out w hw)⟩) ?_
            simp only [Act.put, List.setIfInBounds_toArray, List.set_cons_zero, List.set_cons_succ]
            refine laneO_run 2 (by kernel_rfl) ?_
            simp only [List.take_succ_cons, List.take_zero, List.drop_succ_cons, List.drop_zero]
            repeat (go_big_quiet_step (fail))
            refine wpQuiet_nil ?_
            refine laneO_call (v := .int .i64 pb) (by kernel_rfl) (by rfl) (fun C hC h0 => ?_) ?_
            focus (go_big_quiet_op; exact ⟨_, fun w hw => (PB.out w (h0 _ hw)).mono fun e w' ⟨he, hb⟩ => ⟨he, hC _ _ hw hb⟩, rfl⟩)
            simp only [Act.put, List.setIfInBounds_toArray, List.set_cons_zero, List.set_cons_succ]
            refine laneO_run 12 (by kernel_rfl) ?_
            simp only [List.take_succ_cons, List.take_zero, List.drop_succ_cons, List.drop_zero]
            repeat (go_big_quiet_step (fail))
            refine wpQuiet_nil ?_
            refine laneO_end0 rfl rfl fun w3 hb0 => ?_
            go_wp2_with fail
            go_meet
            exact ⟨by rw [b1, hf, b2]; cases (bf == id) <;> rfl, hb0⟩
          · skip
            refine region_lane [] (List.range 26) [26] (by kernel_rfl) (by kernel_rfl) (fun _ _ _ _ _ h => h) ?_
            simp only [pick, List.map_nil]
            refine wpQuiet_nil ⟨rfl, ?_⟩
            rw [show List.range 26 = [0, 1, 2, 3, 4, 5, 6, 7, 8, 9, 10, 11, 12, 13, 14, 15, 16, 17, 18, 19, 20, 21, 22, 23, 24, 25] from rfl]
            simp only [List.map_cons, List.map_nil, List.getD_cons_zero, List.getD_cons_succ, List.drop_succ_cons, List.drop_zero]
            refine laneO_run 4 (by kernel_rfl) ?_
            simp only [List.take_succ_cons, List.take_zero, List.drop_succ_cons, List.drop_zero]
            repeat (go_big_quiet_step (fail))
            refine wpQuiet_nil ?_
            refine laneO_fixed (v := .agg #[.int .i64 m, .slice (some ad) L.length c]) (by kernel_rfl) (fun w hw => .inl ⟨by rfl, cells_gives rtree_flat (.tmp 3) rfl W.heap.size rfl [.int .i64 m, .slice (some ad) L.length c] rfl 40 (ZT.out w hw)⟩) ?_
            simp only [Act.put, List.setIfInBounds_toArray, List.set_cons_zero, List.set_cons_succ]
            refine laneO_run 2 (by kernel_rfl) ?_
            simp only [List.take_succ_cons, List.take_zero, List.drop_succ_cons, List.drop_zero]
            repeat (go_big_quiet_step (fail))
            refine wpQuiet_nil ?_
            refine laneO_call (v := .int .i64 q) (by kernel_rfl) (by rfl) (fun C hC h0 => ?_) ?_
            focus (go_big_quiet_op; exact ⟨_, fun w hw => (FB.out w (h0 _ hw)).mono fun e w' ⟨he, hb⟩ => ⟨he, hC _ _ hw hb⟩, rfl⟩)
            simp only [Act.put, List.setIfInBounds_toArray, List.set_cons_zero, List.set_cons_succ]
            refine laneO_run 2 (by kernel_rfl) ?_
            simp only [List.take_succ_cons, List.take_zero, List.drop_succ_cons, List.drop_zero]
            repeat (go_big_quiet_step (fail))
            refine wpQuiet_nil ?_
            refine laneO_fixed (v := .agg #[.int .i64 m, .slice (some ad) L.length c]) (by kernel_rfl) (fun w hw => .inl ⟨by rfl, cells_gives rtree_flat (.tmp 3) rfl W.heap.size rfl [.int .i64 m, .slice (some ad) L.length c] rfl 40 (ZT.out w hw)⟩) ?_
            simp only [Act.put, List.setIfInBounds_toArray, List.set_cons_zero, List.set_cons_succ]
            refine laneO_run 2 (by kernel_rfl) ?_
            simp only [List.take_succ_cons, List.take_zero, List.drop_succ_cons, List.drop_zero]
            repeat (go_big_quiet_step (fail))
            refine wpQuiet_nil ?_
            refine laneO_call (v := .int .i64 pb) (by kernel_rfl) (by rfl) (fun C hC h0 => ?_) ?_
            focus (go_big_quiet_op; exact ⟨_, fun w hw => (PB.out w (h0 _ hw)).mono fun e w' ⟨he, hb⟩ => ⟨he, hC _ _ hw hb⟩, rfl⟩)
            simp only [Act.put, List.setIfInBounds_toArray, List.set_cons_zero, List.set_cons_succ]
            refine laneO_run 5 (by kernel_rfl) ?_
            simp only [List.take_succ_cons, List.take_zero, List.drop_succ_cons, List.drop_zero]
            repeat (go_big_quiet_step (fail))
            refine wpQuiet_nil ?_
            refine laneO_skip (by kernel_rfl) (by rfl) ?_
            simp only [Act.put, List.setIfInBounds_toArray, List.set_cons_zero, List.set_cons_succ]
            refine laneO_skip (by kernel_rfl) (by rfl) ?_
            simp only [Act.put, List.setIfInBounds_toArray, List.set_cons_zero, List.set_cons_succ]
            refine laneO_skip (by kernel_rfl) (by rfl) ?_
            simp only [Act.put, List.setIfInBounds_toArray, List.set_cons_zero, List.set_cons_succ]
            refine laneO_skip (by kernel_rfl) (by rfl) ?_
            simp only [Act.put, List.setIfInBounds_toArray, List.set_cons_zero, List.set_cons_succ]
            refine laneO_skip (by kernel_rfl) (by rfl) ?_
            simp only [Act.put, List.setIfInBounds_toArray, List.set_cons_zero, List.set_cons_succ]
            refine laneO_run 2 (by kernel_rfl) ?_
            simp only [List.take_succ_cons, List.take_zero, List.drop_succ_cons, List.drop_zero]
            repeat (go_big_quiet_step (fail))
            refine wpQuiet_nil ?_
            refine laneO_end0 rfl rfl fun w3 hb0 => ?_
            go_wp2_with fail
            go_meet
            exact ⟨by rw [b1, hf, b2]; rfl, hb0⟩
    case rest =>
      obtain ⟨rfl, hb⟩ := hcut
      rename World => w3
      have B3 := Lib.hid (B2.out.trans (Below.mono hb B2.out.size))
      have S3 := Lib.hid (nodes_see_behind S2.out hb)
      have XT3 := Lib.hid (XT2.out.under hb XT2.out.size)
      have XO3 := Lib.hid (XO2.out.under hb XO2.out.size)
      clear hb B2 S2 XT2 XO2 
      cases h6 : (bf != -1 && (!hasZ L bf || parZ L bf != at_ || bf == id))
      rotate_left
      · have E := Lib.hid (show out = 14 by rw [WZ2.out, h6, if_pos rfl])
        go_wp2_with fail
        go_ret
        exact ⟨ret_int (by first | exact E.out.symm | (rw [E.out])), B3.out⟩
      rw [h6, if_neg (by decide)] at WZ2
      clear h6
      have t0 : w3.cell? ⟨W.heap.size, 0, none⟩ = some (.int .i64 m) := XT3.out.cell 0
      have t1 : w3.cell? ⟨W.heap.size, 1, none⟩ = some (.slice (some ad) L.length c) := XT3.out.cell 1
      have o2 : w3.cell? ⟨W.heap.size + 1, 2, none⟩ = some (.int .i64 at_) := XO3.out.cell 2
      obtain ⟨d, hdd⟩ : ∃ d, deepZ L at_ = d := ⟨_, rfl⟩
      rw [hdd] at WZ2 hrd
      obtain ⟨hr1, hr2⟩ := hrd
      obtain ⟨hd1, hd2⟩ := hd
      go_upto_region 10 with fail
      go_wp2_with fail
      refine (DE.out _ S3.out at_).mono ?_
      rintro e w4 ⟨rfl, hb⟩
      have B4 := Lib.hid (B3.out.trans (hb.mono B3.out.size))
      rw [hdd]
      clear hb t0 t1 o2 hdd
      by_cases h7 : 20 < d + deep
      · have E := Lib.hid (show out = 13 by rw [WZ2.out, if_pos h7])
        clear WZ2
        go_wp2_with fail
        go_ret
        exact ⟨ret_int (by first | exact E.out.symm | (rw [E.out])), B4.out⟩
      · have E := Lib.hid (show out = 0 by rw [WZ2.out, if_neg h7])
        clear WZ2
        go_wp2_with fail
        go_ret
        exact ⟨ret_int (by first | exact E.out.symm | (rw [E.out])), B4.out⟩
end Go.Proofs.YtbhdpfacfgldiaaGreatDoor
