import Derived.Test.YthneapnijfmpmaaCrosC
import Derived.Test.YthneapnijfmpmaaRefCl
import Derived.Test.YthneapnijfmpmaaRows3
import Derived.Test.YthneapnijfmpmaaMixL
import Derived.Test.YthneapnijfmpmaaOnly
import Derived.OwnWalk
import Derived.BigRegion
/- cros.Lines: where each line begins. -/
namespace Go.Proofs.Ythneapnijfmpmaa
open Go Go.RowKit
set_option linter.unusedVariables false
set_option linter.unusedSimpArgs false
set_option maxRecDepth 20000
set_option maxHeartbeats 4000000

/-- Where the next line begins, and the answers. -/
structure CrS (W w : World) (n gb ga : Nat) (a : Int) (ps : List Value) : Prop where
  v : SumV w ga a
  beg : RowG w W.heap.size 2 gb n ps
  low : Below W.heap.size W w
  n1 : gb < ga
section
variable {W w w' : World} {n gb ga : Nat} {a : Int} {ps : List Value}
theorem CrS.size (h : CrS W w n gb ga a ps) : ga < w.heap.size := h.v.size
theorem CrS.under (h : CrS W w n gb ga a ps) (hb : Below w.heap.size w w') : CrS W w' n gb ga a ps :=
  ⟨h.v.under hb h.v.size, own_below h.beg hb (Nat.le_refl _), h.low.trans (hb.mono h.low.size), h.n1⟩
theorem CrS.setV (h : CrS W w n gb ga a ps) (c : Int) : CrS W ((w.setCell ⟨ga, 0, none⟩ (.int .i64 (tH c))).setCell ⟨ga, 1, none⟩ (.int .u64 (tL c))) n gb ga c ps := by
  have n1 := h.n1
  have n0 := (rowG_lt h.beg).1
  exact ⟨(h.v.put 0 _).put 1 _, rowG_off (rowG_off h.beg (by omega) _ _) (by omega) _ _, (h.low.setCell (p := ⟨ga, 0, none⟩) (by simp; omega) _).setCell (p := ⟨ga, 1, none⟩) (by simp; omega) _, n1⟩
theorem CrS.put (h : CrS W w n gb ga a ps) (j : Nat) (u : Value) : CrS W (w.setCell ⟨gb, j, none⟩ u) n gb ga a (ps.set j u) := by
  have n1 := h.n1
  have n0 := (rowG_lt h.beg).1
  exact ⟨h.v.other (p := ⟨gb, j, none⟩) (by simp; omega) _, rowG_put h.beg _ _, h.low.setCell (p := ⟨gb, j, none⟩) (by simp; omega) _, n1⟩
end
theorem clines_any (l : List Int) (A : Option Addr) (c : Nat) (whole : Int) (rev : Bool) (W : World) (hR : Row W W.heap.size A (i64s l)) (hk : BegOk l whole) :
    Calls Try.prog 12 #[.slice A l.length c, .int .i64 whole, .bool rev] W (BegPost l whole rev W) := by
  have HR := Lib.hid hR
  have HE := Lib.hid hk.each
  have HB := Lib.hid (fun k => sumC_takebd (c := 1099511627776) (by decide) l (fun z hz => hk.each z hz) hk.len k)
  have h60 := hk.len
  have hw := hk.whole
  have BL := Lib.hid (begsZ_len l whole rev)
  unfold BegPost
  obtain ⟨P, hP⟩ : ∃ P, begsZ l whole rev = P := ⟨_, rfl⟩
  have PA : Hid (∀ k (hk : k < l.length), P.getD k 0 = if rev then whole - (l.take k).sum - l[k] else (l.take k).sum) := Lib.hid (fun k hk => by
    have h' : k < P.length := by rw [← hP, begsZ_len]; exact hk
    have e := begsZ_at hP hk h'
    rw [← e]; simp [List.getD, h'])
  rw [hP] at BL ⊢
  clear hP
  obtain ⟨n, hn⟩ : ∃ n, l.length = n := ⟨_, rfl⟩
  have HN := Lib.hid hn
  rw [hn] at h60 BL ⊢
  clear hR hk hn
  obtain ⟨i0, hi0, hz0, hz1, hz2⟩ := info_parts (show (Try.prog.info? 2).map (fun i => (i.zero, i.size, i.bytes)) = some (some (.int .i64 0), 1, 8) from by kernel_rfl)
  have OW := Lib.hid (fun v w h => of_made1 whole (i64_sm (by omega) (by omega)) w v h)
  have HLP : Hid ((i64s P).length = (noneV n).length) := Lib.hid (by rw [i64s_length, BL.out, noneV_len])
  go_enter Try.func12, Try.ntmps12
  go_upto_region 2 with (at_make; refine wpList_make_full _ rfl _ _ 27 rfl W.heap.size 2 i0 (.int .i64 0) 1 Try.underlying27 hi0 hz0 hz1 .i64 .i64 _ _ n rfl rfl rfl rfl (by rw [hz2]; omega) (by unfold maxLen; omega) (Nat.le_refl _) ?_; intro w3 q1 q2; have O1 := Lib.hid q1; have G3 := Lib.hid (Only.of_grown q2); clear q1 q2)
  clear hi0 hz0 hz1 hz2
  have BB := Lib.hid (G3.out.below (B := W.heap.size) (by simp) (Nat.le_refl _))
  have O2 : Hid (RowG w3 W.heap.size 2 W.heap.size n (noneV n)) := Lib.hid (by
    have e1 : (madeCells (Value.int .i64 0).cells (n * 1)).toList = List.replicate n (Value.int .i64 0) := by rw [Nat.mul_one]; exact toList_madeCells_one _ _
    have o := O1.out
    rw [e1] at o
    exact o)
  have ls := rowG_lt O2.out
  have S3 : Hid (CrS W (w3.alloc (.cells #[.int .i64 0, .int .u64 0] 36)) n W.heap.size w3.heap.size 0 (mixL (i64s P) (noneV n) 0)) := Lib.hid (by
    rw [mixL_zero]
    exact ⟨Whole.mk w3 36 #[.int .i64 0, .int .u64 0], own_below O2.out ((Below.refl _ w3).alloc (Nat.le_refl _) _) (Nat.le_refl _), BB.out.alloc BB.out.size _, ls.2⟩)
  clear O1 O2 G3 BB
  go_upto_region 3 with fail
  generalize w3.alloc _ = w4 at *
  obtain ⟨ga, hga⟩ : ∃ g, w3.heap.size = g := ⟨_, rfl⟩
  rw [hga] at S3 ls ⊢
  clear hga
  go_wp2_with fail
  go_loopw [17] (fun v17 wr => ∃ k : Nat, v17 = .int .i64 k ∧ k ≤ n ∧ Hid (CrS W wr n W.heap.size ga (l.take k).sum (mixL (i64s P) (noneV n) k))) (fun v17 _ => n - (intOf v17).toNat)
  case atStart => exact ⟨0, rfl, Nat.zero_le _, by rw [List.take_zero, List.sum_nil]; exact S3⟩
  case round =>
    clear S3
    obtain ⟨k, rfl, hk, S4⟩ := hrel
    generalize wr = w4 at *
    by_cases hlt : k < n
    · have hltz : (k : Int) < n := by omega
      have hkl : k < l.length := by rw [HN.out]; exact hlt
      obtain ⟨ad, rfl, hb, d0⟩ := (HR.out.below S4.out.low).int hkl
      have hz := HE.out _ (List.getElem_mem hkl)
      have ES := Lib.hid (sumC_take l hkl)
      have PAk := Lib.hid (PA.out k hkl)
      have h0 := HB.out k
      have h1 := HB.out (k + 1)
      rw [ES.out] at h1
      obtain ⟨z, hze⟩ : ∃ z, l[k] = z := ⟨_, rfl⟩
      rw [hze] at d0 hz ES h1 PAk
      clear hze
      obtain ⟨s, hs⟩ : ∃ s, (l.take k).sum = s := ⟨_, rfl⟩
      rw [hs] at h0 h1 ES S4 PAk
      clear hs
      have Q1 := Lib.hid (fun w => plus_any s z (tot_sm (by omega) (by omega)) (i64_sm (by omega) (by omega)) w)
      have Q2 := Lib.hid (fun w => minus_any whole (s + z) (tot_sm (by omega) (by omega)) (tot_sm (by omega) (by omega)) w)
      have H1 := Lib.hid (fun w => held_any s (i64_sm (by omega) (by omega)) w)
      have H2 := Lib.hid (fun w => held_any (whole - (s + z)) (i64_sm (by omega) (by omega)) w)
      have e0 := S4.out.v.cell 0
      have e1 := S4.out.v.cell 1
      simp only [List.getElem?_cons_zero, List.getElem?_cons_succ] at e0 e1
      clear h0 h1 hz
      go_wp2_with fail
      refine (Q1.out _).mono ?_
      rintro e w5 ⟨rfl, hb5⟩
      have S5 := Lib.hid (S4.out.under hb5)
      clear hb5 S4 Q1 e0 e1 d0
      have T6 := Lib.hid (Whole.mk w5 36 #[.int .i64 (tH (s + z)), .int .u64 (tL (s + z))])
      have S6 := Lib.hid (S5.out.under ((Below.refl _ w5).alloc (Nat.le_refl _) (.cells #[.int .i64 (tH (s + z)), .int .u64 (tL (s + z))] 36)))
      have hgt := S5.out.size
      clear S5
      go_upto_region 7 with fail
      generalize w5.alloc _ = w6 at *
      obtain ⟨gt, hgt0⟩ : ∃ g, w5.heap.size = g := ⟨_, rfl⟩
      rw [hgt0] at T6 hgt ⊢
      clear hgt0
      have e0 := S6.out.v.cell 0
      have e1 := S6.out.v.cell 1
      simp only [List.getElem?_cons_zero, List.getElem?_cons_succ] at e0 e1
      go_wp2_with fail
      refine (H1.out _).mono ?_
      rintro e w7 ⟨rfl, hb7⟩
      have S7 := Lib.hid (S6.out.under hb7)
      have T7 := Lib.hid (T6.out.under hb7 T6.out.size)
      clear hb7 S6 T6 H1 e0 e1
      have hkB : k < (noneV n).length := by rw [noneV_len]; exact hlt
      have cb := rowG_cell S7.out.beg hlt (mixL_get HLP.out hkB)
      have fb := S7.out.beg.frozenAt k
      have S8 := Lib.hid (S7.out.put k (.int .i64 s))
      have n1 := S7.out.n1
      have T8 := Lib.hid (T7.out.other (p := ⟨W.heap.size, k, none⟩) (by show gt ≠ W.heap.size; omega) (.int .i64 s))
      go_upto_if 30 with fail
      clear S7 T7 cb fb
      generalize w7.setCell _ _ = w8 at *
      have MS : Hid ((mixL (i64s P) (noneV n) k).set k (.int .i64 (P.getD k 0)) = mixL (i64s P) (noneV n) (k + 1)) := Lib.hid (by
        have h := mixL_set HLP.out hkB
        have e : (i64s P)[k]'(by rw [HLP.out]; exact hkB) = .int .i64 (P.getD k 0) := by
          have : k < P.length := by rw [BL.out]; exact hlt
          simp [i64s, List.getD, this]
        rwa [e] at h)
      obtain ⟨B, hB⟩ : ∃ B, mixL (i64s P) (noneV n) k = B := ⟨_, rfl⟩
      have hBk : B.length = n := by rw [← hB, mixL_len HLP.out (by rw [noneV_len]; omega), noneV_len]
      rw [hB] at S8 MS
      clear hB hkB
      have HBK := Lib.hid hBk
      clear hBk
      go_cut [] from 31 to 39 (fun wx => Hid (CrS W wx n W.heap.size ga s (mixL (i64s P) (noneV n) (k + 1))) ∧ Hid (SumV wx gt (s + z)))
      case first =>
        cases rev with
        | false =>
          have E : Hid (P.getD k 0 = s) := Lib.hid (PAk.out.trans (by rw [if_neg (by simp)]))
          rw [E.out] at MS
          rw [MS.out] at S8
          go_wp2_with fail
          go_meet
          exact ⟨S8, T8⟩
        | true =>
          have E : Hid (P.getD k 0 = whole - (s + z)) := Lib.hid (PAk.out.trans (by rw [if_pos rfl]; omega))
          rw [E.out] at MS
          go_upto_region 9 with fail
          have YT := Lib.hid (fun w (hw : Behind w8 w) => T8.out.under hw T8.out.size)
          refine region_lane [] [0, 1, 2, 3, 4, 5, 6, 7, 8] [9] (by kernel_rfl) (by kernel_rfl) (by intro _ _ _ _ _ h; exact h) ?_
          simp only [pick, List.map_cons, List.map_nil, List.getD_cons_zero, List.getD_cons_succ, List.drop_succ_cons, List.drop_zero]
          refine wpQuiet_nil ⟨rfl, ?_⟩
          refine laneO_run 3 (by kernel_rfl) ?_
          simp only [List.take_succ_cons, List.take_zero, List.drop_succ_cons, List.drop_zero]
          repeat (go_big_quiet_step (fail))
          refine wpQuiet_nil ?_
          refine laneO_told (madeT 1 2 [.int .i64 whole]) (madeT_steady _ _ _) (by kernel_rfl) rfl (fun w hw => .inl ⟨by rfl, ?_⟩) ?_
          · unfold gives
            simp [go_sem]
            exact madeT_new 1 2 #[.int .i64 whole] w
          refine laneO_useCall (v := totV whole) rfl rfl (of_decide_eq_true (by rfl)) rfl (by rfl) (by rfl) rfl Try.func18 (by kernel_rfl) rfl (fun x w hw hx => OW.out x w hx) ?_
          simp only [Act.put, List.setIfInBounds_toArray, List.set_cons_zero, List.set_cons_succ]
          refine laneO_fixed (v := totV (s + z)) (by kernel_rfl) (fun w hw => .inl ⟨by rfl, cells_gives sum_flatA (.tmp 11) rfl gt rfl [.int .i64 (tH (s + z)), .int .u64 (tL (s + z))] rfl 36 (YT.out w hw)⟩) ?_
          simp only [Act.put, List.setIfInBounds_toArray, List.set_cons_zero, List.set_cons_succ]
          refine laneO_call (v := totV (whole - (s + z))) (by kernel_rfl) (by rfl) (fun C hC h0 => ?_) ?_
          focus (go_big_quiet_op; exact ⟨_, fun w hw => (Q2.out w).mono fun e w' ⟨he, hb⟩ => ⟨he, hC _ _ hw hb⟩, rfl⟩)
          simp only [Act.put, List.setIfInBounds_toArray, List.set_cons_zero, List.set_cons_succ]
          refine laneO_call (v := (.int .i64 (whole - (s + z)))) (by kernel_rfl) (by rfl) (fun C hC h0 => ?_) ?_
          focus (go_big_quiet_op; exact ⟨_, fun w hw => (H2.out w).mono fun e w' ⟨he, hb⟩ => ⟨he, hC _ _ hw hb⟩, rfl⟩)
          simp only [Act.put, List.setIfInBounds_toArray, List.set_cons_zero, List.set_cons_succ]
          refine laneO_run 1 (by kernel_rfl) ?_
          simp only [List.take_succ_cons, List.take_zero, List.drop_succ_cons, List.drop_zero]
          repeat (go_big_quiet_step (fail))
          refine wpQuiet_nil ?_
          refine laneO_end (by simp) (by rfl) rfl rfl fun w9 hb0 => ?_
          rintro x1 hx1
          clear hx1
          simp only [fillAll, Act.put, List.setIfInBounds_toArray, List.set_cons_zero, List.set_cons_succ]
          have S9 := Lib.hid (S8.out.under hb0)
          have T9 := Lib.hid (T8.out.under hb0 T8.out.size)
          clear hb0 S8 T8 YT OW Q2 H2
          have cb := rowG_cell (u := .int .i64 s) S9.out.beg hlt (by rw [List.getElem?_set_self (by rw [HBK.out]; exact hlt)])
          have fb := S9.out.beg.frozenAt k
          have S10 : Hid (CrS W (w9.setCell ⟨W.heap.size, k, none⟩ (.int .i64 (whole - (s + z)))) n W.heap.size ga s (mixL (i64s P) (noneV n) (k + 1))) := Lib.hid (by
            have h := S9.out.put k (.int .i64 (whole - (s + z)))
            rw [List.set_set, MS.out] at h
            exact h)
          have T10 := Lib.hid (T9.out.other (p := ⟨W.heap.size, k, none⟩) (by show gt ≠ W.heap.size; omega) (.int .i64 (whole - (s + z))))
          clear S9 T9
          go_wp2_with fail
          go_meet
          exact ⟨S10, T10⟩
      case rest =>
        obtain ⟨S9, T9⟩ := hcut
        generalize wc = w9 at *
        clear S8 T8 MS PAk OW Q2 H2
        have v0 := T9.out.cell 0
        have v1 := T9.out.cell 1
        have e0 := S9.out.v.cell 0
        have e1 := S9.out.v.cell 1
        have f0 := S9.out.v.free 0
        have f1 := S9.out.v.free 1
        simp only [List.getElem?_cons_zero, List.getElem?_cons_succ] at v0 v1 e0 e1
        have S10 := Lib.hid (S9.out.setV (s + z))
        go_wp2_with fail
        go_roundw
        case rel => exact ⟨k + 1, by go_num, by omega, by rw [ES.out]; exact S10⟩
        case measure => simp [intOf] <;> omega
    · obtain rfl : n = k := by omega
      have hltz : ¬ (n : Int) < n := by omega
      have R4 : Hid (RowG w4 W.heap.size 2 W.heap.size n (i64s P)) := Lib.hid (by
        have h := S4.out.beg
        have e := mixL_all HLP.out
        rw [noneV_len] at e
        rw [e] at h
        exact h)
      have B4 := Lib.hid S4.out.low
      clear S4
      go_wp2_with fail
      go_ret
      exact ⟨_, _, rfl, R4.out, B4.out⟩
end Go.Proofs.Ythneapnijfmpmaa
