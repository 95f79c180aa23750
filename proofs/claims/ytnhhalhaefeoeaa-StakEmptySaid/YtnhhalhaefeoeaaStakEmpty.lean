import Derived.Test.YtnhhalhaefeoeaaStkTame
import Derived.Test.YtnhhalhaefeoeaaStkLaw
import Derived.Test.YtnhhalhaefeoeaaAppTold
import Derived.Test.YtnhhalhaefeoeaaLaneP
/- StakEmpty answers true. -/
namespace Go.Proofs.Ytnhhalhaefeoeaa
open Go Go.RowKit
set_option linter.unusedVariables false
set_option linter.unusedSimpArgs false
set_option maxRecDepth 20000
set_option maxHeartbeats 4000000

abbrev emC : List Value := [.int .i64 0, .int .i64 0, .int .i64 0, .int .i64 0, .int .i64 0, .bool true]
theorem ldC_one (x : Ld) : ∀ v ∈ ldC x, v.oneCell' = true := by simp [ldC, Value.oneCell']
theorem ldC_cut (l : List Ld) (k : Nat) (h : k ≤ l.length) : ((l.take k).flatMap ldC).length = k * 6 ∧ ((l.drop k).flatMap ldC).length = (l.length - k) * 6 := by
  rw [rec_len ldC_len, rec_len ldC_len, List.length_take, List.length_drop, Nat.min_eq_left h]; exact ⟨rfl, rfl⟩
theorem more_cells (l : List Ld) (k : Nat) : (l.take k).flatMap ldC ++ emC ++ (l.drop k).flatMap ldC = (moreL l k).flatMap ldC := by
  unfold moreL
  rw [List.flatMap_append, List.flatMap_cons, List.append_assoc]; rfl
theorem Row.cells {w : World} {B : Nat} {ad : Addr} {xs : List Value} (h : Row w B (some ad) xs) : ∀ j u, xs[j]? = some u → w.cell? (ad.add j) = some u := by
  intro j u hu
  obtain ⟨hj, rfl⟩ := List.getElem?_eq_some_iff.1 hu
  obtain ⟨ad', e, _, hc⟩ := h (by omega)
  injection e with e
  subst e
  exact hc j hj
theorem cells_take (l : List Ld) (k : Nat) (hk : k ≤ l.length) : (l.take k).flatMap ldC = (l.flatMap ldC).take (k * 6) := by
  have e : l.flatMap ldC = (l.take k).flatMap ldC ++ (l.drop k).flatMap ldC := by rw [← List.flatMap_append, List.take_append_drop]
  rw [e, List.take_left' (ldC_cut l k hk).1]
theorem cells_drop (l : List Ld) (k : Nat) (hk : k ≤ l.length) : (l.drop k).flatMap ldC = (l.flatMap ldC).drop (k * 6) := by
  have e : l.flatMap ldC = (l.take k).flatMap ldC ++ (l.drop k).flatMap ldC := by rw [← List.flatMap_append, List.take_append_drop]
  rw [e, List.drop_left' (ldC_cut l k hk).1]
theorem own_cap {w : World} {b e size n c : Nat} {A : Option Addr} {xs : List Value} (h : w.ownsRow b e size (.slice A n c) n xs) : n ≤ c := by
  obtain ⟨A', c', e, hc, -⟩ := owns_nil h
  injection e with _ _ e2
  subst e2
  exact hc
theorem own_head {w : World} {b e size n c : Nat} {A : Option Addr} {xs : List Value} (h : w.ownsRow b e size (.slice A n c) n xs) (hn : 0 < n) : ∃ g, A = some ⟨g, 0, none⟩ := by
  obtain ⟨g, c', e, -⟩ := owns_some h hn
  injection e with e _ _
  exact ⟨g, e⟩
theorem stakEmpty_any (l0 : List Ld) (hl : l0.length ≤ 9223372036854775807) (A : Option Addr) (c : Nat) (at_ : Int) (top bottom : Bool) (W : World) (hR : Row W W.heap.size A (l0.flatMap ldC)) :
    Calls Try.prog 7 #[.slice A l0.length c, .int .i64 at_, .bool top, .bool bottom] W fun e w' => e = .returned (.bool true) ∧ Below W.heap.size W w' := by
  have TM := Lib.hid (ktame_any l0 hl A c W hR)
  have hok := tameLd_ok l0
  have hlen := tameLd_len l0
  generalize tameLd l0 = l at *
  have HOK := Lib.hid hok
  have S1 := Lib.hid (fun A c w hR => stack_any l (by omega) hok A c top bottom w hR)
  have S2 := Lib.hid (fun (k : Nat) (hk : k ≤ l.length) A c w hR => stack_any (moreL l k) (by rw [more_len l k hk]; omega) (more_ok l hok k) A c top bottom w hR)
  have hokb : ∀ x ∈ l.map bareLd, LdOk x := fun x hx => by obtain ⟨y, hy, rfl⟩ := List.mem_map.1 hx; exact bareLd_ok (hok y hy)
  have S3 := Lib.hid (fun A c w hR => stack_any (l.map bareLd) (by rw [List.length_map]; omega) hokb A c top bottom w hR)
  obtain ⟨x, hx⟩ : ∃ x, endS (runS (startS top) l) bottom = x := ⟨_, rfl⟩
  have EM := Lib.hid (fun (k : Nat) (hk : k ≤ l.length) => more_run top l hok k hk)
  have EA := Lib.hid (fun (k : Nat) (hk : k ≤ l.length) => more_at top l hok k hk)
  have EX := Lib.hid hx
  rw [hx] at S1
  clear hx hok hokb hR
  obtain ⟨⟨tp, tq⟩, ⟨bp, bq⟩, th, h⟩ := x
  go_enter Try.func7, Try.ntmps7
  go_wp2_with fail
  refine TM.out.mono ?_
  rintro e w1 ⟨A1, c1, rfl, o1, hb⟩
  obtain ⟨A1', c1', e1, hnc, hcm, hnil⟩ := owns_nil o1
  injection e1 with e1 _ e2
  subst e1 e2
  have O1 := Lib.hid o1
  have R1 := Lib.hid (row_of_own o1)
  have B1 := Lib.hid hb
  have HA : Hid (A1 = none ∨ ∃ ga, A1 = some ⟨ga, 0, none⟩) := Lib.hid (by
    rcases o1.2 with ⟨e, -⟩ | ⟨g, cap, cur, e, -⟩
    · injection e with e; exact .inl e
    · injection e with e; exact .inr ⟨g, e⟩)
  clear o1 hb TM
  have hcm2 : c1 ≤ 9223372036854775807 := by unfold maxLen at hcm; omega
  have a8 : bits .and .i64 at_ 255 = at_ % 256 := and_mask_i64 at_ 8 (by decide)
  have ht1 : ((l.length : Int) + 1 == 0) = false := by rw [beq_eq_false_iff_ne]; omega
  obtain ⟨k, hk, hkt⟩ : ∃ k : Nat, at_ % 256 % ((l.length : Int) + 1) = k ∧ k ≤ l.length := by
    have h2 := Int.emod_nonneg (at_ % 256) (show (l.length : Int) + 1 ≠ 0 by omega)
    have h3 := Int.emod_lt_of_pos (at_ % 256) (show (0 : Int) < (l.length : Int) + 1 by omega)
    exact ⟨((at_ % 256) % ((l.length : Int) + 1)).toNat, by omega, by omega⟩
  go_upto_region 3 with fail
  rw [hk]
  clear hk a8 ht1
  have MS := Lib.hid (fun A c w hR => S2.out k hkt A c w hR)
  have MR := Lib.hid (EM.out k hkt)
  have MA := Lib.hid (EA.out k hkt)
  have ML := Lib.hid (more_len l k hkt)
  rw [MR.out, EX.out, ML.out] at MS
  clear S2 EM EA
  have CT := Lib.hid (ldC_cut l k hkt)
  have LT := Lib.hid (cells_take l k hkt)
  have LDr := Lib.hid (cells_drop l k hkt)
  have hki : (k : Int) ≤ l.length := by omega
  have hkc : k ≤ c1 := by omega
  go_cut [10] from 29 to 40 (fun v wx => ∃ (A6 : Option Addr) (c6 : Nat), v = .slice A6 (l.length + 1) c6 ∧ wx.ownsRow w1.heap.size 27 6 (.slice A6 (l.length + 1) c6) (l.length + 1) ((moreL l k).flatMap ldC) ∧ Below w1.heap.size w1 wx)
  case first =>
    rcases HA.out with hA | ⟨ga, hA⟩
    · subst hA
      have hc0 := hnil rfl
      subst hc0
      have hl00 : l = [] := List.eq_nil_of_length_eq_zero (by omega)
      have hk0 : k = 0 := by omega
      have HL0 := Lib.hid hl00
      have HK0 := Lib.hid hk0
      have TK : Hid (∀ (w : World), Below w1.heap.size w1 w → ∀ ad, (none : Option Addr) = some ad → ∀ j u, ((l.take k).flatMap ldC)[j]? = some u → w.cell? (ad.add j) = some u) := Lib.hid (fun w _ ad e => by cases e)
      have DR : Hid (∀ (w : World), Below w1.heap.size w1 w → Row w w1.heap.size none ((l.drop k).flatMap ldC)) := Lib.hid (fun w _ => by rw [HL0.out]; simp; exact Row.nil _ _ _)
      clear hl00
      subst hk0
      refine region_lane [1, 2, 3, 8, 9, 10] [0, 4, 5, 6] [7, 11, 12] (by kernel_rfl) (by kernel_rfl) (by intro _ _ _ _ _ h; exact h) ?_
      simp only [pick, List.map_cons, List.map_nil, List.getD_cons_zero, List.getD_cons_succ, List.drop_succ_cons, List.drop_zero]
      repeat (go_big_quiet_step (fail))
      refine wpQuiet_nil ⟨rfl, ?_⟩
      refine laneO_told (rowT w1.heap.size 0 27 []) (rowT_steady _ _ _ _) (by kernel_rfl) rfl (fun w hw => .inl ⟨by rfl, ?_⟩) ?_
      focus (unfold gives; simp [go_sem]; exact rowT_new w1.heap.size 0 27 #[] w hw.size)
      refine laneO_by (ownsT w1.heap.size 27 6 0 ((l.take 0).flatMap ldC)) (ownsT_steady _ _ _ _ _) rfl (fun a' w hb hm => ?_) ?_
      · have m29 : rowT w1.heap.size 0 27 [] (a'.tmps.getD 29 undef) w := hm 29 (by simp [Oper.looksAt, Op.operands, Call.operands])
        have m32 : a'.tmps.getD 32 undef = .slice (none) 0 0 := hm 32 (by simp [Oper.looksAt, Op.operands, Call.operands])
        exact append_lit0 (by rfl) hb.size (.tmp 29) (.tmp 32) 22 27 6 48 ldV0 rfl Try.underlying22 ld_info rfl (by decide) m29 (none) 0 0 ((l.take 0).flatMap ldC) m32 (fun _ => rfl) CT.out.1 (TK.out w hb) (rec_one ldC_one) (by unfold maxLen; omega) (by omega)
      refine laneO_fixed (v := .agg #[.int .i64 0, .int .i64 0, .int .i64 0, .int .i64 0, .int .i64 0, .bool true]) (by kernel_rfl) (fun w hw => .inl ⟨by rfl, built_gives _ _ rfl _ (by kernel_rfl)⟩) ?_
      simp only [Act.put, List.setIfInBounds_toArray, List.set_cons_zero, List.set_cons_succ]
      refine laneO_told (madeT 1 27 [.int .i64 0, .int .i64 0, .int .i64 0, .int .i64 0, .int .i64 0, .bool true]) (madeT_steady _ _ _) (by kernel_rfl) rfl (fun w hw => .inl ⟨by rfl, ?_⟩) ?_
      · unfold gives
        simp [go_sem]
        exact madeT_new 1 27 #[.int .i64 0, .int .i64 0, .int .i64 0, .int .i64 0, .int .i64 0, .bool true] w
      refine laneO_end (by simp) (by rfl) rfl rfl fun w3 hb3 => ?_
      rintro x35 ⟨g5, rfl, h5⟩ x33 ⟨A3, c3, rfl, o3⟩ x29 -
      simp only [fillAll, Act.put, List.setIfInBounds_toArray, List.set_cons_zero, List.set_cons_succ]
      refine wpList_push_all rfl (.tmp 33) (.tmp 35) _ rfl w1.heap.size 27 6 48 ldV0 Try.underlying22 ld_info rfl (by decide) 0 c3 A3 _ rfl o3 _ 1 1 (some ⟨g5, 0, none⟩) emC rfl (fun h => by cases h) rfl (row_told h5) (by simp [Value.oneCell']) (by unfold maxLen; omega) (by omega) hb3.size (fun A4 c4 w4 o4 hb4 => ?_)
      simp only [Act.put, List.setIfInBounds_toArray, List.set_cons_zero, List.set_cons_succ]
      have B4 := Lib.hid (Below.trans hb3 hb4)
      refine wpList_push_all rfl (.tmp 36) (.tmp 39) _ rfl w1.heap.size 27 6 48 ldV0 Try.underlying22 ld_info rfl (by decide) (0 + 1) c4 A4 _ rfl o4 _ 0 _ (none) ((l.drop 0).flatMap ldC) rfl (fun _ => rfl) (by rw [HL0.out]; rfl) (DR.out w4 B4.out) (rec_one ldC_one) (by unfold maxLen; omega) (by omega) B4.out.size (fun A5 c5 w5 o5 hb5 => ?_)
      simp only [Act.put, List.setIfInBounds_toArray, List.set_cons_zero, List.set_cons_succ]
      have B5 := Lib.hid (B4.out.trans hb5)
      rw [more_cells, show 0 + 1 + 0 = l.length + 1 by omega] at o5
      have O5 := Lib.hid o5
      have HN5 : Hid (0 + 1 + 0 = l.length + 1) := Lib.hid (by omega)
      clear o5 hb5 o4 hb4 o3 h5 hb3 B4 TK DR
      rw [HN5.out]
      go_wp2_with fail
      go_meet
      exact ⟨A5, c5, rfl, O5.out, B5.out⟩
    · subst hA
      have TK : Hid (∀ (w : World), Below w1.heap.size w1 w → ∀ ad, (some ⟨ga, 0, none⟩ : Option Addr) = some ad → ∀ j u, ((l.take k).flatMap ldC)[j]? = some u → w.cell? (ad.add j) = some u) := Lib.hid (fun w hw ad e j u hu => by
        injection e with e
        subst e
        rw [LT.out] at hu
        exact ((R1.out.below hw).take (k * 6)).cells j u hu)
      by_cases hck : c1 = k
      · have DR : Hid (∀ (w : World), Below w1.heap.size w1 w → Row w w1.heap.size (some ⟨ga, 0, none⟩) ((l.drop k).flatMap ldC)) := Lib.hid (fun w hw => by
          rw [List.drop_of_length_le (by omega)]; exact Row.nil _ _ _)
        refine region_lane [1, 2, 3, 8, 9, 10] [0, 4, 5, 6] [7, 11, 12] (by kernel_rfl) (by kernel_rfl) (by intro _ _ _ _ _ h; exact h) ?_
        simp only [pick, List.map_cons, List.map_nil, List.getD_cons_zero, List.getD_cons_succ, List.drop_succ_cons, List.drop_zero]
        repeat (go_big_quiet_step (fail))
        refine wpQuiet_nil ⟨rfl, ?_⟩
        refine laneO_told (rowT w1.heap.size 0 27 []) (rowT_steady _ _ _ _) (by kernel_rfl) rfl (fun w hw => .inl ⟨by rfl, ?_⟩) ?_
        focus (unfold gives; simp [go_sem]; exact rowT_new w1.heap.size 0 27 #[] w hw.size)
        refine laneO_by (ownsT w1.heap.size 27 6 k ((l.take k).flatMap ldC)) (ownsT_steady _ _ _ _ _) rfl (fun a' w hb hm => ?_) ?_
        · have m29 : rowT w1.heap.size 0 27 [] (a'.tmps.getD 29 undef) w := hm 29 (by simp [Oper.looksAt, Op.operands, Call.operands])
          have m32 : a'.tmps.getD 32 undef = .slice (some ⟨ga, 0, none⟩) k k := hm 32 (by simp [Oper.looksAt, Op.operands, Call.operands])
          exact append_lit0 (by rfl) hb.size (.tmp 29) (.tmp 32) 22 27 6 48 ldV0 rfl Try.underlying22 ld_info rfl (by decide) m29 (some ⟨ga, 0, none⟩) k k ((l.take k).flatMap ldC) m32 (fun h => by cases h) CT.out.1 (TK.out w hb) (rec_one ldC_one) (by unfold maxLen; omega) (by omega)
        refine laneO_fixed (v := .agg #[.int .i64 0, .int .i64 0, .int .i64 0, .int .i64 0, .int .i64 0, .bool true]) (by kernel_rfl) (fun w hw => .inl ⟨by rfl, built_gives _ _ rfl _ (by kernel_rfl)⟩) ?_
        simp only [Act.put, List.setIfInBounds_toArray, List.set_cons_zero, List.set_cons_succ]
        refine laneO_told (madeT 1 27 [.int .i64 0, .int .i64 0, .int .i64 0, .int .i64 0, .int .i64 0, .bool true]) (madeT_steady _ _ _) (by kernel_rfl) rfl (fun w hw => .inl ⟨by rfl, ?_⟩) ?_
        · unfold gives
          simp [go_sem]
          exact madeT_new 1 27 #[.int .i64 0, .int .i64 0, .int .i64 0, .int .i64 0, .int .i64 0, .bool true] w
        refine laneO_end (by simp) (by rfl) rfl rfl fun w3 hb3 => ?_
        rintro x35 ⟨g5, rfl, h5⟩ x33 ⟨A3, c3, rfl, o3⟩ x29 -
        simp only [fillAll, Act.put, List.setIfInBounds_toArray, List.set_cons_zero, List.set_cons_succ]
        refine wpList_push_all rfl (.tmp 33) (.tmp 35) _ rfl w1.heap.size 27 6 48 ldV0 Try.underlying22 ld_info rfl (by decide) k c3 A3 _ rfl o3 _ 1 1 (some ⟨g5, 0, none⟩) emC rfl (fun h => by cases h) rfl (row_told h5) (by simp [Value.oneCell']) (by unfold maxLen; omega) (by omega) hb3.size (fun A4 c4 w4 o4 hb4 => ?_)
        simp only [Act.put, List.setIfInBounds_toArray, List.set_cons_zero, List.set_cons_succ]
        have B4 := Lib.hid (Below.trans hb3 hb4)
        refine wpList_push_all rfl (.tmp 36) (.tmp 39) _ rfl w1.heap.size 27 6 48 ldV0 Try.underlying22 ld_info rfl (by decide) (k + 1) c4 A4 _ rfl o4 _ (l.length - k) _ (some ⟨ga, 0, none⟩) ((l.drop k).flatMap ldC) rfl (fun h => by cases h) CT.out.2 (DR.out w4 B4.out) (rec_one ldC_one) (by unfold maxLen; omega) (by omega) B4.out.size (fun A5 c5 w5 o5 hb5 => ?_)
        simp only [Act.put, List.setIfInBounds_toArray, List.set_cons_zero, List.set_cons_succ]
        have B5 := Lib.hid (B4.out.trans hb5)
        rw [more_cells, show k + 1 + (l.length - k) = l.length + 1 by omega] at o5
        have O5 := Lib.hid o5
        have HN5 : Hid (k + 1 + (l.length - k) = l.length + 1) := Lib.hid (by omega)
        clear o5 hb5 o4 hb4 o3 h5 hb3 B4 TK DR
        rw [HN5.out]
        go_wp2_with fail
        go_meet
        exact ⟨A5, c5, rfl, O5.out, B5.out⟩
      · have DR : Hid (∀ (w : World), Below w1.heap.size w1 w → Row w w1.heap.size (some ⟨ga, k * 6, none⟩) ((l.drop k).flatMap ldC)) := Lib.hid (fun w hw => by
          rw [LDr.out]
          have h := (R1.out.below hw).drop (k * 6)
          rwa [head_add] at h)
        refine region_lane [1, 2, 3, 8, 9, 10] [0, 4, 5, 6] [7, 11, 12] (by kernel_rfl) (by kernel_rfl) (by intro _ _ _ _ _ h; exact h) ?_
        simp only [pick, List.map_cons, List.map_nil, List.getD_cons_zero, List.getD_cons_succ, List.drop_succ_cons, List.drop_zero]
        repeat (go_big_quiet_step (fail))
        refine wpQuiet_nil ⟨rfl, ?_⟩
        refine laneO_told (rowT w1.heap.size 0 27 []) (rowT_steady _ _ _ _) (by kernel_rfl) rfl (fun w hw => .inl ⟨by rfl, ?_⟩) ?_
        focus (unfold gives; simp [go_sem]; exact rowT_new w1.heap.size 0 27 #[] w hw.size)
        refine laneO_by (ownsT w1.heap.size 27 6 k ((l.take k).flatMap ldC)) (ownsT_steady _ _ _ _ _) rfl (fun a' w hb hm => ?_) ?_
        · have m29 : rowT w1.heap.size 0 27 [] (a'.tmps.getD 29 undef) w := hm 29 (by simp [Oper.looksAt, Op.operands, Call.operands])
          have m32 : a'.tmps.getD 32 undef = .slice (some ⟨ga, 0, none⟩) k c1 := hm 32 (by simp [Oper.looksAt, Op.operands, Call.operands])
          exact append_lit0 (by rfl) hb.size (.tmp 29) (.tmp 32) 22 27 6 48 ldV0 rfl Try.underlying22 ld_info rfl (by decide) m29 (some ⟨ga, 0, none⟩) k c1 ((l.take k).flatMap ldC) m32 (fun h => by cases h) CT.out.1 (TK.out w hb) (rec_one ldC_one) (by unfold maxLen; omega) (by omega)
        refine laneO_fixed (v := .agg #[.int .i64 0, .int .i64 0, .int .i64 0, .int .i64 0, .int .i64 0, .bool true]) (by kernel_rfl) (fun w hw => .inl ⟨by rfl, built_gives _ _ rfl _ (by kernel_rfl)⟩) ?_
        simp only [Act.put, List.setIfInBounds_toArray, List.set_cons_zero, List.set_cons_succ]
        refine laneO_told (madeT 1 27 [.int .i64 0, .int .i64 0, .int .i64 0, .int .i64 0, .int .i64 0, .bool true]) (madeT_steady _ _ _) (by kernel_rfl) rfl (fun w hw => .inl ⟨by rfl, ?_⟩) ?_
        · unfold gives
          simp [go_sem]
          exact madeT_new 1 27 #[.int .i64 0, .int .i64 0, .int .i64 0, .int .i64 0, .int .i64 0, .bool true] w
        refine laneO_end (by simp) (by rfl) rfl rfl fun w3 hb3 => ?_
        rintro x35 ⟨g5, rfl, h5⟩ x33 ⟨A3, c3, rfl, o3⟩ x29 -
        simp only [fillAll, Act.put, List.setIfInBounds_toArray, List.set_cons_zero, List.set_cons_succ]
        refine wpList_push_all rfl (.tmp 33) (.tmp 35) _ rfl w1.heap.size 27 6 48 ldV0 Try.underlying22 ld_info rfl (by decide) k c3 A3 _ rfl o3 _ 1 1 (some ⟨g5, 0, none⟩) emC rfl (fun h => by cases h) rfl (row_told h5) (by simp [Value.oneCell']) (by unfold maxLen; omega) (by omega) hb3.size (fun A4 c4 w4 o4 hb4 => ?_)
        simp only [Act.put, List.setIfInBounds_toArray, List.set_cons_zero, List.set_cons_succ]
        have B4 := Lib.hid (Below.trans hb3 hb4)
        refine wpList_push_all rfl (.tmp 36) (.tmp 39) _ rfl w1.heap.size 27 6 48 ldV0 Try.underlying22 ld_info rfl (by decide) (k + 1) c4 A4 _ rfl o4 _ (l.length - k) (c1 - k) (some ⟨ga, k * 6, none⟩) ((l.drop k).flatMap ldC) rfl (fun h => by cases h) CT.out.2 (DR.out w4 B4.out) (rec_one ldC_one) (by unfold maxLen; omega) (by omega) B4.out.size (fun A5 c5 w5 o5 hb5 => ?_)
        simp only [Act.put, List.setIfInBounds_toArray, List.set_cons_zero, List.set_cons_succ]
        have B5 := Lib.hid (B4.out.trans hb5)
        rw [more_cells, show k + 1 + (l.length - k) = l.length + 1 by omega] at o5
        have O5 := Lib.hid o5
        have HN5 : Hid (k + 1 + (l.length - k) = l.length + 1) := Lib.hid (by omega)
        clear o5 hb5 o4 hb4 o3 h5 hb3 B4 TK DR
        rw [HN5.out]
        go_wp2_with fail
        go_meet
        exact ⟨A5, c5, rfl, O5.out, B5.out⟩
  case rest =>
    obtain ⟨A6, c6, rfl, o6, hb6⟩ := hcut
    have M := Lib.hid (row_of_own o6)
    have R := Lib.hid ((R1.out.below hb6).more hb6.size)
    have B2 := Lib.hid (B1.out.trans (hb6.mono B1.out.size))
    clear o6 hb6 R1 O1 B1 HA CT LT LDr hkc hnil hnc hcm hcm2 ML
    go_wp2_with fail
    refine (S1.out _ _ _ R.out).mono ?_
    rintro e w2 ⟨A7, c7, rfl, o, hb⟩
    have BN := Lib.hid ((B2.out.trans (hb.mono B2.out.size)).alloc (by have := hb.size; have := B2.out.size; omega) (.cells #[.int .i64 tp, .int .i64 tq, .int .i64 bp, .int .i64 bq, .bool th, .int .i64 h] 31))
    have RN := Lib.hid ((((R.out.below hb).more hb.size).below (w' := w2.alloc (.cells #[.int .i64 tp, .int .i64 tq, .int .i64 bp, .int .i64 bq, .bool th, .int .i64 h] 31)) ((Below.refl _ w2).alloc (Nat.le_refl _) _)).more (B' := (w2.alloc (.cells #[.int .i64 tp, .int .i64 tq, .int .i64 bp, .int .i64 bq, .bool th, .int .i64 h] 31)).heap.size) (by simp))
    have MN := Lib.hid ((((M.out.below hb).more hb.size).below (w' := w2.alloc (.cells #[.int .i64 tp, .int .i64 tq, .int .i64 bp, .int .i64 bq, .bool th, .int .i64 h] 31)) ((Below.refl _ w2).alloc (Nat.le_refl _) _)).more (B' := (w2.alloc (.cells #[.int .i64 tp, .int .i64 tq, .int .i64 bp, .int .i64 bq, .bool th, .int .i64 h] 31)).heap.size) (by simp))
    have Y := Lib.hid (((row_of_own o).below ((Below.refl _ w2).alloc (Nat.le_refl _) (.cells #[.int .i64 tp, .int .i64 tq, .int .i64 bp, .int .i64 bq, .bool th, .int .i64 h] 31))).more (B' := (w2.alloc (.cells #[.int .i64 tp, .int .i64 tq, .int .i64 bp, .int .i64 bq, .bool th, .int .i64 h] 31)).heap.size) (by simp))
    have V1 := Lib.hid (Whole.mk w2 31 #[.int .i64 tp, .int .i64 tq, .int .i64 bp, .int .i64 bq, .bool th, .int .i64 h])
    clear o hb B2 R M 
    have B2 := BN
    clear BN
    have R := RN
    clear RN
    have M := MN
    clear MN
    clear S1
    go_upto_region 5 with fail
    generalize w2.alloc _ = u2 at *
    generalize w2.heap.size = g1 at *
    go_wp2_with fail
    refine (MS.out _ _ _ M.out).mono ?_
    rintro e w3 ⟨A8, c8, rfl, o, hb⟩
    have BN := Lib.hid ((B2.out.trans (hb.mono B2.out.size)).alloc (by have := hb.size; have := B2.out.size; omega) (.cells #[.int .i64 tp, .int .i64 tq, .int .i64 bp, .int .i64 bq, .bool th, .int .i64 h] 31))
    have MN := Lib.hid ((((M.out.below hb).more hb.size).below (w' := w3.alloc (.cells #[.int .i64 tp, .int .i64 tq, .int .i64 bp, .int .i64 bq, .bool th, .int .i64 h] 31)) ((Below.refl _ w3).alloc (Nat.le_refl _) _)).more (B' := (w3.alloc (.cells #[.int .i64 tp, .int .i64 tq, .int .i64 bp, .int .i64 bq, .bool th, .int .i64 h] 31)).heap.size) (by simp))
    have RN := Lib.hid ((((R.out.below hb).more hb.size).below (w' := w3.alloc (.cells #[.int .i64 tp, .int .i64 tq, .int .i64 bp, .int .i64 bq, .bool th, .int .i64 h] 31)) ((Below.refl _ w3).alloc (Nat.le_refl _) _)).more (B' := (w3.alloc (.cells #[.int .i64 tp, .int .i64 tq, .int .i64 bp, .int .i64 bq, .bool th, .int .i64 h] 31)).heap.size) (by simp))
    have YN := Lib.hid ((((Y.out.below hb).more hb.size).below (w' := w3.alloc (.cells #[.int .i64 tp, .int .i64 tq, .int .i64 bp, .int .i64 bq, .bool th, .int .i64 h] 31)) ((Below.refl _ w3).alloc (Nat.le_refl _) _)).more (B' := (w3.alloc (.cells #[.int .i64 tp, .int .i64 tq, .int .i64 bp, .int .i64 bq, .bool th, .int .i64 h] 31)).heap.size) (by simp))
    have V1N := Lib.hid ((V1.out.under hb V1.out.size).made (.cells #[.int .i64 tp, .int .i64 tq, .int .i64 bp, .int .i64 bq, .bool th, .int .i64 h] 31))
    have Z := Lib.hid (((row_of_own o).below ((Below.refl _ w3).alloc (Nat.le_refl _) (.cells #[.int .i64 tp, .int .i64 tq, .int .i64 bp, .int .i64 bq, .bool th, .int .i64 h] 31))).more (B' := (w3.alloc (.cells #[.int .i64 tp, .int .i64 tq, .int .i64 bp, .int .i64 bq, .bool th, .int .i64 h] 31)).heap.size) (by simp))
    have V2 := Lib.hid (Whole.mk w3 31 #[.int .i64 tp, .int .i64 tq, .int .i64 bp, .int .i64 bq, .bool th, .int .i64 h])
    have HZ := Lib.hid (fun (h : 0 < l.length + 1) => own_head o h)
    have hcap3 := own_cap o
    clear o hb B2 M R Y V1
    have B2 := BN
    clear BN
    have M := MN
    clear MN
    have R := RN
    clear RN
    have Y := YN
    clear YN
    have V1 := V1N
    clear V1N
    clear MS M
    obtain ⟨gz, hgz⟩ := HZ.out (by omega)
    subst hgz
    clear HZ
    go_upto_region 6 with fail
    generalize w3.alloc _ = u3 at *
    generalize w3.heap.size = g2 at *
    have ZL : Hid ((atL (startS top) (moreL l k)).length = l.length + 1) := Lib.hid (by rw [atL_length]; exact more_len l k hkt)
    have AL := Lib.hid (atL_length (startS top) l)
    generalize atL (startS top) (moreL l k) = zs at *
    generalize atL (startS top) l = ys at *
    go_cut [86] from 55 to 86 (fun v wx => v = .bool false ∧ Below u3.heap.size u3 wx)
    case first =>
      clear EX MR S3 HOK B2
      have LZ1 : Hid ((i64s (zs.take k)).length = k * 1) := Lib.hid (by rw [i64s_length, List.length_take, ZL.out]; omega)
      have LZ2 : Hid ((i64s (zs.drop (k + 1))).length = (l.length - k) * 1) := Lib.hid (by rw [i64s_length, List.length_drop, ZL.out]; omega)
      have EQ : Hid (i64s (zs.take k) ++ i64s (zs.drop (k + 1)) = i64s ys) := Lib.hid (by rw [← MA.out]; simp [i64s])
      have TK : Hid (∀ (w : World), Below u3.heap.size u3 w → Row w u3.heap.size (some ⟨gz, 0, none⟩) (i64s (zs.take k))) := Lib.hid (fun w hw => by
        have h := (Z.out.below hw).take k
        rwa [show (i64s zs).take k = i64s (zs.take k) by simp [i64s]] at h)
      have YY : Hid (∀ (w : World), Below u3.heap.size u3 w → Row w u3.heap.size A7 (i64s ys)) := Lib.hid (fun w hw => Y.out.below hw)
      have hkz : (k : Int) + 1 ≤ l.length + 1 := by omega
      have hkz2 : k ≤ c8 := by omega
      have hkz3 : k + 1 ≤ c8 := by omega
      have hkz4 : k ≤ l.length + 1 := by omega
      by_cases hck : c8 = k + 1
      · have hkl : k = l.length := by omega
        subst hck
        have DR : Hid (∀ (w : World), Below u3.heap.size u3 w → Row w u3.heap.size (some ⟨gz, 0, none⟩) (i64s (zs.drop (k + 1)))) := Lib.hid (fun w hw => by
          have h := LZ2.out
          rw [show (l.length - k) * 1 = 0 by omega] at h
          rw [List.eq_nil_of_length_eq_zero h]; exact Row.nil _ _ _)
        have LZ0 : Hid ((i64s (zs.drop (k + 1))).length = 0 * 1) := Lib.hid (by rw [LZ2.out]; omega)
        clear Z hkl
        refine region_laneP [] [0, 1, 2, 3, 4, 5, 6, 7, 8, 9, 10, 11, 12, 13, 14, 15, 16, 17] [19, 20, 21, 23, 24, 25, 26, 28] [18, 22, 27, 29, 30, 31] (by kernel_rfl) (by kernel_rfl) (by intro _ _ _ _ _ h; exact h) ?_
        simp only [pick, List.map_cons, List.map_nil, List.getD_cons_zero, List.getD_cons_succ, List.drop_succ_cons, List.drop_zero]
        refine wpQuiet_nil ⟨rfl, ?_⟩
        refine laneO_run 1 (by kernel_rfl) ?_
        simp only [List.take_succ_cons, List.take_zero, List.drop_succ_cons, List.drop_zero]
        repeat (go_big_quiet_step (fail))
        refine wpQuiet_nil ?_
        refine laneO_fixed (v := .int .i64 (l.length)) (by kernel_rfl) (fun w hw => .inl ⟨by rfl, ?_⟩) ?_
        focus (unfold gives; simp [go_sem]; exact Behind.refl w)
        simp only [Act.put, List.setIfInBounds_toArray, List.set_cons_zero, List.set_cons_succ]
        refine laneO_run 1 (by kernel_rfl) ?_
        simp only [List.take_succ_cons, List.take_zero, List.drop_succ_cons, List.drop_zero]
        repeat (go_big_quiet_step (fail))
        refine wpQuiet_nil ?_
        refine laneO_fixed (v := .int .i64 (l.length)) (by kernel_rfl) (fun w hw => .inl ⟨by rfl, ?_⟩) ?_
        focus (unfold gives; simp [go_sem]; exact Behind.refl w)
        simp only [Act.put, List.setIfInBounds_toArray, List.set_cons_zero, List.set_cons_succ]
        refine laneO_run 3 (by kernel_rfl) ?_
        simp only [List.take_succ_cons, List.take_zero, List.drop_succ_cons, List.drop_zero]
        repeat (go_big_quiet_step (fail))
        refine wpQuiet_nil ?_
        refine laneO_fixed (v := .int .i64 ((l.length : Int) + 1)) (by kernel_rfl) (fun w hw => .inl ⟨by rfl, ?_⟩) ?_
        focus (unfold gives; simp [go_sem]; exact Behind.refl w)
        simp only [Act.put, List.setIfInBounds_toArray, List.set_cons_zero, List.set_cons_succ]
        refine laneO_run 1 (by kernel_rfl) ?_
        simp only [List.take_succ_cons, List.take_zero, List.drop_succ_cons, List.drop_zero]
        repeat (go_big_quiet_step (fail))
        refine wpQuiet_nil ?_
        refine laneO_fixed (v := .int .i64 ((l.length : Int) + 1)) (by kernel_rfl) (fun w hw => .inl ⟨by rfl, ?_⟩) ?_
        focus (unfold gives; simp [go_sem]; exact Behind.refl w)
        simp only [Act.put, List.setIfInBounds_toArray, List.set_cons_zero, List.set_cons_succ]
        refine laneO_run 3 (by kernel_rfl) ?_
        simp only [List.take_succ_cons, List.take_zero, List.drop_succ_cons, List.drop_zero]
        repeat (go_big_quiet_step (fail))
        refine wpQuiet_nil ?_
        refine laneO_fixed (v := .agg #[.int .i64 tp, .int .i64 tq, .int .i64 bp, .int .i64 bq, .bool th, .int .i64 h]) (by kernel_rfl) (fun w hw => .inl ⟨by rfl, cells_gives sd_flat (.tmp 12) rfl _ rfl [.int .i64 tp, .int .i64 tq, .int .i64 bp, .int .i64 bq, .bool th, .int .i64 h] rfl 31 (V1.out.under hw V1.out.size)⟩) ?_
        simp only [Act.put, List.setIfInBounds_toArray, List.set_cons_zero, List.set_cons_succ]
        refine laneO_fixed (v := .agg #[.int .i64 tp, .int .i64 tq, .int .i64 bp, .int .i64 bq, .bool th, .int .i64 h]) (by kernel_rfl) (fun w hw => .inl ⟨by rfl, cells_gives sd_flat (.tmp 14) rfl _ rfl [.int .i64 tp, .int .i64 tq, .int .i64 bp, .int .i64 bq, .bool th, .int .i64 h] rfl 31 (V2.out.under hw V2.out.size)⟩) ?_
        simp only [Act.put, List.setIfInBounds_toArray, List.set_cons_zero, List.set_cons_succ]
        refine laneO_run 3 (by kernel_rfl) ?_
        simp only [List.take_succ_cons, List.take_zero, List.drop_succ_cons, List.drop_zero]
        repeat (go_big_quiet_step (fail))
        refine wpQuiet_nil ?_
        refine laneP_end0 rfl rfl fun w4 hb4 => ?_
        repeat (go_big_quiet_step (fail))
        refine wpQuiet_nil ?_
        have E0 := Lib.hid (own_none (size := 1) (Whole.mk w4 2 #[]) (Nat.le_refl _))
        have B4 := Lib.hid ((show Below u3.heap.size u3 w4 from hb4).alloc hb4.size (.cells #[] 2))
        have z4 : w4.heap.size ≤ (w4.alloc (.cells #[] 2)).heap.size := by simp
        clear V1 V2
        go_wp2_with (first
          | (at_builtin; refine wpList_push_all (by rfl) (.tmp 73) (.tmp 76) _ rfl w4.heap.size 2 1 8 (.int .i64 0) Try.underlying29 i64cell_info rfl (by decide) 0 0 (some ⟨w4.heap.size, 0, none⟩) [] rfl E0.out _ k _ (some ⟨gz, 0, none⟩) (i64s (zs.take k)) rfl (fun h => by cases h) LZ1.out (TK.out _ B4.out) (i64s_one _) (by unfold maxLen; omega) (by omega) z4 ?_; rw [Nat.zero_add, List.nil_append]; intro A9 c9 w5 o5 hb5; have O5 := Lib.hid o5; have B5 := Lib.hid (B4.out.trans (hb5.mono hb4.size)); have z5 := Nat.le_trans z4 hb5.size; clear o5 hb5 B4 E0 TK)
          | (at_builtin; refine wpList_push_all (by rfl) (.tmp 77) (.tmp 81) _ rfl w4.heap.size 2 1 8 (.int .i64 0) Try.underlying29 i64cell_info rfl (by decide) k c9 A9 _ rfl O5.out _ 0 _ (some ⟨gz, 0, none⟩) (i64s (zs.drop (k + 1))) rfl (fun h => by cases h) LZ0.out (DR.out _ B5.out) (i64s_one _) (by unfold maxLen; omega) (by omega) z5 ?_; rw [EQ.out, show k + 0 = l.length by omega]; intro A10 c10 w6 o6 hb6; have O6 := Lib.hid o6; have B6 := Lib.hid (B5.out.trans (hb6.mono (by have := hb4.size; omega))); clear o6 hb6 B5 DR O5))
        refine (ksame_any _ _ _ _ l.length ys _ _ _ (row_of_own O6.out) (YY.out _ B6.out) AL.out (by omega)).mono ?_
        rintro e w7 ⟨rfl, q, rfl⟩
        have B7 := Lib.hid (Below.drewN' B6.out q)
        clear O6 B6
        go_wp2_with fail
        go_meet
        exact ⟨rfl, B7.out⟩
      · have DR : Hid (∀ (w : World), Below u3.heap.size u3 w → Row w u3.heap.size (some ⟨gz, k + 1, none⟩) (i64s (zs.drop (k + 1)))) := Lib.hid (fun w hw => by
          have h := (Z.out.below hw).drop (k + 1)
          rw [head_add] at h
          rwa [show (i64s zs).drop (k + 1) = i64s (zs.drop (k + 1)) by simp [i64s]] at h)
        clear Z
        refine region_laneP [] [0, 1, 2, 3, 4, 5, 6, 7, 8, 9, 10, 11, 12, 13, 14, 15, 16, 17] [19, 20, 21, 23, 24, 25, 26, 28] [18, 22, 27, 29, 30, 31] (by kernel_rfl) (by kernel_rfl) (by intro _ _ _ _ _ h; exact h) ?_
        simp only [pick, List.map_cons, List.map_nil, List.getD_cons_zero, List.getD_cons_succ, List.drop_succ_cons, List.drop_zero]
        refine wpQuiet_nil ⟨rfl, ?_⟩
        refine laneO_run 1 (by kernel_rfl) ?_
        simp only [List.take_succ_cons, List.take_zero, List.drop_succ_cons, List.drop_zero]
        repeat (go_big_quiet_step (fail))
        refine wpQuiet_nil ?_
        refine laneO_fixed (v := .int .i64 (l.length)) (by kernel_rfl) (fun w hw => .inl ⟨by rfl, ?_⟩) ?_
        focus (unfold gives; simp [go_sem]; exact Behind.refl w)
        simp only [Act.put, List.setIfInBounds_toArray, List.set_cons_zero, List.set_cons_succ]
        refine laneO_run 1 (by kernel_rfl) ?_
        simp only [List.take_succ_cons, List.take_zero, List.drop_succ_cons, List.drop_zero]
        repeat (go_big_quiet_step (fail))
        refine wpQuiet_nil ?_
        refine laneO_fixed (v := .int .i64 (l.length)) (by kernel_rfl) (fun w hw => .inl ⟨by rfl, ?_⟩) ?_
        focus (unfold gives; simp [go_sem]; exact Behind.refl w)
        simp only [Act.put, List.setIfInBounds_toArray, List.set_cons_zero, List.set_cons_succ]
        refine laneO_run 3 (by kernel_rfl) ?_
        simp only [List.take_succ_cons, List.take_zero, List.drop_succ_cons, List.drop_zero]
        repeat (go_big_quiet_step (fail))
        refine wpQuiet_nil ?_
        refine laneO_fixed (v := .int .i64 ((l.length : Int) + 1)) (by kernel_rfl) (fun w hw => .inl ⟨by rfl, ?_⟩) ?_
        focus (unfold gives; simp [go_sem]; exact Behind.refl w)
        simp only [Act.put, List.setIfInBounds_toArray, List.set_cons_zero, List.set_cons_succ]
        refine laneO_run 1 (by kernel_rfl) ?_
        simp only [List.take_succ_cons, List.take_zero, List.drop_succ_cons, List.drop_zero]
        repeat (go_big_quiet_step (fail))
        refine wpQuiet_nil ?_
        refine laneO_fixed (v := .int .i64 ((l.length : Int) + 1)) (by kernel_rfl) (fun w hw => .inl ⟨by rfl, ?_⟩) ?_
        focus (unfold gives; simp [go_sem]; exact Behind.refl w)
        simp only [Act.put, List.setIfInBounds_toArray, List.set_cons_zero, List.set_cons_succ]
        refine laneO_run 3 (by kernel_rfl) ?_
        simp only [List.take_succ_cons, List.take_zero, List.drop_succ_cons, List.drop_zero]
        repeat (go_big_quiet_step (fail))
        refine wpQuiet_nil ?_
        refine laneO_fixed (v := .agg #[.int .i64 tp, .int .i64 tq, .int .i64 bp, .int .i64 bq, .bool th, .int .i64 h]) (by kernel_rfl) (fun w hw => .inl ⟨by rfl, cells_gives sd_flat (.tmp 12) rfl _ rfl [.int .i64 tp, .int .i64 tq, .int .i64 bp, .int .i64 bq, .bool th, .int .i64 h] rfl 31 (V1.out.under hw V1.out.size)⟩) ?_
        simp only [Act.put, List.setIfInBounds_toArray, List.set_cons_zero, List.set_cons_succ]
        refine laneO_fixed (v := .agg #[.int .i64 tp, .int .i64 tq, .int .i64 bp, .int .i64 bq, .bool th, .int .i64 h]) (by kernel_rfl) (fun w hw => .inl ⟨by rfl, cells_gives sd_flat (.tmp 14) rfl _ rfl [.int .i64 tp, .int .i64 tq, .int .i64 bp, .int .i64 bq, .bool th, .int .i64 h] rfl 31 (V2.out.under hw V2.out.size)⟩) ?_
        simp only [Act.put, List.setIfInBounds_toArray, List.set_cons_zero, List.set_cons_succ]
        refine laneO_run 3 (by kernel_rfl) ?_
        simp only [List.take_succ_cons, List.take_zero, List.drop_succ_cons, List.drop_zero]
        repeat (go_big_quiet_step (fail))
        refine wpQuiet_nil ?_
        refine laneP_end0 rfl rfl fun w4 hb4 => ?_
        repeat (go_big_quiet_step (fail))
        refine wpQuiet_nil ?_
        have E0 := Lib.hid (own_none (size := 1) (Whole.mk w4 2 #[]) (Nat.le_refl _))
        have B4 := Lib.hid ((show Below u3.heap.size u3 w4 from hb4).alloc hb4.size (.cells #[] 2))
        have z4 : w4.heap.size ≤ (w4.alloc (.cells #[] 2)).heap.size := by simp
        clear V1 V2
        go_wp2_with (first
          | (at_builtin; refine wpList_push_all (by rfl) (.tmp 73) (.tmp 76) _ rfl w4.heap.size 2 1 8 (.int .i64 0) Try.underlying29 i64cell_info rfl (by decide) 0 0 (some ⟨w4.heap.size, 0, none⟩) [] rfl E0.out _ k _ (some ⟨gz, 0, none⟩) (i64s (zs.take k)) rfl (fun h => by cases h) LZ1.out (TK.out _ B4.out) (i64s_one _) (by unfold maxLen; omega) (by omega) z4 ?_; rw [Nat.zero_add, List.nil_append]; intro A9 c9 w5 o5 hb5; have O5 := Lib.hid o5; have B5 := Lib.hid (B4.out.trans (hb5.mono hb4.size)); have z5 := Nat.le_trans z4 hb5.size; clear o5 hb5 B4 E0 TK)
          | (at_builtin; refine wpList_push_all (by rfl) (.tmp 77) (.tmp 81) _ rfl w4.heap.size 2 1 8 (.int .i64 0) Try.underlying29 i64cell_info rfl (by decide) k c9 A9 _ rfl O5.out _ (l.length - k) _ (some ⟨gz, k + 1, none⟩) (i64s (zs.drop (k + 1))) rfl (fun h => by cases h) LZ2.out (DR.out _ B5.out) (i64s_one _) (by unfold maxLen; omega) (by omega) z5 ?_; rw [EQ.out, show k + (l.length - k) = l.length by omega]; intro A10 c10 w6 o6 hb6; have O6 := Lib.hid o6; have B6 := Lib.hid (B5.out.trans (hb6.mono (by have := hb4.size; omega))); clear o6 hb6 B5 DR O5))
        refine (ksame_any _ _ _ _ l.length ys _ _ _ (row_of_own O6.out) (YY.out _ B6.out) AL.out (by omega)).mono ?_
        rintro e w7 ⟨rfl, q, rfl⟩
        have B7 := Lib.hid (Below.drewN' B6.out q)
        clear O6 B6
        go_wp2_with fail
        go_meet
        exact ⟨rfl, B7.out⟩
    case rest =>
      obtain ⟨rfl, hbq⟩ := hcut
      have R2 := Lib.hid ((R.out.below hbq).more hbq.size)
      have B3 := Lib.hid (B2.out.trans (hbq.mono B2.out.size))
      clear R B2 hbq Y Z V1 V2 ZL AL MA MR EX hcap3
      go_upto_region 11 with fail
      have SB : Hid (∀ (k : Nat) (h : k < l.length), ((l.take (k + 1)).map bareLd).flatMap ldC = ((l.take k).map bareLd).flatMap ldC ++ ldC (bareLd l[k])) := Lib.hid (fun k h => by
        rw [List.take_succ_eq_append_getElem h, List.map_append, List.flatMap_append]; simp)
      go_loopw [16, 17] (fun v16 v17 wr => ∃ (j : Nat) (A9 : Option Addr) (c9 : Nat), j ≤ l.length ∧ v16 = .slice A9 j c9 ∧ v17 = .int .i64 j ∧ Hid (wr.ownsRow wc.heap.size 27 6 (.slice A9 j c9) j (((l.take j).map bareLd).flatMap ldC)) ∧ Hid (Below wc.heap.size wc wr)) (fun _ v17 _ => l.length - (intOf v17).toNat)
      case atStart => exact ⟨0, none, 0, Nat.zero_le _, rfl, rfl, Lib.hid ⟨rfl, .inl ⟨rfl, rfl⟩⟩, Lib.hid (Below.refl _ _)⟩
      case round =>
        obtain ⟨j, A9, c9, hj, rfl, rfl, O, HB⟩ := hrel
        by_cases hlt : j < l.length
        · have hji : (j : Int) < l.length := by omega
          obtain ⟨ad, rfl, hb, r0, -⟩ := (R2.out.below HB.out).ld hlt
          have ES := Lib.hid (SB.out j hlt)
          have EL : Hid (ldC (bareLd l[j]) = [.int .i64 l[j].h, .int .i64 0, .int .i64 0, .int .i64 0, .int .i64 0, .bool false]) := Lib.hid rfl
          rw [EL.out] at ES
          generalize l[j].h = y at *
          clear EL
          have hz := HB.out.size
          have H3 := Lib.hid (Whole.mk wr 27 #[.int .i64 y, .int .i64 0, .int .i64 0, .int .i64 0, .int .i64 0, .bool false])
          have O3 := Lib.hid (own_below O.out ((Below.refl _ wr).alloc (Nat.le_refl _) (.cells #[.int .i64 y, .int .i64 0, .int .i64 0, .int .i64 0, .int .i64 0, .bool false] 27)) (Nat.le_refl _))
          have B5 := Lib.hid (HB.out.alloc hz (.cells #[.int .i64 y, .int .i64 0, .int .i64 0, .int .i64 0, .int .i64 0, .bool false] 27))
          clear O HB
          go_upto_region 12 with (at_builtin; refine wpList_pushOne rfl (.tmp 93) (.tmp 100) _ rfl wc.heap.size 27 6 48 ldV0 Try.underlying22 ld_info rfl (by decide) j (.slice A9 j c9) _ rfl O3.out B5.out.size wr.heap.size [.int .i64 y, .int .i64 0, .int .i64 0, .int .i64 0, .int .i64 0, .bool false] rfl H3.out rfl (by simp [Value.oneCell']) (by unfold maxLen; omega) (by omega) ?_; intro A5 c5 w5 o5 h5 k5)
          have B6 := Lib.hid (B5.out.trans (h5.below (B := wc.heap.size) (fun x hx => (O3.out.lt x (by simpa using hx)).1) B5.out.size))
          have O5 := Lib.hid o5
          clear o5 h5 k5 O3 B5 H3 r0
          go_wp2_with fail
          go_roundw
          case rel => exact ⟨j + 1, A5, c5, by omega, by go_num, by go_num, Lib.hid (by rw [ES.out]; exact O5.out), B6⟩
          case measure => simp [intOf]; omega
        · have hq : j = l.length := by omega
          subst hq
          rw [List.take_length] at O
          have M := Lib.hid (row_of_own O.out)
          have B2 := Lib.hid (B3.out.trans (HB.out.mono B3.out.size))
          obtain ⟨th2, EB⟩ := bare_end top bottom l HOK.out
          rw [EB, List.length_map] at S3
          simp only [zF] at S3
          clear EB O HB B3 R2 hlt hj SB
          go_wp2_with fail
          refine (S3.out _ _ _ M.out).mono ?_
          rintro e w9 ⟨A11, c11, rfl, o, hb⟩
          have BN := Lib.hid ((B2.out.trans (hb.mono B2.out.size)).alloc (by have := hb.size; have := B2.out.size; omega) (.cells #[.int .i64 0, .int .i64 0, .int .i64 0, .int .i64 0, .bool th2, .int .i64 (sumH l)] 31))
          have MN := Lib.hid ((((M.out.below hb).more hb.size).below (w' := w9.alloc (.cells #[.int .i64 0, .int .i64 0, .int .i64 0, .int .i64 0, .bool th2, .int .i64 (sumH l)] 31)) ((Below.refl _ w9).alloc (Nat.le_refl _) _)).more (B' := (w9.alloc (.cells #[.int .i64 0, .int .i64 0, .int .i64 0, .int .i64 0, .bool th2, .int .i64 (sumH l)] 31)).heap.size) (by simp))
          have X := Lib.hid (((row_of_own o).below ((Below.refl _ w9).alloc (Nat.le_refl _) (.cells #[.int .i64 0, .int .i64 0, .int .i64 0, .int .i64 0, .bool th2, .int .i64 (sumH l)] 31))).more (B' := (w9.alloc (.cells #[.int .i64 0, .int .i64 0, .int .i64 0, .int .i64 0, .bool th2, .int .i64 (sumH l)] 31)).heap.size) (by simp))
          have V1 := Lib.hid (Whole.mk w9 31 #[.int .i64 0, .int .i64 0, .int .i64 0, .int .i64 0, .bool th2, .int .i64 (sumH l)])
          clear o hb B2 M 
          have B2 := BN
          clear BN
          have M := MN
          clear MN
          clear S3
          go_upto_region 18 with fail
          generalize w9.alloc _ = u9 at *
          generalize w9.heap.size = g3 at *
          have XL : Hid ((atL (startS top) (l.map bareLd)).length = l.length) := Lib.hid (by rw [atL_length, List.length_map])
          have XA := Lib.hid (bare_at top l)
          have SN := Lib.hid (sumH_nonneg l HOK.out)
          generalize atL (startS top) (l.map bareLd) = xs at *
          go_loopw [15, 20] (fun v15 v20 wr => ∃ j : Nat, j ≤ l.length ∧ v15 = .int .i64 (sumH (l.take j)) ∧ v20 = .int .i64 j ∧ Hid (Below u9.heap.size u9 wr)) (fun _ v20 _ => l.length - (intOf v20).toNat)
          case atStart => exact ⟨0, Nat.zero_le _, rfl, rfl, Lib.hid (Below.refl _ _)⟩
          case round =>
            obtain ⟨j, hj, rfl, rfl, HB⟩ := hrel
            by_cases hlt : j < l.length
            · have hji : (j : Int) < l.length := by omega
              have hxl : j < xs.length := by rw [XL.out]; exact hlt
              have EX := Lib.hid (XA.out j hxl)
              have ES := Lib.hid (sumH_take l j hlt)
              have b1 := SN.out j (by omega)
              have b2 := SN.out (j + 1) (by omega)
              obtain ⟨ad, rfl, hb, hc⟩ := (X.out.below HB.out).int hxl
              obtain ⟨ae, rfl, hbe, r0, -⟩ := (M.out.below HB.out).ld (i := j) (by rw [List.length_map]; exact hlt)
              rw [show ((l.map bareLd)[j]'(by rw [List.length_map]; exact hlt)).h = l[j].h by simp [bareLd]] at r0
              rw [EX.out] at hc
              rw [ES.out] at b2
              generalize l[j].h = y at *
              generalize sumH (l.take j) = z at *
              have v1 : -9223372036854775808 ≤ z + y := by omega
              have v2 : z + y < 9223372036854775808 := by omega
              clear EX b1 b2
              go_wp2_with fail
              go_roundw
              case rel => exact ⟨j + 1, by omega, by rw [ES.out], by go_num, HB⟩
              case measure => simp [intOf]; omega
            · have hq : j = l.length := by omega
              subst hq
              rw [List.take_length]
              have V3 := Lib.hid (V1.out.under HB.out V1.out.size)
              have B4 := Lib.hid (B2.out.trans (HB.out.mono B2.out.size))
              generalize sumH l = sm at *
              have t0 : wr.cell? ⟨g3, 0, none⟩ = some (.int .i64 0) := V3.out.cell 0
              have t1 : wr.cell? ⟨g3, 1, none⟩ = some (.int .i64 0) := V3.out.cell 1
              have t2 : wr.cell? ⟨g3, 2, none⟩ = some (.int .i64 0) := V3.out.cell 2
              have t3 : wr.cell? ⟨g3, 3, none⟩ = some (.int .i64 0) := V3.out.cell 3
              have t5 : wr.cell? ⟨g3, 5, none⟩ = some (.int .i64 sm) := V3.out.cell 5
              clear V1 V3 B2 HB X M XA XL SN HOK
              go_wp2_with fail
              refine (kawake_any _).mono ?_
              rintro e w11 ⟨rfl, hb⟩
              have B5 := Lib.hid (B4.out.trans (hb.mono B4.out.size))
              clear hb B4 t0 t1 t2 t3 t5
              go_wp2_with fail
              go_ret
              exact ⟨rfl, B5.out⟩
end Go.Proofs.Ytnhhalhaefeoeaa
