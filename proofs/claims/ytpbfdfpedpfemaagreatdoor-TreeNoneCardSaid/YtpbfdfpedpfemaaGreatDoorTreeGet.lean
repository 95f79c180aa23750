import Derived.Test.YtpbfdfpedpfemaaGreatDoorNodesGive
/- tree: Has, Parent, Len, Kids, New, IsFull; Below, Deep. -/
namespace Go.Proofs.YtpbfdfpedpfemaaGreatDoor
open Go Go.RowKit
set_option linter.unusedVariables false
set_option linter.unusedSimpArgs false
set_option maxRecDepth 20000
set_option maxHeartbeats 4000000

theorem held_t (t : Nat) (W : World) : Calls Tryz.prog 35 #[.pointer (some ⟨t, 0, none⟩)] W fun e w' => e = .returned (.pointer (some ⟨t, 0, none⟩)) ∧ W = w' := by
  go_enter Tryz.func35, Tryz.ntmps35
  go_wp2
  go_ret
  exact ⟨rfl, rfl⟩
theorem thas_any {W : World} {base t : Nat} {most : Int} {L : List Nd} (hT : Tree W base t most L) {id : Int} (hi : In64i id) :
    Calls Tryz.prog 18 #[.pointer (some ⟨t, 0, none⟩), .int .i64 id] W fun e w' => e = .returned (.bool (hasZ L id)) ∧ W = w' := by
  have H := Lib.hid (nhas_any hT hi)
  clear hT
  go_enter Tryz.func18, Tryz.ntmps18
  go_wp2_with fail
  refine (held_t t W).mono ?_
  rintro e w' ⟨rfl, rfl⟩
  go_wp2_with fail
  refine H.out.mono ?_
  rintro e w' ⟨rfl, rfl⟩
  go_wp2
  go_ret
  exact ⟨rfl, rfl⟩
theorem tparent_any {W : World} {base t : Nat} {most : Int} {L : List Nd} (hT : Tree W base t most L) {id : Int} (hi : In64i id) :
    Calls Tryz.prog 11 #[.pointer (some ⟨t, 0, none⟩), .int .i64 id] W fun e w' => e = .returned (.int .i64 (parZ L id)) ∧ W = w' := by
  have H := Lib.hid (nparent_any hT hi)
  clear hT
  go_enter Tryz.func11, Tryz.ntmps11
  go_wp2_with fail
  refine (held_t t W).mono ?_
  rintro e w' ⟨rfl, rfl⟩
  go_wp2_with fail
  refine H.out.mono ?_
  rintro e w' ⟨rfl, rfl⟩
  go_wp2
  go_ret
  exact ⟨rfl, rfl⟩
theorem tlen_any {W : World} {base t : Nat} {most : Int} {L : List Nd} (hT : Tree W base t most L) :
    Calls Tryz.prog 14 #[.pointer (some ⟨t, 0, none⟩)] W fun e w' => e = .returned (.int .i64 L.length) ∧ W = w' := by
  have H := Lib.hid (nlen_any hT)
  clear hT
  go_enter Tryz.func14, Tryz.ntmps14
  go_wp2_with fail
  refine (held_t t W).mono ?_
  rintro e w' ⟨rfl, rfl⟩
  go_wp2_with fail
  refine H.out.mono ?_
  rintro e w' ⟨rfl, rfl⟩
  go_wp2
  go_ret
  exact ⟨rfl, rfl⟩
theorem tkids_any {W : World} {base t : Nat} {most : Int} {L : List Nd} (hT : Tree W base t most L) {id : Int} (hi : In64i id) (h0 : 0 ≤ id) (hL : L.length ≤ 1000) :
    Calls Tryz.prog 10 #[.pointer (some ⟨t, 0, none⟩), .int .i64 id] W fun e w' => ∃ v, e = .returned v ∧ IdsOwn w' W.heap.size v (kidsZ L id) ∧ Below W.heap.size W w' := by
  have H := Lib.hid (nkids_any hT hi h0 hL)
  clear hT
  go_enter Tryz.func10, Tryz.ntmps10
  go_wp2_with fail
  refine (held_t t W).mono ?_
  rintro e w' ⟨rfl, rfl⟩
  go_wp2_with fail
  refine H.out.mono ?_
  rintro e w' ⟨v, rfl, h1, h2⟩
  have P := Lib.hid (And.intro h1 h2)
  clear h1 h2
  go_wp2
  go_ret
  exact ⟨v, rfl, P.out.1, P.out.2⟩
theorem tnew_any (most : Int) (W : World) :
    Calls Tryz.prog 17 #[.int .i64 most] W fun e w' => ∃ t, e = .returned (.pointer (some ⟨t, 0, none⟩)) ∧ Tree w' W.heap.size t (mostZ most) [root0] ∧ Below W.heap.size W w' := by
  go_enter Tryz.func17, Tryz.ntmps17
  go_wp2_with fail
  refine (nnew_any most W).mono ?_
  rintro e w' ⟨t, rfl, h1, h2⟩
  have P := Lib.hid (And.intro h1 h2)
  clear h1 h2
  go_wp2
  go_ret
  exact ⟨t, rfl, P.out.1, P.out.2⟩
theorem nfull_any {W : World} {base t : Nat} {most : Int} {L : List Nd} (hT : Tree W base t most L) :
    Calls Tryz.prog 37 #[.pointer (some ⟨t, 0, none⟩)] W fun e w' => e = .returned (.bool (decide (most ≤ L.length))) ∧ Below W.heap.size W w' := by
  have HT := Lib.hid hT
  obtain ⟨b, f, sv, kv, h⟩ := hT
  have D := Lib.hid h.hd
  clear h
  go_enter Tryz.func37, Tryz.ntmps37
  go_upto_region 1 with fail
  have HB := Lib.hid (fun w (hb : Behind W w) => nlen_any (HT.out.behind hb))
  have y0 : ∀ x : Later W.heap.size W, x.w.cell? ⟨t, 0, none⟩ = some (.int .i64 most) := fun x => (D.out.under x.h D.out.size).cell 0
  refine region_lane [] [0, 1, 2, 3, 4, 5, 6] [7] (by kernel_rfl) (by kernel_rfl) (fun _ _ _ _ _ h => h) ?_
  simp only [pick, List.map_nil]
  refine wpQuiet_nil ⟨rfl, ?_⟩
  simp only [List.map_cons, List.map_nil, List.getD_cons_zero, List.getD_cons_succ, List.drop_succ_cons, List.drop_zero]
  refine laneO_run 1 (by kernel_rfl) ?_
  simp only [List.take_succ_cons, List.take_zero, List.drop_succ_cons, List.drop_zero]
  repeat (go_big_quiet_step (fail))
  refine wpQuiet_nil ?_
  refine laneO_call (v := (.int .i64 L.length)) (by kernel_rfl) (by rfl) (fun C hC h0 => ?_) ?_
  focus (go_big_quiet_op; exact ⟨_, fun w hw => (HB.out w (h0 w hw)).mono fun e w' ⟨he, hb⟩ => ⟨he, hb ▸ hw⟩, rfl⟩)
  simp only [Act.put, List.setIfInBounds_toArray, List.set_cons_zero, List.set_cons_succ]
  refine laneO_run 5 (by kernel_rfl) ?_
  simp only [List.take_succ_cons, List.take_zero, List.drop_succ_cons, List.drop_zero]
  repeat (go_big_quiet_step (fail))
  refine wpQuiet_nil ?_
  refine laneO_end0 rfl rfl fun w1 hb1 => ?_
  clear y0 HB
  go_wp2
  go_ret
  exact ⟨rfl, hb1⟩
/-- How far up it goes. -/
def upZ (L : List Nd) (x : Int) : Nat := if hasZ L x = true then rkZ L x + 2 else if x = -1 then 0 else 1
theorem TreeOk.up_less {L : List Nd} (h : TreeOk L) {x : Int} (hx : x ≠ -1) : upZ L (parZ L x) < upZ L x := by
  unfold upZ
  by_cases hh : hasZ L x = true
  · rw [if_pos hh]
    rcases (h.step hh).2 with ⟨e1, e2⟩ | ⟨e1, e2⟩
    · rw [e2, if_neg (by rw [h.not_nobody (by omega)]; decide), if_pos rfl]; omega
    · rw [if_pos e1]; omega
  · rw [if_neg hh, if_neg hx, par_no (by simpa using hh), if_neg (by rw [h.not_nobody (by omega)]; decide), if_pos rfl]; omega
theorem TreeOk.par_in {L : List Nd} (h : TreeOk L) (x : Int) : -1 ≤ parZ L x ∧ parZ L x ≤ 1000 := by
  by_cases hh : hasZ L x = true
  · rcases (h.step hh).2 with ⟨e1, e2⟩ | ⟨e1, e2⟩
    · omega
    · obtain ⟨m, hm, e⟩ := has_iff.1 e1
      have := h.rng m hm
      omega
  · rw [par_no (by simpa using hh)]; omega
theorem Tree.ok {W : World} {base t : Nat} {most : Int} {L : List Nd} (hT : Tree W base t most L) : TreeOk L := by
  obtain ⟨b, f, sv, kv, h⟩ := hT
  exact h.ok
theorem tbelow_any {W : World} {base t : Nat} {most : Int} {L : List Nd} (hT : Tree W base t most L) {id of_ : Int} (hi : In64i id) (ho : In64i of_) :
    Calls Tryz.prog 13 #[.pointer (some ⟨t, 0, none⟩), .int .i64 id, .int .i64 of_] W fun e w' => e = .returned (.bool (belowZ L id of_)) ∧ W = w' := by
  have OK := Lib.hid hT.ok
  have HH := Lib.hid (thas_any hT ho)
  have HP := Lib.hid (fun (x : Int) (hx : In64i x) => tparent_any hT hx)
  have HI := Lib.hid hi
  clear hT hi ho
  by_cases hh : hasZ L of_ = true
  · rw [hh] at HH
    have h0 : 0 ≤ of_ := by
      obtain ⟨m, hm, e⟩ := has_iff.1 hh
      have := OK.out.rng m hm
      omega
    have HB := Lib.hid hh
    clear hh
    go_enter Tryz.func13, Tryz.ntmps13
    go_wp2_with fail
    refine HH.out.mono ?_
    rintro e w' ⟨rfl, rfl⟩
    go_wp2_with fail
    go_loopw [1] (fun v1 wr => ∃ x : Int, v1 = .int .i64 x ∧ Hid (belowZ L x of_ = belowZ L id of_) ∧ Hid (In64i x) ∧ wr = W) (fun v1 _ => upZ L (intOf v1))
    case atStart => exact ⟨id, rfl, Lib.hid rfl, HI, rfl⟩
    case round =>
      obtain ⟨x, rfl, hb, hx, rfl⟩ := hrel
      by_cases h1 : x = of_
      · subst h1
        have e : belowZ L id x = true := by rw [← hb.out]; exact below_self HB.out
        go_wp2_with fail
        go_ret
        exact ⟨ret_bool e.symm, rfl⟩
      · have b1 : (x == of_) = false := by rw [beq_eq_false_iff_ne]; exact h1
        by_cases h2 : x = -1
        · subst h2
          have e : belowZ L id of_ = false := by rw [← hb.out]; exact OK.out.below_nobody HB.out
          have b3 : ((-1 : Int) == of_) = false := b1
          go_wp2_with fail
          go_ret
          exact ⟨ret_bool e.symm, rfl⟩
        · have b2 : (x == -1) = false := by rw [beq_eq_false_iff_ne]; exact h2
          have b4 : (x != of_) = true := by simp [h1]
          have b5 : (x != -1) = true := by simp [h2]
          have hb2 := Lib.hid ((OK.out.below_step HB.out h1).symm.trans hb.out)
          have hx2 := Lib.hid (show In64i (parZ L x) by have := OK.out.par_in x; unfold In64i; omega)
          have hm := Lib.hid (OK.out.up_less h2)
          go_wp2_with fail
          refine (HP.out x hx.out).mono ?_
          rintro e w' ⟨rfl, rfl⟩
          go_wp2_with fail
          go_roundw
          case rel => exact ⟨_, rfl, hb2, hx2, by first | rfl | trivial⟩
          case measure => simpa [intOf] using hm.out
  · have hh : hasZ L of_ = false := by simpa using hh
    rw [hh] at HH
    have e : belowZ L id of_ = false := by unfold belowZ; rw [hh]; rfl
    rw [e]
    go_enter Tryz.func13, Tryz.ntmps13
    go_wp2_with fail
    refine HH.out.mono ?_
    rintro e w' ⟨rfl, rfl⟩
    go_wp2_with fail
    go_ret
    exact ⟨rfl, rfl⟩
theorem tdeep_any {W : World} {base t : Nat} {most : Int} {L : List Nd} (hT : Tree W base t most L) {id : Int} (hi : In64i id) (hL : L.length ≤ 1000) :
    Calls Tryz.prog 12 #[.pointer (some ⟨t, 0, none⟩), .int .i64 id] W fun e w' => e = .returned (.int .i64 (deepZ L id)) ∧ W = w' := by
  have OK := Lib.hid hT.ok
  have HH := Lib.hid (fun (x : Int) (hx : In64i x) => thas_any hT hx)
  have HP := Lib.hid (fun (x : Int) (hx : In64i x) => tparent_any hT hx)
  have HI := Lib.hid hi
  clear hT hi
  go_enter Tryz.func12, Tryz.ntmps12
  go_wp2
  go_loopw [1, 5] (fun v1 v5 wr => ∃ (x d : Int), v1 = .int .i64 x ∧ v5 = .int .i64 d ∧ Hid (deepZ L id = d + 1 + deepZ L x) ∧ (-1 ≤ d ∧ d + (if hasZ L x = true then rkZ L x + 1 else 0 : Nat) ≤ 1000) ∧ Hid (In64i x) ∧ wr = W) (fun v1 _ _ => upZ L (intOf v1))
  case atStart =>
    refine ⟨id, -1, rfl, rfl, Lib.hid (by omega), ⟨by omega, ?_⟩, HI, rfl⟩
    split
    · rename_i hh
      have := (OK.out.step hh).1
      omega
    · omega
  case round =>
    obtain ⟨x, d, rfl, rfl, hd, ⟨hd1, hd2⟩, hx, rfl⟩ := hrel
    by_cases hh : hasZ L x = true
    · have F1 := Lib.hid (HH.out x hx.out)
      rw [hh] at F1
      rw [if_pos hh] at hd2
      have hne : x ≠ -1 := fun e => by subst e; rw [OK.out.not_nobody (by omega)] at hh; cases hh
      have hs := OK.out.step hh
      have hd3 := Lib.hid (show deepZ L id = d + 1 + 1 + deepZ L (parZ L x) by rw [hd.out, OK.out.deep_has hh]; omega)
      have hx2 := Lib.hid (show In64i (parZ L x) by have := OK.out.par_in x; unfold In64i; omega)
      have hm := Lib.hid (OK.out.up_less hne)
      have hd4 := Lib.hid (show -1 ≤ d + 1 ∧ d + 1 + (if hasZ L (parZ L x) = true then rkZ L (parZ L x) + 1 else 0 : Nat) ≤ 1000 by
        refine ⟨by omega, ?_⟩
        rcases hs.2 with ⟨e1, e2⟩ | ⟨e1, e2⟩
        · rw [e2, if_neg (by rw [OK.out.not_nobody (by omega)]; decide)]; omega
        · rw [if_pos e1]; omega)
      have hd5 : d ≤ 1000 := by omega
      clear hs hh hd2
      go_wp2_with fail
      refine F1.out.mono ?_
      rintro e w' ⟨rfl, rfl⟩
      go_wp2_with fail
      refine (HP.out x hx.out).mono ?_
      rintro e w' ⟨rfl, rfl⟩
      go_wp2_with fail
      go_roundw
      case rel => exact ⟨_, _, rfl, rfl, hd3, hd4.out, hx2, by first | rfl | trivial⟩
      case measure => simpa [intOf] using hm.out
    · have hh : hasZ L x = false := by simpa using hh
      have F1 := Lib.hid (HH.out x hx.out)
      rw [hh] at F1
      have e : deepZ L id = d := by rw [hd.out, deep_no hh]; omega
      clear hd2
      go_wp2_with fail
      refine F1.out.mono ?_
      rintro e w' ⟨rfl, rfl⟩
      go_wp2_with fail
      go_ret
      exact ⟨ret_int e.symm, rfl⟩
end Go.Proofs.YtpbfdfpedpfemaaGreatDoor
