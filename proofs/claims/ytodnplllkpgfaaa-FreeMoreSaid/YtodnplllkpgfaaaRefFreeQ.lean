import Derived.Test.YtodnplllkpgfaaaFlexMemQ
import Derived.Test.YtodnplllkpgfaaaZQ
import Derived.Test.YtodnplllkpgfaaaRefShareQ
/- quoinref9.Resolve. -/
namespace Go.Proofs.Ytodnplllkpgfaaa
open Go Go.RowKit
set_option linter.unusedVariables false
set_option linter.unusedSimpArgs false
set_option maxRecDepth 20000
set_option maxHeartbeats 8000000

theorem i64f_info : (Try.prog.info? 2).map (fun i => (i.zero, i.size, i.bytes)) = some (some (.int .i64 0), 1, 8) := by kernel_rfl
theorem boolf_info : (Try.prog.info? 4).map (fun i => (i.zero, i.size, i.bytes)) = some (some (.bool false), 1, 1) := by kernel_rfl
def inR (inner : Int) : Bool := decide (-8796093022208 ≤ inner) && decide (inner ≤ 36028797018963968)
def resF (inner : Int) (l : List Fx) : List Int := if okL l && inR inner then sizesF inner l else []
def ResPost (inner : Int) (l : List Fx) (W : World) (e : Ending) (w' : World) : Prop :=
  ∃ A c, e = .returned (.slice A (resF inner l).length c) ∧ w'.ownsRow W.heap.size 2 1 (.slice A (resF inner l).length c) (resF inner l).length (i64s (resF inner l)) ∧ Below W.heap.size W w'
def haS (l : List Fx) : Int := (l.map (fun x => hypF x + x.around)).sum
/-- The sizes, and what is frozen, at the beginning. -/
def stS (inner : Int) (l : List Fx) : List Value := l.map fun x => .int .i64 (hypF x)
def stF (inner : Int) (l : List Fx) : List Value := l.map fun x => .bool (startI (growsF inner l) x).fz
theorem haS_take (l : List Fx) (k : Nat) (h : k < l.length) : haS (l.take (k + 1)) = haS (l.take k) + hypF l[k] + l[k].around := by
  unfold haS
  rw [List.take_succ_eq_append_getElem h, List.map_append, List.sum_append]
  simp; omega
theorem haS_bd (l : List Fx) (h : ∀ x ∈ l, FxOk x) : -(8796093022208 * (l.length : Int)) ≤ haS l ∧ haS l ≤ 17592186044416 * (l.length : Int) :=
  ⟨sum_lo_by l fun x hx => by have := (h x hx).a0; have := hypF_bot x; have := botF_nn x; omega, sum_hi_by l fun x hx => by have := (h x hx).a1; have := hypF_hi (h x hx); omega⟩
theorem rfree_any (l : List Fx) (A : Option Addr) (c : Nat) (inner : Int) (W : World) (hR : Row W W.heap.size A (l.flatMap fxC)) (hm : l.length ≤ 9223372036854775807) :
    Calls Try.prog 15 #[.slice A l.length c, .int .i64 inner] W (ResPost inner l W) := by
  have HR := Lib.hid hR
  have OK := Lib.hid (rflexOk_any l A c W hR hm)
  clear hR
  cases hok : okL l && inR inner with
  | false =>
    have HRS : Hid (resF inner l = []) := Lib.hid (by unfold resF; rw [hok]; rfl)
    have none_ : ∀ w, Below W.heap.size W w → ResPost inner l W (.returned (.slice none 0 0)) w := fun w hw => by
      unfold ResPost
      rw [HRS.out]
      exact ⟨none, 0, rfl, ⟨rfl, .inl ⟨rfl, rfl⟩⟩, hw⟩
    have NO := Lib.hid none_
    clear none_
    go_enter Try.func15, Try.ntmps15
    go_wp2_with fail
    refine OK.out.mono ?_
    rintro e w1 ⟨rfl, hb1⟩
    have N1 := Lib.hid (NO.out w1 hb1)
    clear hb1 OK NO
    cases ho : okL l with
    | false =>
      go_wp2_with fail
      go_ret
      exact N1.out
    | true =>
      rw [ho, Bool.true_and] at hok
      unfold inR at hok
      by_cases h1 : inner < -8796093022208
      · go_wp2_with fail
        all_goals first | (go_ret; exact N1.out) | (exfalso; omega)
      · have h2 : inner > 36028797018963968 := by
          rw [Bool.and_eq_false_iff, decide_eq_false_iff_not, decide_eq_false_iff_not] at hok
          omega
        clear hok
        go_wp2_with fail
        all_goals first | (go_ret; exact N1.out) | (exfalso; omega)
  | true =>
    rw [Bool.and_eq_true] at hok
    obtain ⟨ho, hr⟩ := hok
    have HRS : Hid (resF inner l = sizesF inner l) := Lib.hid (by unfold resF; rw [ho, hr]; rfl)
    have hr2 : InRoom inner := by unfold inR at hr; rw [Bool.and_eq_true, decide_eq_true_eq, decide_eq_true_eq] at hr; exact ⟨hr.1, hr.2⟩
    have hl5 : l.length ≤ 500 := by unfold okL at ho; rw [Bool.and_eq_true, decide_eq_true_eq] at ho; exact ho.2
    have hfx : ∀ x ∈ l, FxOk x := fun x hx => by unfold okL at ho; rw [Bool.and_eq_true, List.all_eq_true] at ho; exact okF_iff.1 (ho.1 x hx)
    have HFX := Lib.hid hfx
    rw [ho] at OK
    have r1 := hr2.lo
    have r2 := hr2.hi
    have HIR := Lib.hid hr2
    clear ho hr hr2 hfx
    go_enter Try.func15, Try.ntmps15
    go_wp2_with fail
    refine OK.out.mono ?_
    rintro e w1 ⟨rfl, hb1⟩
    have B1 := Lib.hid hb1
    clear hb1 OK
    go_wp2_with fail
    go_loopw [6, 7] (fun v6 v7 wr => ∃ k : Nat, v6 = .int .i64 (haS (l.take k)) ∧ v7 = .int .i64 k ∧ k ≤ l.length ∧ Hid (Below W.heap.size W wr)) (fun _ v7 _ => l.length - (intOf v7).toNat)
    case atStart => exact ⟨0, rfl, rfl, Nat.zero_le _, B1⟩
    case round =>
      clear B1
      obtain ⟨k, rfl, rfl, hk, B⟩ := hrel
      by_cases hlt : k < l.length
      · as_aux_lemma =>
          have hltz : (k : Int) < l.length := by omega
          obtain ⟨ad, rfl, hb, d0, d1, d2, d3, d4, d5⟩ := Row.flex (HR.out.below B.out) hlt
          have TS := Lib.hid (haS_take l k hlt)
          have hx := HFX.out _ (List.getElem_mem hlt)
          have hbd := haS_bd (l.take k) (fun x hx => HFX.out x (List.mem_of_mem_take hx))
          rw [List.length_take] at hbd
          obtain ⟨x, hxe⟩ : ∃ x, l[k] = x := ⟨_, rfl⟩
          rw [hxe] at d0 d1 d2 d3 d4 d5 TS hx
          obtain ⟨s, hs⟩ : ∃ s, haS (l.take k) = s := ⟨_, rfl⟩
          rw [hs] at TS hbd ⊢
          have hy1 := hypF_hi hx
          have hy0 : 0 ≤ hypF x := by have := hypF_bot x; have := botF_nn x; omega
          have ha0 := hx.a0
          have ha1 := hx.a1
          have HY := Lib.hid (fun w => rhyp_any x w)
          clear hxe hs hx
          have hsz := B.out.size
          have hbl : (ad.add (k * 6)).block < wr.heap.size := by rw [add_block]; omega
          have c0 : ∀ t : Later wr.heap.size wr, t.w.cell? (ad.add (k * 6)) = some (.int .i64 x.base) := fun t => (t.h.cell (p := ad.add (k * 6)) hbl).trans d0
          have c1 : ∀ t : Later wr.heap.size wr, t.w.cell? ⟨(ad.add (k * 6)).block, (ad.add (k * 6)).off + 1, none⟩ = some (.int .i64 x.mn) := fun t => (t.h.cell (p := ⟨(ad.add (k * 6)).block, (ad.add (k * 6)).off + 1, none⟩) hbl).trans d1
          have c2 : ∀ t : Later wr.heap.size wr, t.w.cell? ⟨(ad.add (k * 6)).block, (ad.add (k * 6)).off + 2, none⟩ = some (.int .i64 x.mx) := fun t => (t.h.cell (p := ⟨(ad.add (k * 6)).block, (ad.add (k * 6)).off + 2, none⟩) hbl).trans d2
          have c3 : ∀ t : Later wr.heap.size wr, t.w.cell? ⟨(ad.add (k * 6)).block, (ad.add (k * 6)).off + 3, none⟩ = some (.int .i64 x.grow) := fun t => (t.h.cell (p := ⟨(ad.add (k * 6)).block, (ad.add (k * 6)).off + 3, none⟩) hbl).trans d3
          have c4 : ∀ t : Later wr.heap.size wr, t.w.cell? ⟨(ad.add (k * 6)).block, (ad.add (k * 6)).off + 4, none⟩ = some (.int .i64 x.shrink) := fun t => (t.h.cell (p := ⟨(ad.add (k * 6)).block, (ad.add (k * 6)).off + 4, none⟩) hbl).trans d4
          have c5 : ∀ t : Later wr.heap.size wr, t.w.cell? ⟨(ad.add (k * 6)).block, (ad.add (k * 6)).off + 5, none⟩ = some (.int .i64 x.around) := fun t => (t.h.cell (p := ⟨(ad.add (k * 6)).block, (ad.add (k * 6)).off + 5, none⟩) hbl).trans d5
          clear d0 d1 d2 d3 d4 d5
          have n1 : -9223372036854775808 ≤ s + hypF x ∧ s + hypF x ≤ 9223372036854775807 := by omega
          have n2 : -9223372036854775808 ≤ s + hypF x + x.around ∧ s + hypF x + x.around ≤ 9223372036854775807 := by omega
          go_upto_region 8 with fail
          refine region_lane [] (List.range 13) [13] (by kernel_rfl) (by kernel_rfl) (fun _ _ _ _ _ h => h) ?_
          simp only [pick, List.map_nil]
          refine wpQuiet_nil ⟨rfl, ?_⟩
          rw [show List.range 13 = [0, 1, 2, 3, 4, 5, 6, 7, 8, 9, 10, 11, 12] from rfl]
          simp only [List.map_cons, List.map_nil, List.getD_cons_zero, List.getD_cons_succ, List.drop_succ_cons, List.drop_zero]
          refine laneO_run 5 (by kernel_rfl) ?_
          simp only [List.take_succ_cons, List.take_zero, List.drop_succ_cons, List.drop_zero]
          repeat (go_big_quiet_step (fail))
          refine wpQuiet_nil ?_
          refine laneO_call (v := .int .i64 (hypF x)) (by kernel_rfl) (by rfl) (fun C hC h0 => ?_) ?_
          focus (go_big_quiet_op; exact ⟨_, fun w hw => (HY.out w).mono fun e w' ⟨he, hb⟩ => ⟨he, hC _ _ hw hb⟩, rfl⟩)
          simp only [Act.put, List.setIfInBounds_toArray, List.set_cons_zero, List.set_cons_succ]
          refine laneO_run 7 (by kernel_rfl) ?_
          simp only [List.take_succ_cons, List.take_zero, List.drop_succ_cons, List.drop_zero]
          repeat (go_big_quiet_step (fail))
          refine wpQuiet_nil ?_
          refine laneO_end0 rfl rfl fun w5 hb0 => ?_
          have B5 := Lib.hid (B.out.trans (hb0.mono hsz))
          clear c0 c1 c2 c3 c4 c5 B hb0
          go_wp2_with fail
          go_roundw
          case rel => exact ⟨k + 1, by rw [TS.out], by go_num, by omega, B5⟩
          case measure => simp [intOf] <;> omega
      · have hltz : ¬ (k : Int) < l.length := by omega
        obtain rfl : k = l.length := by omega
        rw [List.take_length]
        have hsz := B.out.size
        go_upto_region 10 with fail
        refine region_lane [0, 2] [1, 3, 4] [5] (by kernel_rfl) (by kernel_rfl) (by intro _ _ _ _ _ h; exact h) ?_
        simp only [pick, List.map_cons, List.map_nil, List.getD_cons_zero, List.getD_cons_succ, List.drop_succ_cons, List.drop_zero]
        repeat (go_big_quiet_step (fail))
        refine wpQuiet_nil ⟨rfl, ?_⟩
        refine laneO_told (mkT W.heap.size 2 1 l.length (madeCells (Value.int .i64 0).cells (l.length * 1)).toList) (mkT_steady _ _ _ _ _) (by kernel_rfl) rfl (fun w hw => .inl ⟨by rfl, gives_mk rfl 2 1 8 l.length (Value.int .i64 0) Try.underlying22 i64f_info _ rfl rfl rfl (by omega) (by unfold maxLen; omega) _ (Nat.le_trans hsz hw.size)⟩) ?_
        refine laneO_told (mkT W.heap.size 4 1 l.length (madeCells (Value.bool false).cells (l.length * 1)).toList) (mkT_steady _ _ _ _ _) (by kernel_rfl) rfl (fun w hw => .inl ⟨by rfl, gives_mk rfl 4 1 1 l.length (Value.bool false) Try.underlying48 boolf_info _ rfl rfl rfl (by omega) (by unfold maxLen; omega) _ (Nat.le_trans hsz hw.size)⟩) ?_
        refine laneO_by (mkT W.heap.size 2 1 l.length (madeCells (Value.int .i64 0).cells (l.length * 1)).toList) (mkT_steady _ _ _ _ _) rfl (fun a' w hb hm => ?_) ?_
        focus (exact givesBy_assign (by rfl) rfl (hm 59 (by simp [Oper.looksAt, Op.operands, Call.operands])))
        refine laneO_end (by simp) rfl rfl rfl fun w5 hb0 => ?_
        rintro v9 ⟨gz, rfl, oz⟩ v1 ⟨gf, rfl, of⟩ v2 -
        simp only [Act.put, List.setIfInBounds_toArray, List.set_cons_zero, List.set_cons_succ, fillAll]
        have ne : gz ≠ gf := fun e => by subst e; exact owns_ne oz of (by decide) rfl rfl
        obtain ⟨n, hn⟩ : ∃ n, l.length = n := ⟨_, rfl⟩
        have HN := Lib.hid hn
        have R0 : Hid (R2 W w5 2 4 gz gf n (mixL (stS inner l) (List.replicate n (.int .i64 0)) 0) (mixL (stF inner l) (List.replicate n (.bool false)) 0)) := Lib.hid (by
          rw [mixL_zero, mixL_zero, ← hn]
          have e1 : (madeCells (Value.int .i64 0).cells (l.length * 1)).toList = List.replicate l.length (Value.int .i64 0) := by rw [Nat.mul_one]; exact toList_madeCells_one _ _
          have e2 : (madeCells (Value.bool false).cells (l.length * 1)).toList = List.replicate l.length (Value.bool false) := by rw [Nat.mul_one]; exact toList_madeCells_one _ _
          rw [e1] at oz
          rw [e2] at of
          exact ⟨oz, of, ne, B.out.trans (hb0.mono hsz)⟩)
        have HG : Hid (decide (haS l < inner) = growsF inner l) := Lib.hid rfl
        rw [HG.out, hn]
        clear oz of hb0 B hsz HG ne
        obtain ⟨gr, hgr⟩ : ∃ gr, growsF inner l = gr := ⟨_, rfl⟩
        have HGR := Lib.hid hgr
        rw [hgr]
        rw [hn] at hl5
        clear hgr hn
        go_wp2_with fail
        go_loopw [11, 12] (fun v11 v12 wr => ∃ k : Nat, v12 = .int .i64 k ∧ v11 = .int .i64 (openI ((l.take k).map (startI gr))) ∧ k ≤ n ∧ Hid (R2 W wr 2 4 gz gf n (mixL (stS inner l) (List.replicate n (.int .i64 0)) k) (mixL (stF inner l) (List.replicate n (.bool false)) k))) (fun _ v12 _ => n - (intOf v12).toNat)
        case atStart => exact ⟨0, rfl, rfl, Nat.zero_le _, R0⟩
        case round =>
          clear R0
          obtain ⟨k, rfl, rfl, hk, R0⟩ := hrel
          by_cases hlt : k < n
          · as_aux_lemma =>
              have hltz : (k : Int) < n := by omega
              have hkl : k < l.length := by rw [HN.out]; exact hlt
              obtain ⟨ad, rfl, hb, d0, d1, d2, d3, d4, d5⟩ := Row.flex (HR.out.below R0.out.low) hkl
              have hx := HFX.out _ (List.getElem_mem hkl)
              have hlS : (stS inner l).length = (List.replicate n (Value.int .i64 0)).length := by simp [stS, HN.out]
              have hlF : (stF inner l).length = (List.replicate n (Value.bool false)).length := by simp [stF, HN.out]
              have hkS : k < (List.replicate n (Value.int .i64 0)).length := by simpa using hlt
              have hkF : k < (List.replicate n (Value.bool false)).length := by simpa using hlt
              have MS := mixL_set hlS hkS
              have MF := mixL_set hlF hkF
              have gS := mixL_get hlS hkS
              have gF := mixL_get hlF hkF
              have eS : (stS inner l)[k]'(by rw [hlS]; exact hkS) = .int .i64 (hypF l[k]) := by simp [stS]
              have eF : (stF inner l)[k]'(by rw [hlF]; exact hkF) = .bool (startI (growsF inner l) l[k]).fz := by simp [stF]
              rw [eS] at MS
              rw [eF, HGR.out] at MF
              simp only [List.getElem_replicate] at gS gF
              have OT : openI ((l.take (k + 1)).map (startI gr)) = openI ((l.take k).map (startI gr)) + (if (startI gr l[k]).fz = true then 0 else 1) := by
                rw [List.take_succ_eq_append_getElem hkl, List.map_append, openI_both, List.map_singleton, openI_cons]; rfl
              have OT := Lib.hid OT
              have MS := Lib.hid MS
              have MF := Lib.hid MF
              have GS := Lib.hid gS
              have GF := Lib.hid gF
              obtain ⟨x, hxe⟩ : ∃ x, l[k] = x := ⟨_, rfl⟩
              rw [hxe] at d0 d1 d2 d3 d4 d5 hx OT MS MF
              clear hxe eS eF hlS hlF hkS hkF gS gF
              have HY := Lib.hid (fun w => rhyp_any x w)
              have hsz := R0.out.low.size
              have R1 := Lib.hid (R0.out.behind ((Below.refl wr.heap.size wr).alloc (Nat.le_refl _) (.cells #[.int .i64 x.base, .int .i64 x.mn, .int .i64 x.mx, .int .i64 x.grow, .int .i64 x.shrink, .int .i64 x.around] 26)))
              have X1 := Lib.hid (Whole.mk wr 26 #[.int .i64 x.base, .int .i64 x.mn, .int .i64 x.mx, .int .i64 x.grow, .int .i64 x.shrink, .int .i64 x.around])
              go_upto_region 16 with fail
              generalize wr.alloc _ = w6 at *
              obtain ⟨gx, hgx⟩ : ∃ g, wr.heap.size = g := ⟨_, rfl⟩
              rw [hgx] at X1 hsz ⊢
              have hz1 := rowG_lt R0.out.one
              have hf1 := rowG_lt R0.out.two
              rw [hgx] at hz1 hf1
              clear R0 d0 d1 d2 d3 d4 d5 hgx hb
              have x0 := X1.out.cell 0
              have x1 := X1.out.cell 1
              have x2 := X1.out.cell 2
              have x3 := X1.out.cell 3
              have x4 := X1.out.cell 4
              have x5 := X1.out.cell 5
              simp only [List.getElem?_cons_zero, List.getElem?_cons_succ] at x0 x1 x2 x3 x4 x5
              have hs6 := X1.out.size
              go_wp2_with fail
              refine (HY.out _).mono ?_
              rintro e w7 ⟨rfl, hb7⟩
              have R2' := Lib.hid (R1.out.behind hb7)
              have X2 := Lib.hid (X1.out.under hb7 hs6)
              clear R1 X1 hb7 x0 x1 x2 x3 x4 x5 HY
              have cz := rowG_cell R2'.out.one hlt GS.out
              have fz := R2'.out.one.frozenAt k
              have R3' := R2'.out.put1 k (.int .i64 (hypF x))
              rw [MS.out] at R3'
              have R3' := Lib.hid R3'
              have X3 := Lib.hid (X2.out.other (p := ⟨gz, k, none⟩) (by simp; omega) (.int .i64 (hypF x)))
              have cz2 : (w7.setCell ⟨gz, k, none⟩ (.int .i64 (hypF x))).cell? ⟨gz, k, none⟩ = some (.int .i64 (hypF x)) := by
                have h1 := R2'.out.put1 k (.int .i64 (hypF x))
                exact rowG_cell h1.one hlt (by rw [List.getElem?_set_self (by have := h1.one.1; simp at this; omega)])
              clear R2' X2 MS GS
              go_upto_region 17 with fail
              have x0 := X3.out.cell 0
              have x3 := X3.out.cell 3
              have x4 := X3.out.cell 4
              simp only [List.getElem?_cons_zero, List.getElem?_cons_succ] at x0 x3 x4
              have cf := rowG_cell R3'.out.two hlt GF.out
              have ff := R3'.out.two.frozenAt k
              generalize w7.setCell _ _ = w8 at *
              obtain ⟨H, hH⟩ : ∃ H, hypF x = H := ⟨_, rfl⟩
              have RT := Lib.hid (fun b : Bool => R3'.out.put2 k (.bool b))
              rw [hH] at cz2 ⊢
              clear fz cz X3 R3' GF hx
              have ob : openI (List.take k (List.map (startI gr) l)) ≤ 500 := by
                have h1 := open_le (List.take k (List.map (startI gr) l))
                rw [List.length_take] at h1
                omega
              cases gr with
              | true =>
                by_cases h1 : x.grow = 0
                · have z1 : (x.grow == 0) = true := by rw [beq_iff_eq]; exact h1
                  have H1 := Lib.hid h1
                  clear h1
                  have FL : Hid ((startI true x).fz = true) := Lib.hid (by unfold startI; rw [hH]; simp [H1.out])
                  have OT2 := OT.out
                  have MF2 := MF.out
                  rw [FL.out] at OT2 MF2
                  have R9 := RT.out true
                  rw [MF2] at R9
                  have R9 := Lib.hid R9
                  rw [if_pos rfl] at OT2
                  have OT2 := Lib.hid OT2
                  clear RT MF2 FL MF OT
                  go_region
                  all_goals go_wp2
                  go_roundw
                  case rel => exact ⟨k + 1, by go_num, by rw [OT2.out, List.map_take]; first | rfl | (push_cast; rfl), by omega, by first | exact R9 | exact Lib.hid (R9.out.behind (Below.drewN' (Below.refl _ _) 1))⟩
                  case measure => simp [intOf] <;> omega
                · have z1 : (x.grow == 0) = false := by rw [beq_eq_false_iff_ne]; exact h1
                  by_cases h2 : H < x.base
                  · have z2 : decide (x.base > H) = true := decide_eq_true h2
                    have z3 : x.base > H := h2
                    have FL : Hid ((startI true x).fz = true) := Lib.hid (by unfold startI; rw [hH]; simp [h2])
                    have OT2 := OT.out
                    have MF2 := MF.out
                    rw [FL.out] at OT2 MF2
                    have R9 := RT.out true
                    rw [MF2] at R9
                    have R9 := Lib.hid R9
                    rw [if_pos rfl] at OT2
                    have OT2 := Lib.hid OT2
                    clear RT MF2 FL MF OT
                    go_region
                    all_goals go_wp2
                    go_roundw
                    case rel => exact ⟨k + 1, by go_num, by rw [OT2.out, List.map_take]; first | rfl | (push_cast; rfl), by omega, by first | exact R9 | exact Lib.hid (R9.out.behind (Below.drewN' (Below.refl _ _) 1))⟩
                    case measure => simp [intOf] <;> omega
                  · have z2 : decide (x.base > H) = false := decide_eq_false h2
                    have z3 : ¬ x.base > H := h2
                    have FL : Hid ((startI true x).fz = false) := Lib.hid (by unfold startI; rw [hH]; simp [h1]; omega)
                    have OT2 := OT.out
                    have MF2 := MF.out
                    rw [FL.out] at OT2 MF2
                    have R9 := RT.out false
                    rw [MF2] at R9
                    have R9 := Lib.hid R9
                    rw [if_neg (by simp)] at OT2
                    have OT2 := Lib.hid OT2
                    clear RT MF2 FL MF OT
                    go_region
                    all_goals go_wp2
                    go_roundw
                    case rel => exact ⟨k + 1, by go_num, by rw [OT2.out, List.map_take]; first | rfl | (push_cast; rfl), by omega, by first | exact R9 | exact Lib.hid (R9.out.behind (Below.drewN' (Below.refl _ _) 1))⟩
                    case measure => simp [intOf] <;> omega
              | false =>
                by_cases h1 : x.shrink = 0
                · have z1 : (x.shrink == 0) = true := by rw [beq_iff_eq]; exact h1
                  have H1 := Lib.hid h1
                  clear h1
                  have FL : Hid ((startI false x).fz = true) := Lib.hid (by unfold startI; rw [hH]; simp [H1.out])
                  have OT2 := OT.out
                  have MF2 := MF.out
                  rw [FL.out] at OT2 MF2
                  have R9 := RT.out true
                  rw [MF2] at R9
                  have R9 := Lib.hid R9
                  rw [if_pos rfl] at OT2
                  have OT2 := Lib.hid OT2
                  clear RT MF2 FL MF OT
                  go_region
                  all_goals go_wp2
                  go_roundw
                  case rel => exact ⟨k + 1, by go_num, by rw [OT2.out, List.map_take]; first | rfl | (push_cast; rfl), by omega, by first | exact R9 | exact Lib.hid (R9.out.behind (Below.drewN' (Below.refl _ _) 1))⟩
                  case measure => simp [intOf] <;> omega
                · have z1 : (x.shrink == 0) = false := by rw [beq_eq_false_iff_ne]; exact h1
                  by_cases h2 : x.base < H
                  · have z2 : decide (x.base < H) = true := decide_eq_true h2
                    have z3 : x.base < H := h2
                    have FL : Hid ((startI false x).fz = true) := Lib.hid (by unfold startI; rw [hH]; simp [h2])
                    have OT2 := OT.out
                    have MF2 := MF.out
                    rw [FL.out] at OT2 MF2
                    have R9 := RT.out true
                    rw [MF2] at R9
                    have R9 := Lib.hid R9
                    rw [if_pos rfl] at OT2
                    have OT2 := Lib.hid OT2
                    clear RT MF2 FL MF OT
                    go_region
                    all_goals go_wp2
                    go_roundw
                    case rel => exact ⟨k + 1, by go_num, by rw [OT2.out, List.map_take]; first | rfl | (push_cast; rfl), by omega, by first | exact R9 | exact Lib.hid (R9.out.behind (Below.drewN' (Below.refl _ _) 1))⟩
                    case measure => simp [intOf] <;> omega
                  · have z2 : decide (x.base < H) = false := decide_eq_false h2
                    have z3 : ¬ x.base < H := h2
                    have FL : Hid ((startI false x).fz = false) := Lib.hid (by unfold startI; rw [hH]; simp [h1]; omega)
                    have OT2 := OT.out
                    have MF2 := MF.out
                    rw [FL.out] at OT2 MF2
                    have R9 := RT.out false
                    rw [MF2] at R9
                    have R9 := Lib.hid R9
                    rw [if_neg (by simp)] at OT2
                    have OT2 := Lib.hid OT2
                    clear RT MF2 FL MF OT
                    go_region
                    all_goals go_wp2
                    go_roundw
                    case rel => exact ⟨k + 1, by go_num, by rw [OT2.out, List.map_take]; first | rfl | (push_cast; rfl), by omega, by first | exact R9 | exact Lib.hid (R9.out.behind (Below.drewN' (Below.refl _ _) 1))⟩
                    case measure => simp [intOf] <;> omega
          · obtain rfl : n = k := by omega
            have hltz : ¬ (n : Int) < n := by omega
            have R1 : Hid (R2 W wr 2 4 gz gf n (iS (l.map (startI gr))) (iF (l.map (startI gr)))) := Lib.hid (by
              have h := R0.out
              have e1 : stS inner l = iS (l.map (startI gr)) := by unfold stS iS; rw [List.map_map]; rfl
              have e2 : stF inner l = iF (l.map (startI gr)) := by unfold stF iF; rw [List.map_map, HGR.out]; rfl
              rw [mixL_end (by simp [stS, HN.out]) (by simp), mixL_end (by simp [stF, HN.out]) (by simp), e1, e2] at h
              exact h)
            have RS : Hid (RI gr inner (l.map (startI gr))) := Lib.hid (by
              have h := RI.start HIR.out HFX.out (by rw [HN.out]; omega)
              rw [HGR.out] at h; exact h)
            have RK : Hid (∃ k, openI (l.map (startI gr)) ≤ k ∧ (runI gr inner k (l.map (startI gr))).map It.s = sizesF inner l) := Lib.hid ⟨l.length, by have := open_le (l.map (startI gr)); simpa using this, by unfold sizesF; rw [HGR.out]⟩
            have e0 : l.take n = l := List.take_of_length_le (by rw [HN.out]; omega)
            rw [e0]
            clear R0 e0
            go_wp2_with fail
            go_loopw [11] (fun v11 wr => ∃ st : List It, v11 = .int .i64 (openI st) ∧ Hid (st.map It.x = l) ∧ Hid (RI gr inner st) ∧ Hid (∃ k, openI st ≤ k ∧ (runI gr inner k st).map It.s = sizesF inner l) ∧ Hid (R2 W wr 2 4 gz gf n (iS st) (iF st))) (fun v11 _ => (intOf v11).toNat)
            case atStart => exact ⟨_, rfl, Lib.hid (by rw [List.map_map]; exact List.map_id l), RS, RK, R1⟩
            case round =>
              clear R1 RS RK
              obtain ⟨st, rfl, SX, SR, SK, R1⟩ := hrel
              have HSN : Hid (st.length = n) := Lib.hid (by have h := congrArg List.length SX.out; rw [List.length_map, HN.out] at h; exact h)
              have hsz := R1.out.low.size
              generalize wr = w0 at *
              by_cases h0 : 0 < openI st
              · have h0z : ((openI st : Nat) : Int) > 0 := by omega
                go_wp2_with fail
                go_loopw [14, 15, 16] (fun v14 v15 v16 w4 => ∃ (k m : Nat) (A4 : Option Addr) (c4 : Nat), v14 = .int .i64 (freeI inner (st.take k)) ∧ v15 = .slice A4 m c4 ∧ v16 = .int .i64 k ∧ k ≤ n ∧ m ≤ k ∧ Hid (m = (wtsI gr (st.take k)).length) ∧ Hid (w4.ownsRow w0.heap.size 2 1 (.slice A4 m c4) m (i64s (wtsI gr (st.take k)))) ∧ Hid (Below w0.heap.size w0 w4)) (fun _ _ v16 _ => n - (intOf v16).toNat)
                case atStart => exact ⟨0, 0, none, 0, by simp [freeI], rfl, rfl, Nat.zero_le _, Nat.le_refl _, Lib.hid rfl, Lib.hid ⟨rfl, .inl ⟨rfl, rfl⟩⟩, Lib.hid (Below.refl _ _)⟩
                case round =>
                  generalize wr = w4 at *
                  obtain ⟨k, m, A4, c4, rfl, rfl, rfl, hk, hmk, HM, O4, B4⟩ := hrel
                  have RB := Lib.hid (R1.out.behind B4.out)
                  have hsz4 := B4.out.size
                  by_cases hlt : k < n
                  · as_aux_lemma =>
                      have hltz : (k : Int) < n := by omega
                      have hks : k < st.length := by rw [HSN.out]; exact hlt
                      have hkl : k < l.length := by rw [HN.out]; exact hlt
                      obtain ⟨ad, rfl, hb, d0, d1, d2, d3, d4, d5⟩ := Row.flex (HR.out.below RB.out.low) hkl
                      have ex : l[k] = st[k].x := by
                        have h : l[k]? = (st.map It.x)[k]? := by rw [SX.out]
                        rw [List.getElem?_eq_getElem hkl, List.getElem?_map, List.getElem?_eq_getElem hks] at h
                        simpa using h
                      have FE := Lib.hid (step1 gr inner st hks).free
                      have WE := Lib.hid (step1 gr inner st hks).wts
                      have hx := SR.out.ok _ (List.getElem_mem hks)
                      have b1 := SR.out.free_bd k
                      have b2 := SR.out.free_bd (k + 1)
                      have n1 := SR.out.now1 hks
                      have cz := rowG_cell RB.out.one hlt (iS_get hks)
                      have cf := rowG_cell RB.out.two hlt (iF_get hks)
                      rw [ex] at d0 d1 d2 d3 d4 d5
                      obtain ⟨i, hi⟩ : ∃ i, st[k] = i := ⟨_, rfl⟩
                      rw [hi] at d0 d1 d2 d3 d4 d5 FE WE hx n1 cz cf
                      obtain ⟨F, hF⟩ : ∃ F, freeI inner (st.take k) = F := ⟨_, rfl⟩
                      rw [hF] at FE b1 ⊢
                      clear hi hF ex
                      have x0 := hx.b0
                      have x1 := hx.b1
                      have x2 := hx.a0
                      have x3 := hx.a1
                      have x4 := hx.s0
                      have x5 := hx.s1
                      have pm : 0 ≤ i.x.base * i.x.shrink ∧ i.x.base * i.x.shrink ≤ 1125899906842624 := by
                        have := wt_shrink hx
                        unfold wtF at this
                        rw [if_neg (by simp)] at this
                        exact this
                      clear hx d1 d2
                      cases hfz : i.fz with
                      | true =>
                        rw [hfz] at cf WE
                        have nw : nowI i = i.s := by unfold nowI; rw [hfz]; rfl
                        have FE2 : Hid (freeI inner (st.take (k + 1)) = F - i.x.around - i.s) := Lib.hid (by rw [FE.out, tkI_eq, nw]; omega)
                        have WE2 : Hid (wtsI gr (st.take (k + 1)) = wtsI gr (st.take k)) := Lib.hid (by rw [WE.out]; simp)
                        rw [nw] at n1
                        clear FE WE nw hfz b2 d0 d3 d4
                        go_wp2_with fail
                        go_roundw
                        case rel => exact ⟨k + 1, m, A4, c4, by rw [FE2.out], rfl, by go_num, by omega, by omega, by rw [WE2.out]; exact HM, by rw [WE2.out]; exact O4, B4⟩
                        case measure => simp [intOf] <;> omega
                      | false =>
                        rw [hfz] at cf WE
                        have nw : nowI i = i.x.base := by unfold nowI; rw [hfz]; rfl
                        have FE2 : Hid (freeI inner (st.take (k + 1)) = F - i.x.around - i.x.base) := Lib.hid (by rw [FE.out, tkI_eq, nw]; omega)
                        rw [nw] at n1
                        clear FE nw hfz b2 cz
                        have hbl : (ad.add (k * 6)).block < w4.heap.size := by have := RB.out.low.size; rw [add_block]; omega
                        cases gr with
                        | true =>
                          have WE2 : Hid (wtsI true (st.take (k + 1)) = wtsI true (st.take k) ++ [i.x.grow]) := Lib.hid (by rw [WE.out]; simp [wtF])
                          clear WE d4
                          go_upto_region 25 with (at_builtin; refine wpList_pushOne rfl (.tmp 175) (.tmp 181) _ rfl w0.heap.size 2 1 8 (.int .i64 0) Try.underlying22 i64f_info rfl (by decide) m (.slice A4 m c4) _ rfl (own_below O4.out ((Below.refl _ w4).alloc (Nat.le_refl _) (.cells #[.int .i64 i.x.grow] 2)) (Nat.le_refl _)) (by simp; omega) w4.heap.size [.int .i64 i.x.grow] rfl (Whole.mk w4 2 #[.int .i64 i.x.grow]) rfl (by simp [Value.oneCell']) (by unfold maxLen; omega) (by omega) ?_; intro A5 c5 w5 h5 ho5 hk5)
                          have O5 : Hid (w5.ownsRow w0.heap.size 2 1 (.slice A5 (m + 1) c5) (m + 1) (i64s (wtsI true (st.take (k + 1))))) := Lib.hid (by
                            rw [WE2.out, i64s_append]; exact h5)
                          have B5 := Lib.hid (own_push (own_below O4.out ((Below.refl _ w4).alloc (Nat.le_refl _) (.cells #[.int .i64 i.x.grow] 2)) (Nat.le_refl _)) (B4.out.alloc hsz4 _) (by simp; omega) ho5)
                          clear h5 ho5 hk5 O4 B4 RB
                          go_wp2_with fail
                          go_roundw
                          case rel => exact ⟨k + 1, m + 1, A5, c5, by rw [FE2.out], by go_num, by go_num, by omega, by omega, Lib.hid (by rw [WE2.out, List.length_append, ← HM.out]; rfl), O5, B5⟩
                          case measure => simp [intOf] <;> omega
                        | false =>
                          have WE2 : Hid (wtsI false (st.take (k + 1)) = wtsI false (st.take k) ++ [i.x.base * i.x.shrink]) := Lib.hid (by rw [WE.out]; simp [wtF])
                          clear WE d3
                          obtain ⟨p1, p2⟩ := pm
                          have c0 : ∀ t : Later w4.heap.size w4, t.w.cell? (ad.add (k * 6)) = some (.int .i64 i.x.base) := fun t => (t.h.cell (p := ad.add (k * 6)) hbl).trans d0
                          have c4' : ∀ t : Later w4.heap.size w4, t.w.cell? ⟨(ad.add (k * 6)).block, (ad.add (k * 6)).off + 4, none⟩ = some (.int .i64 i.x.shrink) := fun t => (t.h.cell (p := ⟨(ad.add (k * 6)).block, (ad.add (k * 6)).off + 4, none⟩) hbl).trans d4
                          go_upto_region 28 with fail
                          clear d0 d4 d5 cf
                          refine region_lane [] (List.range 13) [13, 14] (by kernel_rfl) (by kernel_rfl) (fun _ _ _ _ _ h => h) ?_
                          simp only [pick, List.map_nil]
                          refine wpQuiet_nil ⟨rfl, ?_⟩
                          rw [show List.range 13 = [0, 1, 2, 3, 4, 5, 6, 7, 8, 9, 10, 11, 12] from rfl]
                          simp only [List.map_cons, List.map_nil, List.getD_cons_zero, List.getD_cons_succ, List.drop_succ_cons, List.drop_zero]
                          refine laneO_run 12 (by kernel_rfl) ?_
                          simp only [List.take_succ_cons, List.take_zero, List.drop_succ_cons, List.drop_zero]
                          repeat (go_big_quiet_step (fail))
                          refine wpQuiet_nil ?_
                          refine laneO_told (madeT 1 2 [.int .i64 (i.x.base * i.x.shrink)]) (madeT_steady _ _ _) (by kernel_rfl) rfl (fun w hw => .inl ⟨by rfl, ?_⟩) ?_
                          focus (unfold gives; simp [go_sem]; exact madeT_new 1 2 #[.int .i64 (i.x.base * i.x.shrink)] w)
                          refine laneO_end (by simp) rfl rfl rfl fun w5 hb0 => ?_
                          rintro v ⟨g1, rfl, hg1⟩
                          simp only [Act.put, List.setIfInBounds_toArray, List.set_cons_zero, List.set_cons_succ, fillAll]
                          have OB := Lib.hid (own_below O4.out hb0 (Nat.le_refl _))
                          have BB := Lib.hid (B4.out.trans (hb0.mono hsz4))
                          have hsz5 := BB.out.size
                          clear c0 c4' hb0 O4 B4 RB
                          refine wpList_pushOne (by rfl) (.tmp 141) (.tmp 153) _ rfl w0.heap.size 2 1 8 (.int .i64 0) Try.underlying22 i64f_info rfl (by decide) m (.slice A4 m c4) _ rfl OB.out hsz5 g1 [.int .i64 (i.x.base * i.x.shrink)] rfl hg1 rfl (by simp [Value.oneCell']) (by unfold maxLen; omega) (by omega) ?_
                          intro A5 c5 w6 h5 ho5 hk5
                          have O5 : Hid (w6.ownsRow w0.heap.size 2 1 (.slice A5 (m + 1) c5) (m + 1) (i64s (wtsI false (st.take (k + 1))))) := Lib.hid (by
                            rw [WE2.out, i64s_append]; exact h5)
                          have B5 := Lib.hid (own_push OB.out BB.out hsz5 ho5)
                          clear h5 ho5 hk5 OB BB hg1
                          go_wp2
                          go_roundw
                          case rel => exact ⟨k + 1, m + 1, A5, c5, by rw [FE2.out], by go_num, by go_num, by omega, by omega, Lib.hid (by rw [WE2.out, List.length_append, ← HM.out]; rfl), O5, B5⟩
                          case measure => simp [intOf] <;> omega
                  · obtain rfl : n = k := by omega
                    have hltz : ¬ (n : Int) < n := by omega
                    have e0 : st.take n = st := List.take_of_length_le (by rw [HSN.out]; omega)
                    rw [e0] at HM O4 ⊢
                    have b1 := SR.out.free_bd n
                    rw [e0] at b1
                    obtain rfl := HM.out
                    have SF := Lib.hid SR.out.facts
                    have RW := Lib.hid (row_of_own O4.out)
                    have hpl := SR.out.parts_len
                    have SH := Lib.hid (rshare_own (leftI gr inner st) A4 c4 (wtsI gr st) w4 _ (Nat.le_refl _) RW.out SF.out)
                    have OV := Lib.hid SR.out.over_bd
                    have PB := Lib.hid SR.out.part_bd
                    obtain ⟨P, hP⟩ : ∃ P, shareZ (leftI gr inner st) (wtsI gr st) = P := ⟨_, rfl⟩
                    rw [hP] at SH OV PB hpl
                    have HP := Lib.hid hP
                    have HPL := Lib.hid hpl
                    have hpo : P.length = openI st := hpl
                    clear hP hpl e0 SF
                    have hob : openI st ≤ 500 := by have := open_le st; rw [HSN.out] at this; omega
                    go_upto_if 183 with fail
                    go_cut [14] from 119 to 284 (fun v14 wx => v14 = .int .i64 (leftI gr inner st) ∧ wx = w4)
                    case first =>
                      cases gr with
                      | true =>
                        go_wp2_with fail
                        go_meet
                        exact ⟨by first | rfl | (unfold leftI; rw [if_pos rfl]), rfl⟩
                      | false =>
                        go_wp2_with fail
                        go_meet
                        exact ⟨by first | rfl | (unfold leftI; rw [if_neg (by simp)]), rfl⟩
                    case rest =>
                      obtain ⟨rfl, rfl⟩ := hcut
                      have HPO := Lib.hid hpo
                      clear hpo
                      go_wp2_with fail
                      refine SH.out.mono ?_
                      rintro e w5 ⟨A5, c5, rfl, o5, hb5⟩
                      have R5 := Lib.hid (RB.out.behind hb5)
                      have OP := Lib.hid o5
                      have hz5 := hb5.size
                      have hz5' := R5.out.low.size
                      clear o5 hb5 SH RW O4 B4
                      obtain ⟨i0, hi, hz0, hz1, hz2⟩ := info_parts i64f_info
                      go_upto_region 40 with (at_make; refine wpList_make_full _ rfl _ _ 22 rfl w5.heap.size 2 i0 (.int .i64 0) 1 Try.underlying22 hi hz0 hz1 .i64 .i64 _ _ n rfl rfl rfl rfl (by rw [hz2]; omega) (by unfold maxLen; omega) (Nat.le_refl _) ?_; intro w6 r1 r2; have O6 := Lib.hid r1; have G6 := Lib.hid (Only.of_grown r2); clear r1 r2)
                      clear hi hz0 hz1 hz2
                      obtain ⟨q, hq⟩ : ∃ q, putI st P = q := ⟨_, rfl⟩
                      rw [hq] at OV
                      have HQ := Lib.hid hq
                      have hql : q.length = n := by rw [← hq, putI_len]; exact HSN.out
                      have HQL := Lib.hid hql
                      obtain ⟨gd, hgd⟩ : ∃ g, w5.heap.size = g := ⟨_, rfl⟩
                      have R6 : Hid (RP W w6 2 4 2 2 gz gf gd n (mixL (iS (q.map (·.1))) (iS st) 0) (iF st) (mixL (dS q) (List.replicate n (.int .i64 0)) 0) wc.heap.size A5 P.length c5 (i64s P)) := Lib.hid (by
                        have e1 : (madeCells (Value.int .i64 0).cells (n * 1)).toList = List.replicate n (Value.int .i64 0) := by rw [Nat.mul_one]; exact toList_madeCells_one _ _
                        have o := O6.out
                        rw [e1, hgd] at o
                        have b6 := G6.out.below (B := w5.heap.size) (by simp) (Nat.le_refl _)
                        rw [mixL_zero, mixL_zero]
                        have l1 := rowG_lt R1.out.one
                        have l2 := rowG_lt RB.out.one
                        refine ⟨R5.out.made b6 (by rw [hgd]; exact o), own_below OP.out b6 (Nat.le_refl _), fun g hg => ?_⟩
                        have h1 := OP.out.lt g hg
                        omega)
                      clear O6 G6 OP R5 RB hq hql
                      rw [hgd]
                      clear hgd hz5 hz5'
                      go_wp2_with fail
                      go_loopw [18, 20, 21] (fun v18 v20 v21 w7 => ∃ k : Nat, v18 = .int .i64 (overI (q.take k)) ∧ v20 = .int .i64 (openI (st.take k)) ∧ v21 = .int .i64 k ∧ k ≤ n ∧ Hid (RP W w7 2 4 2 2 gz gf gd n (mixL (iS (q.map (·.1))) (iS st) k) (iF st) (mixL (dS q) (List.replicate n (.int .i64 0)) k) wc.heap.size A5 P.length c5 (i64s P))) (fun _ _ v21 _ => n - (intOf v21).toNat)
                      case atStart => exact ⟨0, rfl, rfl, rfl, Nat.zero_le _, R6⟩
                      case round =>
                        clear R6
                        generalize wr = w7 at *
                        obtain ⟨k, rfl, rfl, rfl, hk, R6⟩ := hrel
                        by_cases hlt : k < n
                        · as_aux_lemma =>
                            have hltz : (k : Int) < n := by omega
                            have hks : k < st.length := by rw [HSN.out]; exact hlt
                            have hkl : k < l.length := by rw [HN.out]; exact hlt
                            have ex : l[k] = st[k].x := by
                              have h : l[k]? = (st.map It.x)[k]? := by rw [SX.out]
                              rw [List.getElem?_eq_getElem hkl, List.getElem?_map, List.getElem?_eq_getElem hks] at h
                              simpa using h
                            have cf := rowG_cell R6.out.r.two hlt (iF_get hks)
                            cases hfz : st[k].fz with
                            | true =>
                              obtain ⟨g1, g2, g3, g4⟩ := give_frozen HQ.out HSN.out hlt hfz (.int .i64 0) rfl
                              rw [hfz] at cf
                              have G1 := Lib.hid g1
                              have G2 := Lib.hid g2
                              have G3 := Lib.hid g3
                              have G4 := Lib.hid g4
                              clear g1 g2 g3 g4 hfz ex
                              go_wp2_with fail
                              go_roundw
                              case rel => exact ⟨k + 1, by rw [G3.out], by rw [G4.out], by go_num, by omega, by rw [G1.out, G2.out]; exact R6⟩
                              case measure => simp [intOf] <;> omega
                            | false =>
                              rw [hfz] at cf
                              have hjp : openI (st.take k) < P.length := by rw [HPO.out]; exact open_take_lt hks hfz
                              have GO := Lib.hid (fun want hw => give_open HQ.out HSN.out hlt hks hfz (.int .i64 0) want hw)
                              have hx := SR.out.ok _ (List.getElem_mem hks)
                              have ov1 := OV.out k
                              have ov2 := OV.out (k + 1)
                              have pb := PB.out (openI (st.take k))
                              obtain ⟨ad, rfl, hb, d0, d1, d2, d3, d4, d5⟩ := Row.flex (HR.out.below R6.out.r.low) hkl
                              obtain ⟨ap, rfl, hpb, dp⟩ := (row_of_own R6.out.p).int hjp
                              have hrow := R6.out.r.low.size
                              have cz := rowG_cell R6.out.r.one hlt (mix_get (by simp [iS, HQL.out, HSN.out]) (by rw [iS_len]; exact hks) (iS_get hks))
                              have cd := rowG_cell (u := .int .i64 0) R6.out.r.three hlt (mix_get (k := k) (by simp [dS, HQL.out]) (by simpa using hlt) (by simp [hlt]))
                              rw [ex] at d0 d1 d2 d3 d4 d5
                              rw [List.getD_eq_getElem?_getD, List.getElem?_eq_getElem hjp, Option.getD_some] at pb
                              have gd0 : P.getD (openI (st.take k)) 0 = P[openI (st.take k)] := by rw [List.getD_eq_getElem?_getD, List.getElem?_eq_getElem hjp, Option.getD_some]
                              rw [gd0] at GO
                              obtain ⟨z, hz⟩ : ∃ z, P[openI (st.take k)] = z := ⟨_, rfl⟩
                              rw [hz] at GO pb dp
                              obtain ⟨x, hxe⟩ : ∃ x, st[k].x = x := ⟨_, rfl⟩
                              rw [hxe] at GO d0 d1 d2 d3 d4 d5 hx
                              obtain ⟨j, hj⟩ : ∃ j, openI (st.take k) = j := ⟨_, rfl⟩
                              have hjn : j ≤ 500 := by rw [← hj]; have := open_le (st.take k); rw [List.length_take] at this; omega
                              rw [hj] at GO dp hjp ⊢
                              have hjpz : (j : Int) < P.length := by omega
                              obtain ⟨o, ho⟩ : ∃ o, overI (q.take k) = o := ⟨_, rfl⟩
                              rw [ho] at GO ov1 ⊢
                              clear hz hxe hj ho ex hfz gd0 d3 d4 d5
                              have x0 := hx.b0
                              have x1 := hx.b1
                              have pw : -9223372036854775808 ≤ x.base + z ∧ x.base + z ≤ 9223372036854775807 := by omega
                              have CB := clF_bd hx (x.base + z) (by omega)
                              have RC := Lib.hid (fun w => rclamp_x x (x.base + z) w)
                              clear hx
                              have hbl : (ad.add (k * 6)).block < w7.heap.size := by rw [add_block]; omega
                              go_upto_region 45 with fail
                              go_quiet (fail)
                              have R6q := Lib.hid (R6.out.behind (Below.drewN' (Below.refl w7.heap.size w7) nq))
                              have czq := cz
                              have cdq := cd
                              have c1q : ∀ t : Later (w7.drewN nq).heap.size (w7.drewN nq), t.w.cell? ⟨(ad.add (k * 6)).block, (ad.add (k * 6)).off + 1, none⟩ = some (.int .i64 x.mn) := fun t => (t.h.cell (p := ⟨(ad.add (k * 6)).block, (ad.add (k * 6)).off + 1, none⟩) hbl).trans d1
                              have c2q : ∀ t : Later (w7.drewN nq).heap.size (w7.drewN nq), t.w.cell? ⟨(ad.add (k * 6)).block, (ad.add (k * 6)).off + 2, none⟩ = some (.int .i64 x.mx) := fun t => (t.h.cell (p := ⟨(ad.add (k * 6)).block, (ad.add (k * 6)).off + 2, none⟩) hbl).trans d2
                              have czr : (w7.drewN nq).cell? ⟨gz, k, none⟩ = some (.int .i64 st[k].s) := cz
                              have cdr : (w7.drewN nq).cell? ⟨gd, k, none⟩ = some (.int .i64 0) := cd
                              have hblq : (ad.add (k * 6)).block < (w7.drewN nq).heap.size := hbl
                              clear R6 cz cd czq cdq hbl d1 d2
                              generalize w7.drewN nq = w7' at *
                              obtain ⟨want, hwant⟩ : ∃ want, x.base + z = want := ⟨_, rfl⟩
                              rw [hwant] at RC CB pw GO ⊢
                              have GO2 := Lib.hid (GO.out want rfl)
                              clear hwant d0 dp GO
                              go_upto_region 46 with fail
                              refine region_lane [] (List.range 15) [15] (by kernel_rfl) (by kernel_rfl) (fun _ _ _ _ _ h => h) ?_
                              simp only [pick, List.map_nil]
                              refine wpQuiet_nil ⟨rfl, ?_⟩
                              rw [show List.range 15 = [0, 1, 2, 3, 4, 5, 6, 7, 8, 9, 10, 11, 12, 13, 14] from rfl]
                              simp only [List.map_cons, List.map_nil, List.getD_cons_zero, List.getD_cons_succ, List.drop_succ_cons, List.drop_zero]
                              refine laneO_run 13 (by kernel_rfl) ?_
                              simp only [List.take_succ_cons, List.take_zero, List.drop_succ_cons, List.drop_zero]
                              repeat (go_big_quiet_step (fail))
                              refine wpQuiet_nil ?_
                              refine laneO_call (v := .int .i64 (clF x want)) (by kernel_rfl) (by rfl) (fun C hC h0 => ?_) ?_
                              focus (go_big_quiet_op; exact ⟨_, fun w hw => (RC.out w).mono fun e w' ⟨he, hb⟩ => ⟨he, hb ▸ hw⟩, rfl⟩)
                              simp only [Act.put, List.setIfInBounds_toArray, List.set_cons_zero, List.set_cons_succ]
                              refine laneO_run 1 (by kernel_rfl) ?_
                              simp only [List.take_succ_cons, List.take_zero, List.drop_succ_cons, List.drop_zero]
                              repeat (go_big_quiet_step (fail))
                              refine wpQuiet_nil ?_
                              refine laneO_end0 rfl rfl fun w8 hb0 => ?_
                              have R8 := Lib.hid (R6q.out.behind hb0)
                              have cz8 := (hb0.cell (p := ⟨gz, k, none⟩) (rowG_lt R6q.out.r.one).2).trans czr
                              have fz8 := R8.out.r.one.frozenAt k
                              have R9 := R8.out.put1 k (.int .i64 (clF x want))
                              rw [GO2.out.1] at R9
                              have R9 := Lib.hid R9
                              have cz9 : (w8.setCell ⟨gz, k, none⟩ (.int .i64 (clF x want))).cell? ⟨gz, k, none⟩ = some (.int .i64 (clF x want)) := by
                                have h1 := R8.out.r.put1 k (.int .i64 (clF x want))
                                exact rowG_cell h1.one hlt (by rw [List.getElem?_set_self (by have := h1.one.1; simp at this; omega)])
                              have cd8 := (hb0.cell (p := ⟨gd, k, none⟩) (rowG_lt R6q.out.r.three).2).trans cdr
                              have hbb := hb0
                              clear c1q c2q czr cdr R6q hblq hb0
                              go_upto_region 47 with fail
                              have cd9 : (w8.setCell ⟨gz, k, none⟩ (.int .i64 (clF x want))).cell? ⟨gd, k, none⟩ = some (.int .i64 0) := by
                                have h1 := (R8.out.r.put1 k (.int .i64 (clF x want))).three
                                exact rowG_cell h1 hlt (mix_get (k := k) (by simp [dS, HQL.out]) (by simpa using hlt) (by simp [hlt]))
                              have fd9 := R9.out.r.three.frozenAt k
                              have hn13 := R9.out.r.n13
                              clear cz8 fz8 cd8 R8 hbb
                              generalize w8.setCell _ _ = w9 at *
                              obtain ⟨C, hC⟩ : ∃ C, clF x want = C := ⟨_, rfl⟩
                              rw [hC] at CB cz9 GO2 ⊢
                              clear hC
                              have R10 := R9.out.put3 k (.int .i64 (C - want))
                              rw [GO2.out.2.1] at R10
                              have R10 := Lib.hid R10
                              have cd10 : (w9.setCell ⟨gd, k, none⟩ (.int .i64 (C - want))).cell? ⟨gd, k, none⟩ = some (.int .i64 (C - want)) := by
                                have h1 := R9.out.r.put3 k (.int .i64 (C - want))
                                exact rowG_cell h1.three hlt (by rw [List.getElem?_set_self (by have := h1.three.1; simp at this; omega)])
                              rw [GO2.out.2.2.1] at ov2
                              have O3 := Lib.hid GO2.out.2.2.1
                              have O4 := Lib.hid GO2.out.2.2.2
                              clear R9 GO2
                              go_upto_region 48 with fail
                              clear fd9 cd9 cz9
                              generalize w9.setCell _ _ = w10 at *
                              go_wp2_with fail
                              go_roundw
                              case rel => exact ⟨k + 1, by rw [O3.out], by rw [O4.out]; go_num, by go_num, by omega, R10⟩
                              case measure => simp [intOf] <;> omega
                        · obtain rfl : n = k := by omega
                          have hltz : ¬ (n : Int) < n := by omega
                          have e1 : q.take n = q := List.take_of_length_le (by rw [HQL.out]; omega)
                          have e2 : openI (mixL (q.map (stopI (overI q))) (q.map (·.1)) 0) = openI st := by rw [mixL_zero, ← HQ.out, put_openI]
                          have R7 : Hid (R3 W w7 2 4 2 gz gf gd n (iS (q.map (·.1))) (mixL (iF (q.map (stopI (overI q)))) (iF st) 0) (dS q)) := Lib.hid (by
                            have h := R6.out.r
                            rw [mixL_end (by simp [iS, HQL.out, HSN.out]) (by rw [iS_len, HSN.out]), mixL_end (by simp [dS, HQL.out]) (by simp)] at h
                            rw [mixL_zero]
                            exact h)
                          have ov := OV.out n
                          rw [e1] at ov ⊢
                          rw [← e2]
                          obtain ⟨o, ho⟩ : ∃ o, overI q = o := ⟨_, rfl⟩
                          have HO := Lib.hid ho
                          rw [ho] at ov R7 ⊢
                          have hFs := Lib.hid (show iF (q.map (·.1)) = iF st by rw [← HQ.out]; exact putI_fz st P)
                          clear R6 e1 e2 ho OV PB
                          go_wp2_with fail
                          go_loopw [11, 23] (fun v11 v23 w11 => ∃ k : Nat, v11 = .int .i64 (openI (mixL (q.map (stopI o)) (q.map (·.1)) k)) ∧ v23 = .int .i64 k ∧ k ≤ n ∧ Hid (R3 W w11 2 4 2 gz gf gd n (iS (q.map (·.1))) (mixL (iF (q.map (stopI o))) (iF st) k) (dS q))) (fun _ v23 _ => n - (intOf v23).toNat)
                          case atStart => exact ⟨0, rfl, rfl, Nat.zero_le _, R7⟩
                          case round =>
                            clear R7
                            generalize wr = w11 at *
                            obtain ⟨k, rfl, rfl, hk, R7⟩ := hrel
                            by_cases hlt : k < n
                            · as_aux_lemma =>
                                have hltz : (k : Int) < n := by omega
                                have hks : k < st.length := by rw [HSN.out]; exact hlt
                                have hkq : k < q.length := by rw [HQL.out]; exact hlt
                                obtain ⟨s1, s2, s3, s4⟩ := freeze_step (o := o) HQL.out hlt hFs.out HSN.out
                                have S3 := Lib.hid s3
                                have S4 := Lib.hid s4
                                have cf := rowG_cell R7.out.two hlt s1
                                have cd := rowG_cell R7.out.three hlt (dS_get hkq)
                                have ff := R7.out.two.frozenAt k
                                obtain ⟨d, hd⟩ : ∃ d, q[k].1.s - q[k].2 = d := ⟨_, rfl⟩
                                obtain ⟨b, hb⟩ : ∃ b, st[k].fz = b := ⟨_, rfl⟩
                                rw [hd] at S3 S4 cd
                                rw [hb] at S3 S4 cf
                                have hob2 : openI (mixL (q.map (stopI o)) (q.map (·.1)) k) ≤ 500 := by
                                  have h1 := open_le (mixL (q.map (stopI o)) (q.map (·.1)) k)
                                  rw [mixL_len (by simp) (by simp [HQL.out]; omega), List.length_map, HQL.out] at h1
                                  omega
                                clear s1 s2 s3 s4 hd hb
                                cases b with
                                | true =>
                                  obtain ⟨m1, m2⟩ := S4.out (.inl rfl)
                                  have M1 := Lib.hid m1
                                  have M2 := Lib.hid m2
                                  clear m1 m2 S3 S4
                                  go_wp2_with fail
                                  go_roundw
                                  case rel => exact ⟨k + 1, by rw [M2.out], by go_num, by omega, by rw [M1.out]; exact R7⟩
                                  case measure => simp [intOf] <;> omega
                                | false =>
                                  by_cases h1 : o = 0
                                  · have z0 : (o == 0) = true := by rw [beq_iff_eq]; exact h1
                                    have H1 := Lib.hid h1
                                    clear h1
                                    obtain ⟨m1, m2⟩ := S3.out rfl (by unfold stopB; simp [H1.out])
                                    have M2 := Lib.hid m2
                                    have R9 := R7.out.put2 k (.bool true)
                                    rw [m1] at R9
                                    have R9 := Lib.hid R9
                                    have mm : openI (mixL (q.map (stopI o)) (q.map (·.1)) k) = openI (mixL (q.map (stopI o)) (q.map (·.1)) (k + 1)) + 1 := m2.symm
                                    have hob3 : openI (mixL (q.map (stopI o)) (q.map (·.1)) (k + 1)) ≤ 500 := by omega
                                    rw [mm]
                                    clear m1 m2 S3 S4 R7 mm hob2
                                    go_wp2_with fail
                                    go_roundw
                                    case rel => exact ⟨k + 1, by go_num, by go_num, by omega, R9⟩
                                    case measure => simp [intOf] <;> omega
                                  · have z0 : (o == 0) = false := by rw [beq_eq_false_iff_ne]; exact h1
                                    by_cases h2 : 0 < o
                                    · have z1 : decide (o > 0) = true := decide_eq_true h2
                                      have z1p : o > 0 := h2
                                      by_cases h3 : 0 < d
                                      · have z2 : decide (d > 0) = true := decide_eq_true h3
                                        have z2p : d > 0 := h3
                                        obtain ⟨m1, m2⟩ := S3.out rfl (by unfold stopB; simp [h2, h3])
                                        have M2 := Lib.hid m2
                                        have R9 := R7.out.put2 k (.bool true)
                                        rw [m1] at R9
                                        have R9 := Lib.hid R9
                                        have mm : openI (mixL (q.map (stopI o)) (q.map (·.1)) k) = openI (mixL (q.map (stopI o)) (q.map (·.1)) (k + 1)) + 1 := m2.symm
                                        have hob3 : openI (mixL (q.map (stopI o)) (q.map (·.1)) (k + 1)) ≤ 500 := by omega
                                        rw [mm]
                                        clear m1 m2 S3 S4 R7 mm hob2
                                        go_wp2_with fail
                                        go_roundw
                                        case rel => exact ⟨k + 1, by go_num, by go_num, by omega, R9⟩
                                        case measure => simp [intOf] <;> omega
                                      · have z2 : decide (d > 0) = false := decide_eq_false (by omega)
                                        have z2p : ¬ d > 0 := by omega
                                        have z3 : decide (o < 0) = false := decide_eq_false (by omega)
                                        have z3p : ¬ o < 0 := by omega
                                        obtain ⟨m1, m2⟩ := S4.out (.inr (by unfold stopB; simp <;> omega))
                                        have M1 := Lib.hid m1
                                        have M2 := Lib.hid m2
                                        clear m1 m2 S3 S4
                                        go_wp2_with fail
                                        go_roundw
                                        case rel => exact ⟨k + 1, by rw [M2.out], by go_num, by omega, by rw [M1.out]; exact R7⟩
                                        case measure => simp [intOf] <;> omega
                                    · have z1 : decide (o > 0) = false := decide_eq_false (by omega)
                                      have z1p : ¬ o > 0 := by omega
                                      have h4 : o < 0 := by omega
                                      have z3 : decide (o < 0) = true := decide_eq_true h4
                                      by_cases h3 : d < 0
                                      · have z2 : decide (d < 0) = true := decide_eq_true h3
                                        obtain ⟨m1, m2⟩ := S3.out rfl (by unfold stopB; simp [h4, h3])
                                        have M2 := Lib.hid m2
                                        have R9 := R7.out.put2 k (.bool true)
                                        rw [m1] at R9
                                        have R9 := Lib.hid R9
                                        have mm : openI (mixL (q.map (stopI o)) (q.map (·.1)) k) = openI (mixL (q.map (stopI o)) (q.map (·.1)) (k + 1)) + 1 := m2.symm
                                        have hob3 : openI (mixL (q.map (stopI o)) (q.map (·.1)) (k + 1)) ≤ 500 := by omega
                                        rw [mm]
                                        clear m1 m2 S3 S4 R7 mm hob2
                                        go_wp2_with fail
                                        go_roundw
                                        case rel => exact ⟨k + 1, by go_num, by go_num, by omega, R9⟩
                                        case measure => simp [intOf] <;> omega
                                      · have z2 : decide (d < 0) = false := decide_eq_false (by omega)
                                        obtain ⟨m1, m2⟩ := S4.out (.inr (by unfold stopB; simp <;> omega))
                                        have M1 := Lib.hid m1
                                        have M2 := Lib.hid m2
                                        clear m1 m2 S3 S4
                                        go_wp2_with fail
                                        go_roundw
                                        case rel => exact ⟨k + 1, by rw [M2.out], by go_num, by omega, by rw [M1.out]; exact R7⟩
                                        case measure => simp [intOf] <;> omega
                            · obtain rfl : n = k := by omega
                              have hltz : ¬ (n : Int) < n := by omega
                              obtain ⟨k0, hk0, hrun⟩ := SK.out
                              obtain ⟨k1, hk1, hr1, ho1⟩ := runI_more (g := gr) (inner := inner) (by omega) hk0
                              have er : roundI gr inner st = q.map (stopI o) := by
                                show (putI st (shareZ (leftI gr inner st) (wtsI gr st))).map (stopI (overI (putI st (shareZ (leftI gr inner st) (wtsI gr st))))) = _
                                rw [HP.out, HQ.out, HO.out]
                              have em : mixL (q.map (stopI o)) (q.map (·.1)) n = q.map (stopI o) := mixL_end (by simp) (by simp [HQL.out])
                              have RX : Hid ((roundI gr inner st).map It.x = l) := Lib.hid (by rw [roundI_x]; exact SX.out)
                              have RR := Lib.hid (SR.out.step (by omega))
                              have RK2 : Hid (∃ k, openI (roundI gr inner st) ≤ k ∧ (runI gr inner k (roundI gr inner st)).map It.s = sizesF inner l) := Lib.hid ⟨k1, ho1, by rw [← hr1]; exact hrun⟩
                              have lt := round_open (g := gr) (inner := inner) (l := st) (by omega)
                              have R8 : Hid (R2 W w11 2 4 gz gf n (iS (roundI gr inner st)) (iF (roundI gr inner st))) := Lib.hid (by
                                have h := R7.out.two'
                                rw [mixL_end (by simp [iF, HQL.out, HSN.out]) (by simp [iF, HSN.out])] at h
                                rw [er, stop_s]
                                exact h)
                              rw [em, ← er]
                              clear R7 em er hr1 hrun hk1 ho1 hk0
                              go_wp2_with fail
                              go_roundw
                              case rel => exact ⟨roundI gr inner st, rfl, RX, RR, RK2, R8⟩
                              case measure => simp [intOf] <;> omega
              · have h0z : ¬ ((openI st : Nat) : Int) > 0 := by omega
                have PO : Hid (ResPost inner l W (.returned (.slice (some ⟨gz, 0, none⟩) n n)) w0) := Lib.hid (by
                  obtain ⟨k, hk, e⟩ := SK.out
                  rw [runI_same k st (by omega)] at e
                  have e3 : n = (sizesF inner l).length := by rw [sizesF_len, HN.out]
                  unfold ResPost
                  rw [HRS.out, ← e3]
                  refine ⟨_, _, rfl, ?_, R1.out.low⟩
                  rw [← e, ← iS_i64s]
                  exact R1.out.one)
                go_wp2_with fail
                go_ret
                exact PO.out
end Go.Proofs.Ytodnplllkpgfaaa
