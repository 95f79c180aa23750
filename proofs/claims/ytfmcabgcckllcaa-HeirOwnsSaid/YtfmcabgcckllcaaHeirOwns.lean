import Derived.Test.YtfmcabgcckllcaaHeirAwake
import Derived.Test.YtfmcabgcckllcaaTwin
/- HeirOwns answers true. -/
namespace Go.Proofs.Ytfmcabgcckllcaa
open Go Go.RowKit
set_option linter.unusedVariables false
set_option linter.unusedSimpArgs false
set_option maxRecDepth 20000
set_option maxHeartbeats 8000000

section
variable {P : Program} {ops : Array Oper} {w0 : World} {Fin : Env → Prop} {o : Oper} {r : List Oper} {a : Act} {F : List (Tmp × Told)} {d : Tmp}
/-- A call of two arguments, the second one told. -/
theorem laneO_useCall2 {f : FuncId} {fn : Func} {c : Code} {s t : Tmp} {T : Told} {v x0 : Value} {ts : Array TypeId} (hop : o.op = .call { callee := .value (.func f), args := #[.tmp s, .tmp t], argTypes := ts }) (ho : o.dst = some d) (hd : d < a.tmps.size) (hF : F.lookup d = none)
    (hw : Region.wanted o (yielded ops a.tmps) = true) (hg : clearB F (guardSlots ops o) = true) (hs : F.lookup s = none) (hs0 : a.tmps.getD s undef = x0) (hT : F.lookup t = some T) (hf : P.funcs[f]? = some fn) (hname : (fn.name == "runtime.NumGoroutine") = false) (hb : fn.body = some c)
    (h : ∀ x w, Behind w0 w → T x w → Calls P f #[x0, x] w fun e w' => e = .returned v ∧ Below w.heap.size w w') (hr : laneO P ops w0 Fin r (envOf (a.put (some d) v) F)) : laneO P ops w0 Fin (o :: r) (envOf a F) := by
  refine laneO_use (by simp [notSelect, hop]) ho hd hF (fun a' w hb' hm => .inl ⟨?_, ?_⟩) hr
  · rw [same_wanted (a := a) fun s hs => ?_]
    · exact hw
    · have h1 := hm s (by
        unfold guardSlots at hs
        unfold Oper.looksAt
        exact List.mem_append_right _ hs)
      unfold envOf at h1
      rw [clear_spec hg hs] at h1
      exact h1
  · unfold gives
    rw [run_enter hop hf hname hb]
    have h1 := hm t (by simp [Oper.looksAt, hop, Op.operands, Call.operands])
    have h2 := hm s (by simp [Oper.looksAt, hop, Op.operands, Call.operands])
    unfold envOf at h1 h2
    rw [hT] at h1
    rw [hs] at h2
    refine ⟨Behind.refl w, ?_⟩
    have e : (#[Operand.tmp s, Operand.tmp t]).map a'.eval = #[x0, a'.tmps.getD t undef] := by
      have h3 : a'.tmps.getD s undef = x0 := h2.trans hs0
      rw [← h3]; simp [Act.eval]
    rw [e]
    exact (h _ w hb' h1).mono fun e w' ⟨he, hb⟩ => ⟨v, he, hb, rfl⟩
end
theorem own_told (ps : List Int) (hp : ps.length = 43) {x : Value} {w : World} (hx : madeT 1 34 [.int .i64 1, .int .i64 0, .int .i64 0, .int .i64 0] x w) :
    Calls Try.prog 7 #[.agg (i64s ps).toArray, x] w fun e w' => e = .returned (.agg (i64s (anonZ ps)).toArray) ∧ Below w.heap.size w w' := by
  obtain ⟨g, rfl, hg⟩ := hx
  have hW : Whole w g 34 (i64s (dCells [⟨1, 0, 0, 0⟩])) := hg
  rw [← own_anon ps]
  refine own_any ps hp [⟨1, 0, 0, 0⟩] (some ⟨g, 0, none⟩) 1 w (fun _ => ⟨_, rfl, hW.size, fun i hi => ?_⟩) (by decide)
  rw [head_add, hW.cell i]
  exact List.getElem?_eq_getElem hi
theorem heirOwns_any (ps qs : List Int) (hp : ps.length = 43) (hq : qs.length = 43) (ds : List Dc) (A : Option Addr) (c : Nat) (W : World) (hD : Row W W.heap.size A (i64s (dCells ds))) (hmd0 : ds.length ≤ 9223372036854775807) :
    Calls Try.prog 3 #[.agg (i64s ps).toArray, .agg (i64s qs).toArray, .slice A ds.length c] W fun e w' => e = .returned (.bool true) ∧ Below W.heap.size W w' := by
  have PL := Lib.hid hp
  have QL := Lib.hid hq
  have HD := Lib.hid hD
  clear hp hq hD
  obtain ⟨W0, hW0⟩ : ∃ w, (W.alloc (.cells (i64s ps).toArray 27)).alloc (.cells (i64s qs).toArray 27) = w := ⟨_, rfl⟩
  have s0 : (W.alloc (.cells (i64s ps).toArray 27)).heap.size = W.heap.size + 1 := by simp
  have PB : Hid (Whole W0 W.heap.size 27 (i64s ps)) := Lib.hid (hW0 ▸ (Whole.mk W 27 (i64s ps).toArray).made _)
  have QB : Hid (Whole W0 (W.heap.size + 1) 27 (i64s qs)) := Lib.hid (hW0 ▸ s0 ▸ Whole.mk (W.alloc (.cells (i64s ps).toArray 27)) 27 (i64s qs).toArray)
  have HB : Hid (Below W.heap.size W W0) := Lib.hid (hW0 ▸ ((Below.refl _ _).alloc (Nat.le_refl _) _).alloc (by simp) _)
  have HW0 := Lib.hid hW0
  clear hW0
  by_cases hbig : 60 < ds.length
  · have hb2 : (60 : Int) < ds.length := by omega
    go_enter Try.func3, Try.ntmps3
    go_wp2_with fail
    refine (awake_any _).mono ?_
    rintro e w1 ⟨rfl, b1⟩
    go_wp2
    go_ret
    exact ⟨rfl, (((Below.refl _ _).alloc (Nat.le_refl _) _).alloc (by simp) _).trans (b1.mono (by simp; omega))⟩
  · have hb2 : ¬ (60 : Int) < ds.length := by omega
    have hmd : ds.length ≤ 4611686018427387904 := by omega
    go_enter Try.func3, Try.ntmps3
    go_upto_region 3 with fail
    rw [HW0.out]
    clear HW0
    have zP := PB.out.size
    have zQ := QB.out.size
    have zB := HB.out.size
    have RW := Lib.hid (fun (w : World) (hw : Behind W0 w) => (HD.out.below (HB.out.trans (Below.mono hw zB))).more (show W.heap.size ≤ w.heap.size by have := hw.size; omega))
    refine region_twins [1, 4] [0, 2, 3, 5, 6, 7] [8, 9] [6, 7] (by kernel_rfl) (by kernel_rfl) (by kernel_rfl) (fun _ _ _ _ _ h => h) ?_
    simp only [pick, List.map_cons, List.map_nil, List.getD_cons_zero, List.getD_cons_succ, List.drop_succ_cons, List.drop_zero]
    repeat (go_big_quiet_step (fail))
    refine wpQuiet_nil ?_
    refine ⟨rfl, ?_⟩
    refine laneO_fixed (v := .agg (i64s (ps)).toArray) (by kernel_rfl) (fun w hw => .inl ⟨by rfl, gives_style (.tmp 3) rfl W.heap.size rfl (ps) PL.out ((PB.out).under hw zP)⟩) ?_
    simp only [Act.put, List.setIfInBounds_toArray, List.set_cons_zero, List.set_cons_succ]
    refine laneO_call (v := .agg (i64s (ownZ ps ds)).toArray) (by kernel_rfl) (by rfl) (fun C hC h0 => ?_) ?_
    focus (go_big_quiet_op; exact ⟨_, fun w hw => (own_any ps PL.out ds A c w (RW.out w (h0 w hw)) hmd).mono fun e w' ⟨he, hb⟩ => ⟨he, hC _ _ hw hb⟩, rfl⟩)
    simp only [Act.put, List.setIfInBounds_toArray, List.set_cons_zero, List.set_cons_succ]
    refine laneO_fixed (v := .agg (i64s (qs)).toArray) (by kernel_rfl) (fun w hw => .inl ⟨by rfl, gives_style (.tmp 4) rfl (W.heap.size + 1) rfl (qs) QL.out ((QB.out).under hw zQ)⟩) ?_
    simp only [Act.put, List.setIfInBounds_toArray, List.set_cons_zero, List.set_cons_succ]
    refine laneO_call (v := .agg (i64s (ownZ qs ds)).toArray) (by kernel_rfl) (by rfl) (fun C hC h0 => ?_) ?_
    focus (go_big_quiet_op; exact ⟨_, fun w hw => (own_any qs QL.out ds A c w (RW.out w (h0 w hw)) hmd).mono fun e w' ⟨he, hb⟩ => ⟨he, hC _ _ hw hb⟩, rfl⟩)
    simp only [Act.put, List.setIfInBounds_toArray, List.set_cons_zero, List.set_cons_succ]
    refine laneO_told (newT W0.heap.size 27 (i64s zeros43)) (newT_steady _ _ _) (by kernel_rfl) rfl (fun w hw => .inl ⟨by rfl, ?_⟩) ?_
    · unfold gives
      simp [go_sem]
      exact newT_new W0.heap.size 27 (i64s zeros43).toArray w hw.size
    refine laneO_told (newT W0.heap.size 27 (i64s zeros43)) (newT_steady _ _ _) (by kernel_rfl) rfl (fun w hw => .inl ⟨by rfl, ?_⟩) ?_
    · unfold gives
      simp [go_sem]
      exact newT_new W0.heap.size 27 (i64s zeros43).toArray w hw.size
    refine laneO_twins (by simp) rfl rfl rfl fun w1 hb0 => ?_
    rintro x ⟨gb, rfl, hgb, hWb⟩ y ⟨ga, rfl, hga, hWa⟩
    simp only [Act.put, List.setIfInBounds_toArray, List.set_cons_zero, List.set_cons_succ, fillAll]
    intro hap
    have hne : ga ≠ gb := by
      have := (List.pairwise_cons.1 hap).1 8 (by simp [slotsOf])
      intro e
      exact this (by subst e; rfl)
    clear hap
    have P1 := Lib.hid (PB.out.under hb0 zP)
    have HB1 := Lib.hid (HB.out.trans (Below.mono hb0 zB))
    have zp1 := P1.out.size
    have z1 := HB1.out.size
    have z01 : W0.heap.size ≤ w1.heap.size := hb0.size
    have ZA := Lib.hid hWa
    have ZB := Lib.hid hWb
    have za := hWa.size
    have zb := hWb.size
    have AL := Lib.hid (ownZ_length ps ds)
    have BL := Lib.hid (ownZ_length qs ds)
    have MD := Lib.hid (own_mend ps qs ds)
    clear hb0 RW hWa hWb
    generalize ownZ ps ds = a at *
    generalize ownZ qs ds = b at *
    go_wp2_with (first
      | (refine style_store (.tmp 7) (.tmp 19) rfl rfl ga rfl a AL.out rfl zeros43 ?_ rfl ?_; (focus (exact ZA.out)); intro w2 h2 o2; have A2 := Lib.hid h2; have ZB2 := Lib.hid (o2.whole ZB.out (by simp; omega)); have P2 := Lib.hid (o2.whole P1.out (by simp; omega)); have HB2 := Lib.hid (HB1.out.trans (o2.below (by simp; omega) z1)); have z2 := HB2.out.size; clear h2 o2)
      | (refine style_store (.tmp 8) (.tmp 22) rfl rfl gb rfl b BL.out rfl zeros43 ?_ rfl ?_; (focus (exact ZB2.out)); intro w3 h3 o3; have B3 := Lib.hid h3; have A3 := Lib.hid (o3.whole A2.out (by simp; omega)); have P3 := Lib.hid (o3.whole P2.out (by simp; omega)); have HB3 := Lib.hid (HB2.out.trans (o3.below (by simp; omega) z2)); have z3 := HB3.out.size; have zb3 := B3.out.size; clear h3 o3)
      | (refine style_load (.tmp 8) rfl rfl gb rfl b BL.out ?_ ?_; (focus (exact B3.out)))
      | (refine style_store (.tmp 9) (.tmp 23) rfl rfl w3.heap.size rfl b BL.out rfl zeros43 ?_ rfl ?_; (focus (exact Whole.mk w3 27 (i64s zeros43).toArray)); intro w4 h4 o4; have C4 := Lib.hid h4; have A4 := Lib.hid (o4.whole (A3.out.made _) (by have := A3.out.size; simp; omega)); have P4 := Lib.hid (o4.whole (P3.out.made _) (by have := P3.out.size; simp; omega)); have HB4 := Lib.hid ((HB3.out.alloc z3 _).trans (o4.below (by simp; omega) (by simp; omega))); have z4 := HB4.out.size; have zc4 := C4.out.size; clear h4 o4))
    have T5 : Hid (Whole (w4.alloc (.cells #[.bool false, .bool false, .bool false] 31)) w4.heap.size 31 [.bool false, .bool false, .bool false]) := Lib.hid (Whole.mk w4 31 #[.bool false, .bool false, .bool false])
    have zga := A4.out.size
    have zga3 := A3.out.size
    have zp3 := P3.out.size
    go_loopw [11] (fun i wr => ∃ k : Nat, k ≤ ds.length ∧ i = .int .i64 k ∧ Whole wr w4.heap.size 31 [.bool (toldB 29 (ds.take k)), .bool (toldB 30 (ds.take k)), .bool (toldB 31 (ds.take k))] ∧ Whole wr ga 27 (i64s a) ∧ Whole wr w3.heap.size 27 (i64s b) ∧ Whole wr W.heap.size 27 (i64s ps) ∧ Below W.heap.size W wr) (fun i _ => ds.length - (intOf i).toNat)
    case atStart => exact ⟨0, Nat.zero_le _, rfl, T5.out, A4.out.made _, C4.out.made _, P4.out.made _, HB4.out.alloc z4 _⟩
    case round =>
      obtain ⟨k, hk, rfl, hT, hA, hC, hP, hB⟩ := hrel
      have TR := Lib.hid hT
      have AR := Lib.hid hA
      have CR := Lib.hid hC
      have PR := Lib.hid hP
      have BR := Lib.hid hB
      have zr := hB.size
      have zt := hT.size
      clear hT hA hC hP hB
      by_cases hlt : k < ds.length
      · obtain ⟨ad, rfl, had, e0, e1, e2, e3⟩ := (HD.out.below BR.out).dec hlt
        have t0 := told_take 29 ds k hlt
        have t1 := told_take 30 ds k hlt
        have t2 := told_take 31 ds k hlt
        have DECS := Lib.hid (fun (w : World) (h : Below W.heap.size W w) => (HD.out.below h).dec hlt)
        generalize hp : ds[k].p = p at *
        generalize hw : ds[k].w = wd at *
        generalize hkk : ds[k].k = kd at *
        generalize hn : ds[k].n = nv at *
        clear hp hw hkk hn
        have T0 := Lib.hid t0
        have T1 := Lib.hid t1
        have T2 := Lib.hid t2
        clear t0 t1 t2
        generalize toldB 29 (ds.take k) = u0 at *
        generalize toldB 30 (ds.take k) = u1 at *
        generalize toldB 31 (ds.take k) = u2 at *
        go_wp2_with fail
        cases hmay : mayZ p wd kd nv with
        | false =>
          refine (rmay_val _ _ _ _ false hmay _).mono ?_
          rintro e w6 ⟨rfl, b6⟩
          have S0 := T0.out
          have S1 := T1.out
          have S2 := T2.out
          rw [hmay] at S0 S1 S2
          simp only [Bool.false_and, Bool.or_false] at S0 S1 S2
          have S0 := Lib.hid S0
          have S1 := Lib.hid S1
          have S2 := Lib.hid S2
          have TR6 := Lib.hid (TR.out.under b6 zt)
          have AR6 := Lib.hid (AR.out.under b6 AR.out.size)
          have CR6 := Lib.hid (CR.out.under b6 CR.out.size)
          have PR6 := Lib.hid (PR.out.under b6 PR.out.size)
          have BR6 := Lib.hid (BR.out.trans (b6.mono zr))
          clear b6
          go_wp2_with fail
          go_roundw
          case rel => exact ⟨k + 1, by omega, by go_num, by rw [S0.out, S1.out, S2.out]; exact TR6.out, AR6.out, CR6.out, PR6.out, BR6.out⟩
          case measure => simp [intOf]; omega
        | true =>
          refine (rmay_val _ _ _ _ true hmay _).mono ?_
          rintro e w6 ⟨rfl, b6⟩
          have TR6 := Lib.hid (TR.out.under b6 zt)
          have AR6 := Lib.hid (AR.out.under b6 AR.out.size)
          have CR6 := Lib.hid (CR.out.under b6 CR.out.size)
          have PR6 := Lib.hid (PR.out.under b6 PR.out.size)
          have BR6 := Lib.hid (BR.out.trans (b6.mono zr))
          have ne1 : w4.heap.size ≠ ga := by omega
          have ne2 : w4.heap.size ≠ w3.heap.size := by omega
          have ne3 : w4.heap.size ≠ W.heap.size := by omega
          have z46 := TR6.out.size
          clear b6 e0 e1 e2 e3
          obtain ⟨ad', ead, had', e0, -, -, -⟩ := DECS.out w6 BR6.out
          injection ead with ead
          subst ead
          clear DECS
          have S0 := T0.out
          have S1 := T1.out
          have S2 := T2.out
          rw [hmay] at S0 S1 S2
          simp only [Bool.true_and] at S0 S1 S2
          by_cases h29 : 29 ≤ p
          · by_cases h31 : p ≤ 31
            · have c0 := TR6.out.cell 0
              have c1 := TR6.out.cell 1
              have c2 := TR6.out.cell 2
              have f0 := TR6.out.free 0
              have f1 := TR6.out.free 1
              have f2 := TR6.out.free 2
              rcases (show p = 29 ∨ p = 30 ∨ p = 31 by omega) with rfl | rfl | rfl
              · simp at S0 S1 S2
                have S0 := Lib.hid S0
                have S1 := Lib.hid S1
                have S2 := Lib.hid S2
                go_wp2_with fail
                go_roundw
                case rel => exact ⟨k + 1, by omega, by go_num, by rw [S0.out, S1.out, S2.out]; exact TR6.out.put 0 _, AR6.out.other (Ne.symm ne1) _, CR6.out.other (Ne.symm ne2) _, PR6.out.other (Ne.symm ne3) _, BR6.out.setCell (by simp; omega) _⟩
                case measure => simp [intOf]; omega
              · simp at S0 S1 S2
                have S0 := Lib.hid S0
                have S1 := Lib.hid S1
                have S2 := Lib.hid S2
                go_wp2_with fail
                go_roundw
                case rel => exact ⟨k + 1, by omega, by go_num, by rw [S0.out, S1.out, S2.out]; exact TR6.out.put 1 _, AR6.out.other (Ne.symm ne1) _, CR6.out.other (Ne.symm ne2) _, PR6.out.other (Ne.symm ne3) _, BR6.out.setCell (by simp; omega) _⟩
                case measure => simp [intOf]; omega
              · simp at S0 S1 S2
                have S0 := Lib.hid S0
                have S1 := Lib.hid S1
                have S2 := Lib.hid S2
                go_wp2_with fail
                go_roundw
                case rel => exact ⟨k + 1, by omega, by go_num, by rw [S0.out, S1.out, S2.out]; exact TR6.out.put 2 _, AR6.out.other (Ne.symm ne1) _, CR6.out.other (Ne.symm ne2) _, PR6.out.other (Ne.symm ne3) _, BR6.out.setCell (by simp; omega) _⟩
                case measure => simp [intOf]; omega
            · have d0 : decide (p = 29) = false := by simp; omega
              have d1 : decide (p = 30) = false := by simp; omega
              have d2 : decide (p = 31) = false := by simp; omega
              rw [d0, Bool.or_false] at S0
              rw [d1, Bool.or_false] at S1
              rw [d2, Bool.or_false] at S2
              clear d0 d1 d2
              have S0 := Lib.hid S0
              have S1 := Lib.hid S1
              have S2 := Lib.hid S2
              go_wp2_with fail
              go_roundw
              case rel => exact ⟨k + 1, by omega, by go_num, by rw [S0.out, S1.out, S2.out]; exact TR6.out, AR6.out, CR6.out, PR6.out, BR6.out⟩
              case measure => simp [intOf]; omega
          · have d0 : decide (p = 29) = false := by simp; omega
            have d1 : decide (p = 30) = false := by simp; omega
            have d2 : decide (p = 31) = false := by simp; omega
            rw [d0, Bool.or_false] at S0
            rw [d1, Bool.or_false] at S1
            rw [d2, Bool.or_false] at S2
            clear d0 d1 d2
            have S0 := Lib.hid S0
            have S1 := Lib.hid S1
            have S2 := Lib.hid S2
            go_wp2_with fail
            go_roundw
            case rel => exact ⟨k + 1, by omega, by go_num, by rw [S0.out, S1.out, S2.out]; exact TR6.out, AR6.out, CR6.out, PR6.out, BR6.out⟩
            case measure => simp [intOf]; omega
      · obtain rfl : k = ds.length := by omega
        rw [List.take_length] at TR
        obtain ⟨x, hx⟩ : ∃ x, ps.getD 6 0 = x := ⟨_, rfl⟩
        obtain ⟨y, hy⟩ : ∃ x, ps.getD 7 0 = x := ⟨_, rfl⟩
        obtain ⟨z, hz⟩ : ∃ x, ps.getD 42 0 = x := ⟨_, rfl⟩
        have HX := Lib.hid hx
        have HY := Lib.hid hy
        have HZ := Lib.hid hz
        have hdn := MD.out
        simp only [mendZ] at hdn
        rw [hx, hy, hz] at hdn
        have DN := Lib.hid hdn
        clear hx hy hz hdn MD
        generalize toldB 29 ds = u0 at *
        generalize toldB 30 ds = u1 at *
        generalize toldB 31 ds = u2 at *
        have N1 : Hid (ga ≠ w3.heap.size) := Lib.hid (by omega)
        have N2 : Hid (W.heap.size ≠ w3.heap.size) := Lib.hid (by omega)
        have N3 : Hid (w4.heap.size ≠ w3.heap.size) := Lib.hid (by omega)
        have N4 : Hid (W.heap.size ≤ w3.heap.size) := Lib.hid (by omega)
        have cx := PR.out.at PL.out 6 (by omega)
        rw [HX.out] at cx
        have tc := TR.out.cell 0
        have fc := CR.out.free 6
        have ec := CR.out.at BL.out 6 (by omega)
        go_upto_if 61 with fail
        go_cut [] (fun wx => ∃ m, m = (if u0 = true then b else b.set 6 x) ∧ Whole wx w3.heap.size 27 (i64s m) ∧ Only [w3.heap.size] wr wx)
        case first =>
          cases u0
          · go_wp2_with fail
            go_meet
            exact ⟨_, rfl, CR.out.puts 6 x, (Only.refl _ _).setCell _ (.inl (by simp)) _⟩
          · go_wp2_with fail
            go_meet
            exact ⟨_, rfl, CR.out, Only.refl _ _⟩
        case rest =>
          obtain ⟨m0, hm0, hc0, ho0⟩ := hcut
          have CR0 := Lib.hid hc0
          have TR0 := Lib.hid (ho0.whole TR.out (by simp; exact N3.out))
          have AR0 := Lib.hid (ho0.whole AR.out (by simp; exact N1.out))
          have PR0 := Lib.hid (ho0.whole PR.out (by simp; exact N2.out))
          have BR0 := Lib.hid (BR.out.trans (ho0.below (by simp; exact N4.out) BR.out.size))
          have DN0 := Lib.hid (DN.out)
          rw [← hm0] at DN0
          have ML0 : Hid (m0.length = 43) := Lib.hid (by rw [hm0]; split <;> simp [BL.out])
          clear hc0 ho0 cx tc fc ec hm0
          generalize wc = wk0 at *
          have cx := PR0.out.at PL.out 7 (by omega)
          rw [HY.out] at cx
          have tc := TR0.out.cell 1
          have fc := CR0.out.free 7
          have ec := CR0.out.at ML0.out 7 (by omega)
          go_upto_if 67 with fail
          go_cut [] (fun wx => ∃ m, m = (if u1 = true then m0 else m0.set 7 y) ∧ Whole wx w3.heap.size 27 (i64s m) ∧ Only [w3.heap.size] wk0 wx)
          case first =>
            cases u1
            · go_wp2_with fail
              go_meet
              exact ⟨_, rfl, CR0.out.puts 7 y, (Only.refl _ _).setCell _ (.inl (by simp)) _⟩
            · go_wp2_with fail
              go_meet
              exact ⟨_, rfl, CR0.out, Only.refl _ _⟩
          case rest =>
            obtain ⟨m1, hm1, hc1, ho1⟩ := hcut
            have CR1 := Lib.hid hc1
            have TR1 := Lib.hid (ho1.whole TR0.out (by simp; exact N3.out))
            have AR1 := Lib.hid (ho1.whole AR0.out (by simp; exact N1.out))
            have PR1 := Lib.hid (ho1.whole PR0.out (by simp; exact N2.out))
            have BR1 := Lib.hid (BR0.out.trans (ho1.below (by simp; exact N4.out) BR0.out.size))
            have DN1 := Lib.hid (DN0.out)
            rw [← hm1] at DN1
            have ML1 : Hid (m1.length = 43) := Lib.hid (by rw [hm1]; split <;> simp [ML0.out])
            clear hc1 ho1 cx tc fc ec hm1
            generalize wc = wk1 at *
            have cx := PR1.out.at PL.out 42 (by omega)
            rw [HZ.out] at cx
            have tc := TR1.out.cell 2
            have fc := CR1.out.free 42
            have ec := CR1.out.at ML1.out 42 (by omega)
            go_upto_if 73 with fail
            go_cut [] (fun wx => ∃ m, m = (if u2 = true then m1 else m1.set 42 z) ∧ Whole wx w3.heap.size 27 (i64s m) ∧ Only [w3.heap.size] wk1 wx)
            case first =>
              cases u2
              · go_wp2_with fail
                go_meet
                exact ⟨_, rfl, CR1.out.puts 42 z, (Only.refl _ _).setCell _ (.inl (by simp)) _⟩
              · go_wp2_with fail
                go_meet
                exact ⟨_, rfl, CR1.out, Only.refl _ _⟩
            case rest =>
              obtain ⟨m2, hm2, hc2, ho2⟩ := hcut
              have CR2 := Lib.hid hc2
              have TR2 := Lib.hid (ho2.whole TR1.out (by simp; exact N3.out))
              have AR2 := Lib.hid (ho2.whole AR1.out (by simp; exact N1.out))
              have PR2 := Lib.hid (ho2.whole PR1.out (by simp; exact N2.out))
              have BR2 := Lib.hid (BR1.out.trans (ho2.below (by simp; exact N4.out) BR1.out.size))
              have DN2 := Lib.hid (DN1.out)
              rw [← hm2] at DN2
              have ML2 : Hid (m2.length = 43) := Lib.hid (by rw [hm2]; split <;> simp [ML1.out])
              clear hc2 ho2 cx tc fc ec hm2
              generalize wc = wk2 at *
              have EA : Hid (a = m2) := Lib.hid DN2.out
              rw [EA.out] at AL AR2
              have zk := BR2.out.size
              go_wp2_with fail
              refine (root_any ds A c _ ((HD.out.below BR2.out).more zk) hmd).mono ?_
              rintro e w9 ⟨rfl, b9⟩
              have AR9 := Lib.hid (AR2.out.under b9 AR2.out.size)
              have CR9 := Lib.hid (CR2.out.under b9 CR2.out.size)
              have PR9 := Lib.hid (PR2.out.under b9 PR2.out.size)
              have BR9 := Lib.hid (BR2.out.trans (b9.mono zk))
              have RL := Lib.hid (rootZ_length ds)
              have RD := Lib.hid (root_display ds)
              clear b9 AR2 CR2 PR2 BR2
              generalize rootZ ds = r at *
              have z9 := BR9.out.size
              have za9 := AR9.out.size
              have zc9 := CR9.out.size
              have zp9 := PR9.out.size
              go_upto_region 18 with (refine style_store (.tmp 12) (.tmp 78) rfl rfl w9.heap.size rfl r RL.out rfl zeros43 ?_ rfl ?_; (focus (exact Whole.mk w9 27 (i64s zeros43).toArray)); intro w10 h10 o10; have R10 := Lib.hid h10; have A10 := Lib.hid (o10.whole (AR9.out.made _) (by simp; omega)); have C10 := Lib.hid (o10.whole (CR9.out.made _) (by simp; omega)); have P10 := Lib.hid (o10.whole (PR9.out.made _) (by simp; omega)); have B10 := Lib.hid ((BR9.out.alloc z9 _).trans (o10.below (by simp; omega) (by simp; omega))); clear h10 o10)
              have z10 := B10.out.size
              have za10 := A10.out.size
              have zc10 := C10.out.size
              have zp10 := P10.out.size
              have rc := R10.out.at RL.out 0 (by omega)
              obtain ⟨dv, hdv⟩ : ∃ v, r.getD 0 0 = v := ⟨_, rfl⟩
              have rd := RD.out
              rw [hdv] at rc rd
              clear hdv RD
              have KR : ∀ s : Later w10.heap.size w10, s.w.cell? ⟨w9.heap.size, 0, none⟩ = some (.int .i64 dv) := fun s => (s.h.cell (p := ⟨w9.heap.size, 0, none⟩) R10.out.size).trans rc
              have d1 : (dv != 1) = true := by rcases rd with rfl | rfl <;> rfl
              have d3 : (dv != 3) = true := by rcases rd with rfl | rfl <;> rfl
              clear rd
              refine region_lane [] (List.range 26) [] (by kernel_rfl) (by kernel_rfl) (fun _ _ _ _ _ h => h) ?_
              simp only [pick, List.map_nil]
              refine wpQuiet_nil ⟨rfl, ?_⟩
              rw [show List.range 26 = [0, 1, 2, 3, 4, 5, 6, 7, 8, 9, 10, 11, 12, 13, 14, 15, 16, 17, 18, 19, 20, 21, 22, 23, 24, 25] from rfl]
              simp only [List.map_cons, List.map_nil, List.getD_cons_zero, List.getD_cons_succ, List.drop_succ_cons, List.drop_zero]
              refine laneO_fixed (v := .agg (i64s m2).toArray) (by kernel_rfl) (fun w hw => .inl ⟨by rfl, gives_style (.tmp 7) rfl ga rfl m2 ML2.out (A10.out.under hw za10)⟩) ?_
              simp only [Act.put, List.setIfInBounds_toArray, List.set_cons_zero, List.set_cons_succ]
              refine laneO_fixed (v := .agg (i64s m2).toArray) (by kernel_rfl) (fun w hw => .inl ⟨by rfl, gives_style (.tmp 9) rfl w3.heap.size rfl m2 ML2.out (C10.out.under hw zc10)⟩) ?_
              simp only [Act.put, List.setIfInBounds_toArray, List.set_cons_zero, List.set_cons_succ]
              refine laneO_fixed (v := .bool true) (by kernel_rfl) (fun w hw => .inl ⟨by rfl, gives_style_eql (.tmp 79) (.tmp 80) _ rfl m2 ML2.out rfl rfl⟩) ?_
              simp only [Act.put, List.setIfInBounds_toArray, List.set_cons_zero, List.set_cons_succ]
              refine laneO_run 11 (by kernel_rfl) ?_
              simp only [List.take_succ_cons, List.take_zero, List.drop_succ_cons, List.drop_zero]
              repeat (go_big_quiet_step (fail))
              refine wpQuiet_nil ?_
              refine laneO_fixed (v := .agg (i64s ps).toArray) (by kernel_rfl) (fun w hw => .inl ⟨by rfl, gives_style (.tmp 3) rfl W.heap.size rfl ps PL.out (P10.out.under hw zp10)⟩) ?_
              simp only [Act.put, List.setIfInBounds_toArray, List.set_cons_zero, List.set_cons_succ]
              refine laneO_call (v := .agg (i64s (anonZ ps)).toArray) (by kernel_rfl) (by rfl) (fun C hC h0 => ?_) ?_
              focus (go_big_quiet_op; exact ⟨_, fun w hw => (anon_any ps PL.out w).mono fun e w' ⟨he, hb⟩ => ⟨he, hC _ _ hw hb⟩, rfl⟩)
              simp only [Act.put, List.setIfInBounds_toArray, List.set_cons_zero, List.set_cons_succ]
              refine laneO_fixed (v := .agg (i64s ps).toArray) (by kernel_rfl) (fun w hw => .inl ⟨by rfl, gives_style (.tmp 3) rfl W.heap.size rfl ps PL.out (P10.out.under hw zp10)⟩) ?_
              simp only [Act.put, List.setIfInBounds_toArray, List.set_cons_zero, List.set_cons_succ]
              refine laneO_fixed (v := .agg #[.int .i64 1, .int .i64 0, .int .i64 0, .int .i64 0]) (by kernel_rfl) (fun w hw => .inl ⟨by rfl, ?_⟩) ?_
              · unfold gives
                simp [go_sem]
                exact Behind.refl w
              simp only [Act.put, List.setIfInBounds_toArray, List.set_cons_zero, List.set_cons_succ]
              refine laneO_told (madeT 1 34 [.int .i64 1, .int .i64 0, .int .i64 0, .int .i64 0]) (madeT_steady _ _ _) (by kernel_rfl) rfl (fun w hw => .inl ⟨by rfl, ?_⟩) ?_
              · unfold gives
                simp [go_sem]
                exact madeT_new 1 34 #[.int .i64 1, .int .i64 0, .int .i64 0, .int .i64 0] w
              refine laneO_useCall2 (v := .agg (i64s (anonZ ps)).toArray) rfl rfl (of_decide_eq_true (by rfl)) rfl (by rfl) (by rfl) rfl rfl rfl Try.func7 (by kernel_rfl) rfl (fun x w hw hx => own_told ps PL.out hx) ?_
              simp only [Act.put, List.setIfInBounds_toArray, List.set_cons_zero, List.set_cons_succ]
              refine laneO_fixed (v := .bool true) (by kernel_rfl) (fun w hw => .inl ⟨by rfl, gives_style_eql (.tmp 94) (.tmp 98) _ rfl (anonZ ps) (anonZ_length ps) rfl rfl⟩) ?_
              simp only [Act.put, List.setIfInBounds_toArray, List.set_cons_zero, List.set_cons_succ]
              refine laneO_run 2 (by kernel_rfl) ?_
              simp only [List.take_succ_cons, List.take_zero, List.drop_succ_cons, List.drop_zero]
              repeat (go_big_quiet_step (fail))
              refine wpQuiet_nil ?_
              refine laneO_call (v := .bool true) (by kernel_rfl) (by rfl) (fun C hC h0 => ?_) ?_
              focus (go_big_quiet_op; exact ⟨_, fun w hw => (awake_any w).mono fun e w' ⟨he, hb⟩ => ⟨he, hC _ _ hw hb⟩, rfl⟩)
              simp only [Act.put, List.setIfInBounds_toArray, List.set_cons_zero, List.set_cons_succ]
              refine laneO_run 2 (by kernel_rfl) ?_
              simp only [List.take_succ_cons, List.take_zero, List.drop_succ_cons, List.drop_zero]
              repeat (go_big_quiet_step (fail))
              refine wpQuiet_nil ?_
              refine laneO_end (by simp) rfl rfl rfl fun w11 hb0 => ?_
              rintro xx ⟨gq, rfl, hq⟩
              simp only [Act.put, List.setIfInBounds_toArray, List.set_cons_zero, List.set_cons_succ, fillAll]
              have B11 := Lib.hid (B10.out.trans (Below.mono hb0 z10))
              clear hb0 hq
              go_wp2_with fail
              go_ret
              exact ⟨rfl, B11.out⟩
end Go.Proofs.Ytfmcabgcckllcaa
