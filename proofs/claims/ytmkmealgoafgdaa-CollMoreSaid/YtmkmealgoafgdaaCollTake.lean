import Derived.Test.YtmkmealgoafgdaaCollNum
import Derived.Test.YtmkmealgoafgdaaTotAbove
import Derived.Test.YtmkmealgoafgdaaExactSum
import Derived.Test.YtmkmealgoafgdaaLaneC
import Derived.Test.YtmkmealgoafgdaaPush
/- coll.taken. -/
namespace Go.Proofs.Ytmkmealgoafgdaa
open Go Go.RowKit
set_option linter.unusedVariables false
set_option linter.unusedSimpArgs false
set_option maxRecDepth 20000
set_option maxHeartbeats 4000000

theorem sum_flat : FlatT Try.prog 41 2 := ⟨⟨_, Try.underlying41, rfl⟩, by kernel_rfl⟩
/-- exact.Of of a literal of one. -/
theorem of_one (x : Int) (hx : I64 x) (g : Nat) (w : World) (h : w.heap[g]? = some (.cells #[.int .i64 x] 2 (0, 0))) :
    Calls Try.prog 18 #[.slice (some ⟨g, 0, none⟩) 1 1] w fun e w' => e = .returned (totV x) ∧ Below w.heap.size w w' := by
  have hR : Row w w.heap.size (some ⟨g, 0, none⟩) (i64s [x]) := fun _ => by
    have hlt : g < w.heap.size := (Array.getElem?_eq_some_iff.1 h).1
    refine ⟨_, rfl, hlt, fun i hi => ?_⟩
    obtain rfl : i = 0 := by simp [i64s] at hi; omega
    rw [head_add]
    simp [World.cell?, h, i64s]
  have := of_any [x] (fun z hz => by simp at hz; rw [hz]; exact hx) (by simp) (some ⟨g, 0, none⟩) 1 w hR
  simpa using this
theorem sum_take (l : List Int) (i : Nat) (h : i < l.length) : (l.take (i + 1)).sum = (l.take i).sum + l[i] := by
  rw [List.take_succ_eq_append_getElem h, List.sum_append, List.sum_singleton]
theorem takeC_at (inner : Int) (l : List Int) (i : Nat) (h : i < l.length) : takeC inner (l.drop i) (l.take i).sum = if inner < (l.take i).sum + l[i] then 0 else takeC inner (l.drop (i + 1)) (l.take (i + 1)).sum + 1 := by
  rw [List.drop_eq_getElem_cons h, sum_take l i h]; rfl
theorem firstC_start (inner : Int) (l : List Int) (h : 0 < l.length) : 1 + takeC inner (l.drop 1) (l.take 1).sum = firstC inner true l := by
  cases l with
  | nil => simp at h
  | cons x r => unfold firstC; simp; omega
theorem taken_any (l : List Int) (hl : 0 < l.length) (hn : l.length ≤ 1000) (hz : ∀ z ∈ l, I64 z) (inner : Int) (hi : I64 inner) (A : Option Addr) (c : Nat) (W : World) (hR : Row W W.heap.size A (i64s l)) :
    Calls Try.prog 14 #[.slice A l.length c, .int .i64 inner] W fun e w' => e = .returned (.int .i64 (firstC inner true l)) ∧ Below W.heap.size W w' := by
  have HR := Lib.hid hR
  have HZ := Lib.hid hz
  have HF := Lib.hid (firstC_start inner l hl)
  obtain ⟨ad, rfl, hb, r0⟩ := hR.int hl
  have I0 : I64 l[0] := hz _ (List.getElem_mem hl)
  have ES : Hid ((l.take 1).sum = l[0]) := Lib.hid (by rw [sum_take l 0 hl]; simp)
  have hlz : (0 : Int) < l.length := by omega
  clear hR hz
  generalize l[0] = x at *
  have O0 := Lib.hid (fun g w h => of_one x I0 g w h)
  have O1 := Lib.hid (fun g w h => of_one inner hi g w h)
  clear I0 hi
  have c0 : W.cell? ad = some (.int .i64 x) := by
    have e : ad.add 0 = ad := by unfold Addr.add; split <;> simp_all
    rwa [e] at r0
  clear r0
  go_enter Try.func14, Try.ntmps14
  go_wp2_with fail
  refine (O0.out _ _ (Whole.mk _ _ _)).mono ?_
  rintro e w1 ⟨rfl, hb1⟩
  go_wp2_with fail
  refine (O1.out _ _ (Whole.mk _ _ _)).mono ?_
  rintro e w2 ⟨rfl, hb2⟩
  have B2 : Hid (Below W.heap.size W w2) := Lib.hid (((((Below.refl W.heap.size W).alloc (Nat.le_refl _) _).trans (hb1.mono (by simp))).alloc (by have := hb1.size; simp at this; omega) _).trans (hb2.mono (by have := hb1.size; simp at this ⊢; omega)))
  clear hb1 hb2 O0 O1 c0
  go_upto_region 2 with fail
  have S0 : Hid (Whole ((w2.alloc (.cells #[.int .i64 (tH x), .int .u64 (tL x)] 41)).alloc (.cells #[.int .i64 (tH inner), .int .u64 (tL inner)] 41)) w2.heap.size 41 [.int .i64 (tH x), .int .u64 (tL x)]) :=
    Lib.hid ((Whole.mk w2 41 #[.int .i64 (tH x), .int .u64 (tL x)]).made _)
  have R0 : Hid (Whole ((w2.alloc (.cells #[.int .i64 (tH x), .int .u64 (tL x)] 41)).alloc (.cells #[.int .i64 (tH inner), .int .u64 (tL inner)] 41)) (w2.heap.size + 1) 41 [.int .i64 (tH inner), .int .u64 (tL inner)]) :=
    Lib.hid (by have h := Whole.mk (w2.alloc (.cells #[.int .i64 (tH x), .int .u64 (tL x)] 41)) 41 #[.int .i64 (tH inner), .int .u64 (tL inner)]; simpa using h)
  have hsz := B2.out.size
  have B3 := Lib.hid ((B2.out.alloc hsz (.cells #[.int .i64 (tH x), .int .u64 (tL x)] 41)).alloc (by simp; omega) (.cells #[.int .i64 (tH inner), .int .u64 (tL inner)] 41))
  clear B2
  generalize (w2.alloc _).alloc _ = w3 at *
  obtain ⟨g, hg⟩ : ∃ g, w2.heap.size = g := ⟨_, rfl⟩
  rw [hg] at S0 R0 hsz ⊢
  clear hg
  obtain ⟨T, hT⟩ : ∃ T, firstC inner true l = T := ⟨_, rfl⟩
  rw [hT] at HF
  have HT := Lib.hid hT
  rw [← ES.out] at S0
  clear ES hT
  go_wp2_with fail
  go_loopw [7] (fun v7 wr => ∃ i : Nat, v7 = .int .i64 i ∧ 1 ≤ i ∧ i ≤ l.length ∧ Hid (Whole wr g 41 [.int .i64 (tH (l.take i).sum), .int .u64 (tL (l.take i).sum)]) ∧ Hid (Whole wr (g + 1) 41 [.int .i64 (tH inner), .int .u64 (tL inner)]) ∧ Hid (Below W.heap.size W wr) ∧ Hid (i + takeC inner (l.drop i) (l.take i).sum = T)) (fun v7 _ => l.length - (intOf v7).toNat)
  case atStart => exact ⟨1, rfl, Nat.le_refl _, hl, S0, R0, B3, HF⟩
  case round =>
    clear S0 R0 B3 HF
    obtain ⟨i, rfl, h1, hil, S0, R0, B3, HF⟩ := hrel
    by_cases hlt : i < l.length
    · have hltz : (i : Int) < l.length := by omega
      obtain ⟨ad, e2, hb, r0⟩ := (HR.out.below B3.out).int hlt
      injection e2 with e2
      subst e2
      have TT : Tot (l.take i).sum := tot_sum _ (fun z hz => HZ.out z (List.mem_of_mem_take hz)) (by rw [List.length_take]; omega)
      have I0 : I64 l[i] := HZ.out _ (List.getElem_mem hlt)
      have TA := takeC_at inner l i hlt
      rw [sum_take l i hlt] at TA
      have TS := Lib.hid (sum_take l i hlt)
      have HF := HF.out
      rw [TA] at HF
      have HF := Lib.hid HF
      clear TA
      generalize l[i] = z at *
      obtain ⟨S, hS⟩ : ∃ S, (l.take i).sum = S := ⟨_, rfl⟩
      rw [hS] at S0 TT HF TS
      clear hS
      have P := Lib.hid (fun w => plus_any S z TT I0 w)
      clear TT I0
      have hsl := B3.out.size
      have hbg := S0.out.size
      have hbg2 := R0.out.size
      have ZS := Lib.hid (fun w (hw : Behind wr w) => S0.out.under hw hbg)
      have cz : ∀ t : Later wr.heap.size wr, t.w.cell? (ad.add i) = some (.int .i64 z) := fun t => (t.h.cell (p := ad.add i) (by rw [add_block]; omega)).trans r0
      clear r0
      go_upto_region 5 with fail
      refine region_lane [] [0, 1, 2, 3, 4, 5] [6] (by kernel_rfl) (by kernel_rfl) (fun _ _ _ _ _ h => h) ?_
      simp only [pick, List.map_nil]
      refine wpQuiet_nil ⟨rfl, ?_⟩
      simp only [List.map_cons, List.map_nil, List.getD_cons_zero, List.getD_cons_succ, List.drop_succ_cons, List.drop_zero]
      refine laneO_fixed (v := .agg #[.int .i64 (tH S), .int .u64 (tL S)]) (by kernel_rfl) (fun w hw => .inl ⟨by rfl, cells_gives sum_flat (.tmp 5) rfl g rfl [.int .i64 (tH S), .int .u64 (tL S)] rfl 41 (ZS.out w hw)⟩) ?_
      simp only [Act.put, List.setIfInBounds_toArray, List.set_cons_zero, List.set_cons_succ]
      refine laneO_run 4 (by kernel_rfl) ?_
      simp only [List.take_succ_cons, List.take_zero, List.drop_succ_cons, List.drop_zero]
      repeat (go_big_quiet_step (fail))
      refine wpQuiet_nil ?_
      refine laneO_call (v := totV (S + z)) (by kernel_rfl) (by rfl) (fun C hC h0 => ?_) ?_
      focus (go_big_quiet_op; exact ⟨_, fun w hw => (P.out w).mono fun e w' ⟨he, hb⟩ => ⟨he, hC _ _ hw hb⟩, rfl⟩)
      simp only [Act.put, List.setIfInBounds_toArray, List.set_cons_zero, List.set_cons_succ]
      refine laneO_end0 rfl rfl fun w5 hb0 => ?_
      clear cz ZS P
      have S1 := Lib.hid (S0.out.under hb0 hbg)
      have R1 := Lib.hid (R0.out.under hb0 hbg2)
      have B1 := Lib.hid (B3.out.trans (hb0.mono hsl))
      have f0 := S1.out.free 0
      have f1 := S1.out.free 1
      have e0 := S1.out.cell 0
      have e1 := S1.out.cell 1
      simp only [List.getElem?_cons_zero, List.getElem?_cons_succ] at e0 e1
      have S2 := Lib.hid ((S1.out.put 0 (.int .i64 (tH (S + z)))).put 1 (.int .u64 (tL (S + z))))
      simp only [List.set_cons_zero, List.set_cons_succ] at S2
      have R2 := Lib.hid ((R1.out.other (p := ⟨g, 0, none⟩) (by simp) (.int .i64 (tH (S + z)))).other (p := ⟨g, 1, none⟩) (by simp) (.int .u64 (tL (S + z))))
      have B2 := Lib.hid ((B1.out.setCell (p := ⟨g, 0, none⟩) (by simp; omega) (.int .i64 (tH (S + z)))).setCell (p := ⟨g, 1, none⟩) (by simp; omega) (.int .u64 (tL (S + z))))
      clear hb0 S0 R0 B3 hsl hbg hbg2
      go_upto_region 6 with fail
      generalize (w5.setCell _ _).setCell _ _ = w6 at *
      clear S1 R1 B1 f0 f1 e0 e1
      have a0 := S2.out.cell 0
      have a1 := S2.out.cell 1
      have b0 := R2.out.cell 0
      have b1 := R2.out.cell 1
      simp only [List.getElem?_cons_zero, List.getElem?_cons_succ] at a0 a1 b0 b1
      have hg1 := S2.out.size
      have hg2 := R2.out.size
      have hg3 := B2.out.size
      go_wp2_with fail
      refine (above_any (S + z) inner _).mono ?_
      rintro e w7 ⟨rfl, hb7⟩
      have S3 := Lib.hid (S2.out.under hb7 hg1)
      have R3 := Lib.hid (R2.out.under hb7 hg2)
      have B3 := Lib.hid (B2.out.trans (hb7.mono hg3))
      clear S2 R2 B2 hb7 a0 a1 b0 b1 hg1 hg2 hg3
      by_cases hab : inner < S + z
      · have hd : decide (inner < S + z) = true := decide_eq_true hab
        have E := Lib.hid (show i = T by have := HF.out; rw [if_pos hab] at this; omega)
        rw [hd]
        go_wp2_with fail
        go_ret
        exact ⟨congrArg (fun n : Nat => Ending.returned (.int .i64 n)) (E.out.trans HT.out.symm), B3.out⟩
      · have hd : decide (inner < S + z) = false := decide_eq_false hab
        have E := Lib.hid (show i + 1 + takeC inner (l.drop (i + 1)) (l.take (i + 1)).sum = T by have := HF.out; rw [if_neg hab] at this; rw [TS.out]; omega)
        rw [← TS.out] at S3
        rw [hd]
        go_wp2_with fail
        go_roundw
        case rel => exact ⟨i + 1, by go_num, by omega, by omega, S3, R3, B3, E⟩
        case measure => simp [intOf] <;> omega
    · obtain rfl : i = l.length := by omega
      have E := Lib.hid (show l.length = T by have := HF.out; rw [List.drop_length] at this; simpa [takeC] using this)
      go_wp2_with fail
      go_ret
      exact ⟨congrArg (fun n : Nat => Ending.returned (.int .i64 n)) (E.out.trans HT.out.symm), B3.out⟩
end Go.Proofs.Ytmkmealgoafgdaa
