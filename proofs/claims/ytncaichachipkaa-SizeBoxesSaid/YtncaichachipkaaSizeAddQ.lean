import Derived.Test.YtncaichachipkaaSizePartQ
import Derived.Test.YtncaichachipkaaGlyphTQ
import Derived.Test.YtncaichachipkaaZQ
/- size: what a part takes, a part's content. -/
namespace Go.Proofs.Ytncaichachipkaa
open Go Go.RowKit
set_option linter.unusedVariables false
set_option linter.unusedSimpArgs false
set_option maxRecDepth 20000
set_option maxHeartbeats 4000000

/-- What lies behind (*part).add: three cells written behind what a call made. -/
def AddPost (W : World) (g q : Nat) (s gr : Int) (e : Ending) (w' : World) : Prop := e = .returned (.tuple #[]) ∧ ∃ w1, Below W.heap.size W w1 ∧
  w' = ((w1.setCell ⟨g, q + 2, none⟩ (.int .i64 (tH s))).setCell ⟨g, q + 3, none⟩ (.int .u64 (tL s))).setCell ⟨g, q + 4, none⟩ (.int .i64 gr)
theorem add_part (p : Pt) (s gr n : Int) (hs : Tot s) (hn : I64 n) (g q : Nat) (W : World) (hg : g < W.heap.size) (hp : W.rangeAt g q (ptC p s gr)) (hf : ∀ j, W.frozen? ⟨g, q + j, none⟩ = false) :
    Calls Try.prog 21 #[.pointer (some ⟨g, q, none⟩), .int .i64 n] W (AddPost W g q (s + n) (max gr n)) := by
  have P := Lib.hid (fun w => plus_any s n hs hn w)
  obtain ⟨-, -, c2, c3, -⟩ := part_cells hp
  have HR := Lib.hid (fun w1 (hb : Below W.heap.size W w1) => (⟨part_cells (range_keep hp (hb.block g hg)), fun j => (World.frozen?_of_block (w := W) (a := ⟨g, q + j, none⟩) (hb.block g hg)).trans (hf j)⟩ : _ ∧ _))
  clear hp hf hs hn
  go_enter Try.func21, Try.ntmps21
  go_wp2_with fail
  refine (P.out _).mono ?_
  rintro e w1 ⟨rfl, hb⟩
  obtain ⟨⟨-, -, d2, d3, d4⟩, df⟩ := HR.out w1 hb
  have f2 := df 2
  have f3 := df 3
  have f4 := df 4
  have HB := Lib.hid hb
  clear df HR c2 c3 hb
  go_upto_region 1 with fail
  have d4' : ((w1.setCell ⟨g, q + 2, none⟩ (.int .i64 (tH (s + n)))).setCell ⟨g, q + 3, none⟩ (.int .u64 (tL (s + n)))).cell? ⟨g, q + 4, none⟩ = some (.int .i64 gr) := by
    rw [World.cell?_setCell_other _ _ _ _ (by intro h; injection h with _ h _; omega), World.cell?_setCell_other _ _ _ _ (by intro h; injection h with _ h _; omega)]; exact d4
  have f4' : ((w1.setCell ⟨g, q + 2, none⟩ (.int .i64 (tH (s + n)))).setCell ⟨g, q + 3, none⟩ (.int .u64 (tL (s + n)))).frozen? ⟨g, q + 4, none⟩ = false := by
    simpa using f4
  have F : Hid (∃ w1', Below W.heap.size W w1' ∧ (w1.setCell ⟨g, q + 2, none⟩ (.int .i64 (tH (s + n)))).setCell ⟨g, q + 3, none⟩ (.int .u64 (tL (s + n))) = (w1'.setCell ⟨g, q + 2, none⟩ (.int .i64 (tH (s + n)))).setCell ⟨g, q + 3, none⟩ (.int .u64 (tL (s + n)))) := Lib.hid ⟨w1, HB.out, rfl⟩
  clear HB d2 d3 d4 f2 f3 f4
  generalize (w1.setCell ⟨g, q + 2, none⟩ (.int .i64 (tH (s + n)))).setCell ⟨g, q + 3, none⟩ (.int .u64 (tL (s + n))) = w2 at *
  obtain ⟨m, hm⟩ : ∃ m, max gr n = m := ⟨_, rfl⟩
  have HM := Lib.hid hm
  rw [hm]
  clear hm
  go_wp2
  all_goals
    refine bodyPost_end (v := .tuple #[]) (results_none (by kernel_rfl) _ _ _) rfl ⟨rfl, ?_⟩
    obtain ⟨w1', hb, e⟩ := F.out
    have e2 := HM.out
    first
      | exact ⟨w1', hb, by rw [← e, show m = n by omega]⟩
      | exact ⟨w1', hb, by rw [← e, show m = gr by omega]⟩
theorem partZ_lines (zs : List Int) (least : Bool) (st : List Int) (rs : List Rn) (s gr : Int) : partZ zs least 2 st rs s gr = linesZ zs least rs := rfl
theorem content_part (p : Pt) (s gr : Int) (zs : List Int) (hz : zs.length = 256) (least : Bool) (hs : Tot s) (g q gm : Nat) (W : World) (hp : W.rangeAt g q (ptC p s gr)) (hb : BoxAt W (· < W.heap.size) p.bx p.g p.q) (hg : g < W.heap.size)
    (hm : Whole W gm 25 (i64s zs)) (hF : p.bx.k = 2 → FineR zs p.bx.runs) :
    Calls Try.prog 22 #[.pointer (some ⟨g, q, none⟩), .pointer (some ⟨gm, 0, none⟩), .bool least] W fun e w' => e = .returned (.int .i64 (partZ zs least p.bx.k p.bx.st p.bx.runs s gr)) ∧ Below W.heap.size W w' := by
  obtain ⟨c0, -, c2, c3, c4⟩ := part_cells hp
  obtain ⟨d0, hl, -, hS, -, ⟨R, cr, d46, hR⟩⟩ := hb.cells
  have HM := Lib.hid hm
  have ZM := hm.size
  have HZ := Lib.hid hz
  have IR := Lib.hid (isRow_any p s gr _ least g q W hp hb)
  have HD := Lib.hid (fun w => held_all s hs w)
  have E := Lib.hid (show partZ zs least p.bx.k p.bx.st p.bx.runs s gr = if p.bx.k = 2 then linesZ zs least p.bx.runs else if rowZ p.bx.k p.bx.st least = true then heldT s else gr from rfl)
  have HR := Lib.hid (hR.row (B := W.heap.size) fun g hg => hg)
  have HF := Lib.hid hF
  have hbg : p.g < W.heap.size := hb.1
  clear hp hb hS hm hz hR hl hs hF
  generalize partZ zs least p.bx.k p.bx.st p.bx.runs s gr = out at *
  generalize rowZ p.bx.k p.bx.st least = rw_ at *
  generalize p.g = bg at *
  generalize p.q = bq at *
  generalize p.bx.k = k at *
  generalize p.bx.runs = rs at *
  by_cases h2 : k = 2
  · subst h2
    obtain ⟨f1, f2, f3⟩ := HF.out rfl
    have E2 := Lib.hid (show out = linesZ zs least rs by rw [E.out, if_pos rfl])
    have G := Lib.hid (fun w (hw : Below W.heap.size W w) (hs : W.heap.size ≤ w.heap.size) => glyphs_any zs HZ.out rs R cr w ((HR.out.below hw).more hs) f1 f2)
    have F3 := Lib.hid f3
    have B0 := Lib.hid (Below.refl W.heap.size W)
    have yc0 : ∀ t : Later W.heap.size W, t.w.cell? ⟨g, q, none⟩ = some (.pointer (some ⟨bg, bq, none⟩)) := fun t => (t.h.cell (p := ⟨g, q, none⟩) hg).trans c0
    have yd46 : ∀ t : Later W.heap.size W, t.w.cell? ⟨bg, bq + 46, none⟩ = some (.slice R rs.length cr) := fun t => (t.h.cell (p := ⟨bg, bq + 46, none⟩) hbg).trans d46
    clear E IR HD HF HR f1 f2 f3 c2 c3 c4
    cases least
    · have E3 := Lib.hid (show out = widZ [4] (glyphsL zs rs) from E2.out)
      clear E2
      go_enter Try.func22, Try.ntmps22
      go_upto_region 4 with fail
      refine region_lane [] [0, 1, 2, 3, 4, 5, 6, 7, 8, 9, 10, 11] [12] (by kernel_rfl) (by kernel_rfl) (fun _ _ _ _ _ h => h) ?_
      simp only [pick, List.map_nil]
      refine wpQuiet_nil ⟨rfl, ?_⟩
      simp only [List.map_cons, List.map_nil, List.getD_cons_zero, List.getD_cons_succ, List.drop_succ_cons, List.drop_zero]
      refine laneO_run 2 (by kernel_rfl) ?_
      simp only [List.take_succ_cons, List.take_zero, List.drop_succ_cons, List.drop_zero]
      repeat (go_big_quiet_step (fail))
      refine wpQuiet_nil ?_
      refine laneO_fixed (v := .agg (i64s zs).toArray) (by kernel_rfl) (fun w hw => .inl ⟨by rfl, flat_gives met_flat (.tmp 41) rfl gm rfl zs HZ.out 25 (HM.out.under hw ZM)⟩) ?_
      simp only [Act.put, List.setIfInBounds_toArray, List.set_cons_zero, List.set_cons_succ]
      refine laneO_run 7 (by kernel_rfl) ?_
      simp only [List.take_succ_cons, List.take_zero, List.drop_succ_cons, List.drop_zero]
      repeat (go_big_quiet_step (fail))
      refine wpQuiet_nil ?_
      refine laneO_callT (glT (glyphsL zs rs)) (glT_steady _) rfl rfl (by rfl) (by rfl) Try.func27 (by kernel_rfl) rfl (fun a' w hw hm => ?_) ?_
      focus (have h11 := hm 42 (by simp); have h12 := hm 49 (by simp); have e1 : a'.eval (.tmp 42) = .agg (i64s zs).toArray := h11; have e2 : a'.eval (.tmp 49) = .slice R rs.length cr := h12; simp only [List.map_toArray, List.map_cons, List.map_nil, e1, e2]; exact (G.out w hw hw.size).mono fun e w' h => post_told h)
      refine laneO_useCall (v := .int .i64 (widZ [4] (glyphsL zs rs))) rfl rfl (of_decide_eq_true (by rfl)) rfl (by rfl) (by rfl) rfl Try.func28 (by kernel_rfl) rfl (fun x w hw hx => (by obtain ⟨A, c, rfl, hr⟩ := hx; exact most_any _ F3.out A c w hr)) ?_
      simp only [Act.put, List.setIfInBounds_toArray, List.set_cons_zero, List.set_cons_succ]
      refine laneO_end (by simp) rfl rfl rfl fun w4 hb0 => ?_
      rintro v ⟨A, c, rfl, hg1⟩
      simp only [Act.put, List.setIfInBounds_toArray, List.set_cons_zero, List.set_cons_succ, fillAll]
      go_wp2
      go_ret
      exact ⟨ret_int E3.out.symm, B0.out.trans hb0⟩
    · have E3 := Lib.hid (show out = widZ [2, 4] (glyphsL zs rs) from E2.out)
      clear E2
      go_enter Try.func22, Try.ntmps22
      go_upto_region 2 with fail
      refine region_lane [] [0, 1, 2, 3, 4, 5, 6, 7, 8, 9, 10, 11] [12] (by kernel_rfl) (by kernel_rfl) (fun _ _ _ _ _ h => h) ?_
      simp only [pick, List.map_nil]
      refine wpQuiet_nil ⟨rfl, ?_⟩
      simp only [List.map_cons, List.map_nil, List.getD_cons_zero, List.getD_cons_succ, List.drop_succ_cons, List.drop_zero]
      refine laneO_run 2 (by kernel_rfl) ?_
      simp only [List.take_succ_cons, List.take_zero, List.drop_succ_cons, List.drop_zero]
      repeat (go_big_quiet_step (fail))
      refine wpQuiet_nil ?_
      refine laneO_fixed (v := .agg (i64s zs).toArray) (by kernel_rfl) (fun w hw => .inl ⟨by rfl, flat_gives met_flat (.tmp 20) rfl gm rfl zs HZ.out 25 (HM.out.under hw ZM)⟩) ?_
      simp only [Act.put, List.setIfInBounds_toArray, List.set_cons_zero, List.set_cons_succ]
      refine laneO_run 7 (by kernel_rfl) ?_
      simp only [List.take_succ_cons, List.take_zero, List.drop_succ_cons, List.drop_zero]
      repeat (go_big_quiet_step (fail))
      refine wpQuiet_nil ?_
      refine laneO_callT (glT (glyphsL zs rs)) (glT_steady _) rfl rfl (by rfl) (by rfl) Try.func27 (by kernel_rfl) rfl (fun a' w hw hm => ?_) ?_
      focus (have h11 := hm 21 (by simp); have h12 := hm 28 (by simp); have e1 : a'.eval (.tmp 21) = .agg (i64s zs).toArray := h11; have e2 : a'.eval (.tmp 28) = .slice R rs.length cr := h12; simp only [List.map_toArray, List.map_cons, List.map_nil, e1, e2]; exact (G.out w hw hw.size).mono fun e w' h => post_told h)
      refine laneO_useCall (v := .int .i64 (widZ [2, 4] (glyphsL zs rs))) rfl rfl (of_decide_eq_true (by rfl)) rfl (by rfl) (by rfl) rfl Try.func26 (by kernel_rfl) rfl (fun x w hw hx => (by obtain ⟨A, c, rfl, hr⟩ := hx; exact least_any _ F3.out A c w hr)) ?_
      simp only [Act.put, List.setIfInBounds_toArray, List.set_cons_zero, List.set_cons_succ]
      refine laneO_end (by simp) rfl rfl rfl fun w4 hb0 => ?_
      rintro v ⟨A, c, rfl, hg1⟩
      simp only [Act.put, List.setIfInBounds_toArray, List.set_cons_zero, List.set_cons_succ, fillAll]
      go_wp2
      go_ret
      exact ⟨ret_int E3.out.symm, B0.out.trans hb0⟩
  · have b2 : (k == 2) = false := by rw [beq_eq_false_iff_ne]; exact h2
    have E2 := Lib.hid (show out = if rw_ = true then heldT s else gr by rw [E.out, if_neg h2])
    clear E HF HR HM HZ h2
    cases rw_
    · have E3 := Lib.hid (show out = gr by rw [E2.out]; rfl)
      cases least
      · go_enter Try.func22, Try.ntmps22
        go_wp2_with fail
        refine IR.out.mono ?_
        rintro e w' ⟨rfl, rfl⟩
        go_wp2
        go_ret
        exact ⟨ret_int E3.out.symm, Below.refl _ _⟩
      · go_enter Try.func22, Try.ntmps22
        go_wp2_with fail
        refine IR.out.mono ?_
        rintro e w' ⟨rfl, rfl⟩
        go_wp2
        go_ret
        exact ⟨ret_int E3.out.symm, Below.refl _ _⟩
    · have E3 := Lib.hid (show out = heldT s by rw [E2.out, if_pos rfl])
      cases least
      · go_enter Try.func22, Try.ntmps22
        go_wp2_with fail
        refine IR.out.mono ?_
        rintro e w' ⟨rfl, rfl⟩
        go_wp2_with fail
        refine (HD.out _).mono ?_
        rintro e w' ⟨rfl, hb⟩
        have HB := Lib.hid hb
        clear hb
        go_wp2
        go_ret
        exact ⟨ret_int E3.out.symm, HB.out⟩
      · go_enter Try.func22, Try.ntmps22
        go_wp2_with fail
        refine IR.out.mono ?_
        rintro e w' ⟨rfl, rfl⟩
        go_wp2_with fail
        refine (HD.out _).mono ?_
        rintro e w' ⟨rfl, hb⟩
        have HB := Lib.hid hb
        clear hb
        go_wp2
        go_ret
        exact ⟨ret_int E3.out.symm, HB.out⟩
end Go.Proofs.Ytncaichachipkaa
