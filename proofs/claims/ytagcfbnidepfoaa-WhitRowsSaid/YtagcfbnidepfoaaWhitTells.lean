import Derived.Test.YtagcfbnidepfoaaWhitAwake
import Derived.Test.YtagcfbnidepfoaaRefGlyphs
import Derived.Test.YtagcfbnidepfoaaGlyphRuns
import Derived.Test.YtagcfbnidepfoaaRunsOf
import Derived.Test.YtagcfbnidepfoaaLaneC
import Derived.Test.YtagcfbnidepfoaaTameM
/- WhitTells answers true. -/
namespace Go.Proofs.Ytagcfbnidepfoaa
open Go Go.RowKit
set_option linter.unusedVariables false
set_option linter.unusedSimpArgs false
set_option maxRecDepth 20000
set_option maxHeartbeats 8000000

def glT (l : List Gl) : Told := fun v w => ∃ (A : Option Addr) (c : Nat), v = .slice A l.length c ∧ Row w w.heap.size A (i64s (gCells l))
def rnT (l : List Rn) : Told := fun v w => ∃ (A : Option Addr) (c : Nat), v = .slice A l.length c ∧ Row w w.heap.size A (rCells l)
theorem glT_steady (l : List Gl) : Steady (glT l) := fun v w w' hb ⟨A, c, h1, h2⟩ => ⟨A, c, h1, (h2.below hb).more hb.size⟩
theorem rnT_steady (l : List Rn) : Steady (rnT l) := fun v w w' hb ⟨A, c, h1, h2⟩ => ⟨A, c, h1, (h2.below hb).more hb.size⟩
theorem post_told {zs : List Int} {rs : List Rn} {W : World} {e : Ending} {w' : World} (h : GlyphPost zs rs W e w') : ∃ v, e = .returned v ∧ Behind W w' ∧ glT (glyphsL zs rs) v w' := by
  obtain ⟨A, c, he, ho, hb⟩ := h
  exact ⟨_, he, hb, A, c, rfl, row_of_own ho⟩
theorem glyphs_told (zs : List Int) (hz : zs.length = 256) (rs : List Rn) (hn : rs.length ≤ 100000) (hsz : sizeAll rs ≤ 100000) (v : Value) (W : World) (hv : rnT rs v W) :
    Calls Try.prog 10 #[.agg (i64s zs).toArray, v] W fun e w' => ∃ v, e = .returned v ∧ Behind W w' ∧ glT (glyphsL zs rs) v w' := by
  obtain ⟨A, c, rfl, hR⟩ := hv
  exact (glyphs_any zs hz rs A c W hR (by omega) hsz).mono fun e w' h => post_told h
theorem rglyphs_told (zs : List Int) (hz : zs.length = 256) (rs : List Rn) (hn : rs.length ≤ 100000) (hsz : sizeAll rs ≤ 100000) (v : Value) (W : World) (hv : rnT rs v W) :
    Calls Try.prog 14 #[.agg (i64s zs).toArray, v] W fun e w' => ∃ v, e = .returned v ∧ Behind W w' ∧ glT (glyphsL zs rs) v w' := by
  obtain ⟨A, c, rfl, hR⟩ := hv
  exact (rglyphs_any zs hz rs A c W hR (by omega) hsz).mono fun e w' h => post_told h
theorem same_told (l : List Gl) (hn : l.length ≤ 100000) (v v' : Value) (W : World) (h : glT l v W) (h' : glT l v' W) :
    Calls Try.prog 13 #[v, v'] W fun e w' => e = .returned (.bool true) ∧ Behind W w' := by
  obtain ⟨A, c, rfl, hR⟩ := h
  obtain ⟨A', c', rfl, hR'⟩ := h'
  exact same_any l A A' c c' W _ _ hR hR' (Nat.le_refl _) (Nat.le_refl _) (by omega)
theorem runs_told (l : List Int) (A : Option Addr) (c : Nat) (W : World) (hR : Row W W.heap.size A (i64s l)) (hm : l.length ≤ 9223372036854775807) :
    Calls Try.prog 9 #[.slice A l.length c] W fun e w' => ∃ v, e = .returned v ∧ Behind W w' ∧ rnT (runsL l) v w' :=
  (runs_any l A c W hR hm).mono fun e w' ⟨A', c', he, ho, hb⟩ => ⟨_, he, hb, A', c', rfl, row_of_own ho⟩
theorem whitTells_any (zs : List Int) (hl : zs.length = 256) (rs : List Rn) (A : Option Addr) (c : Nat) (l : List Int) (A' : Option Addr) (c' : Nat) (W : World) (hR : Row W W.heap.size A (rCells rs)) (hR' : Row W W.heap.size A' (i64s l))
    (hn : rs.length ≤ 9223372036854775807) (ht : ∀ (k : Nat) (h : k < rs.length), rs[k].text.size ≤ 9223372036854775807) (hn' : l.length ≤ 9223372036854775807) :
    Calls Try.prog 5 #[.agg (i64s zs).toArray, .slice A rs.length c, .slice A' l.length c'] W fun e w' => e = .returned (.bool true) ∧ Below W.heap.size W w' := by
  have HL := Lib.hid hl
  have HR := Lib.hid hR
  have HR' := Lib.hid hR'
  have M0 := Lib.hid (Whole.mk W 24 (i64s zs).toArray)
  have HB0 := Lib.hid ((Below.refl W.heap.size W).alloc (Nat.le_refl _) (.cells (i64s zs).toArray 24))
  have z0 := M0.out.size
  have CF := Lib.hid (fun w (hb : Below W.heap.size W w) => few_any rs A c w W.heap.size (hR.below hb) hn ht)
  have FS := Lib.hid (fewB_size rs)
  clear hl hR hR' ht
  cases hf : fewB rs with
  | false =>
    rw [hf] at CF
    go_enter Try.func5, Try.ntmps5
    go_wp2_with fail
    refine (CF.out _ HB0.out).mono ?_
    rintro e w' ⟨rfl, rfl⟩
    go_wp2_with fail
    refine (wawake_any _).mono ?_
    rintro e w1 ⟨rfl, b1⟩
    have B1 := Lib.hid (HB0.out.trans (b1.mono (by omega)))
    clear b1
    go_wp2
    go_ret
    exact ⟨rfl, B1.out⟩
  | true =>
    rw [hf] at CF
    obtain ⟨hlen, hsz⟩ := FS.out hf
    clear FS hf
    obtain ⟨q1, q2⟩ := runsL_size l
    have YL := Lib.hid (tameM_length zs true HL.out)
    have TA := Lib.hid (tame_any zs HL.out true)
    have L1 := Lib.hid (show (glyphsL zs rs).length ≤ 100000 by have := glyphsL_length zs rs; omega)
    have L2 := Lib.hid (show (glyphsL (tameM zs true) (runsL l)).length ≤ 100000 by have := glyphsL_length (tameM zs true) (runsL l); omega)
    generalize tameM zs true = ys at *
    go_enter Try.func5, Try.ntmps5
    go_wp2_with fail
    refine (CF.out _ HB0.out).mono ?_
    rintro e w' ⟨rfl, rfl⟩
    go_upto_region 3 with fail
    generalize W.alloc (.cells (i64s zs).toArray 24) = W1 at *
    have RA := Lib.hid (fun (w : World) (hw : Behind W1 w) => (HR.out.below (HB0.out.trans (Below.mono hw (by omega)))).more (show W.heap.size ≤ w.heap.size by have := hw.size; omega))
    have RB := Lib.hid (fun (w : World) (hw : Behind W1 w) => (HR'.out.below (HB0.out.trans (Below.mono hw (by omega)))).more (show W.heap.size ≤ w.heap.size by have := hw.size; omega))
    refine region_lane [] (List.range 23) [23] (by kernel_rfl) (by kernel_rfl) (fun _ _ _ _ _ h => h) ?_
    simp only [pick, List.map_nil]
    refine wpQuiet_nil ⟨rfl, ?_⟩
    rw [show List.range 23 = [0, 1, 2, 3, 4, 5, 6, 7, 8, 9, 10, 11, 12, 13, 14, 15, 16, 17, 18, 19, 20, 21, 22] from rfl]
    simp only [List.map_cons, List.map_nil, List.getD_cons_zero, List.getD_cons_succ, List.drop_succ_cons, List.drop_zero]
    refine laneO_fixed (v := .agg (i64s zs).toArray) (by kernel_rfl) (fun w hw => .inl ⟨by rfl, flat_gives met_flat (.tmp 3) rfl W.heap.size rfl zs HL.out 24 (M0.out.under hw z0)⟩) ?_
    simp only [Act.put, List.setIfInBounds_toArray, List.set_cons_zero, List.set_cons_succ]
    refine laneO_run 1 (by kernel_rfl) ?_
    simp only [List.take_succ_cons, List.take_zero, List.drop_succ_cons, List.drop_zero]
    repeat (go_big_quiet_step (fail))
    refine wpQuiet_nil ?_
    refine laneO_callT (glT (glyphsL zs rs)) (glT_steady _) rfl rfl (by rfl) (by rfl) Try.func10 (by kernel_rfl) rfl (fun a' w hw hm => ?_) ?_
    · have h11 := hm 11 (by simp)
      have h12 := hm 12 (by simp)
      have e1 : a'.eval (.tmp 11) = .agg (i64s zs).toArray := h11
      have e2 : a'.eval (.tmp 12) = .slice A rs.length c := h12
      simp only [List.map_toArray, List.map_cons, List.map_nil, e1, e2]
      exact glyphs_told zs HL.out rs (by omega) (by omega) _ w ⟨A, c, rfl, RA.out w hw⟩
    refine laneO_fixed (v := .agg (i64s zs).toArray) (by kernel_rfl) (fun w hw => .inl ⟨by rfl, flat_gives met_flat (.tmp 3) rfl W.heap.size rfl zs HL.out 24 (M0.out.under hw z0)⟩) ?_
    simp only [Act.put, List.setIfInBounds_toArray, List.set_cons_zero, List.set_cons_succ]
    refine laneO_run 1 (by kernel_rfl) ?_
    simp only [List.take_succ_cons, List.take_zero, List.drop_succ_cons, List.drop_zero]
    repeat (go_big_quiet_step (fail))
    refine wpQuiet_nil ?_
    refine laneO_callT (glT (glyphsL zs rs)) (glT_steady _) rfl rfl (by rfl) (by rfl) Try.func14 (by kernel_rfl) rfl (fun a' w hw hm => ?_) ?_
    · have h14 := hm 14 (by simp)
      have h15 := hm 15 (by simp)
      have e1 : a'.eval (.tmp 14) = .agg (i64s zs).toArray := h14
      have e2 : a'.eval (.tmp 15) = .slice A rs.length c := h15
      simp only [List.map_toArray, List.map_cons, List.map_nil, e1, e2]
      exact rglyphs_told zs HL.out rs (by omega) (by omega) _ w ⟨A, c, rfl, RA.out w hw⟩
    refine laneO_callV (v := .bool true) rfl rfl (of_decide_eq_true (by rfl)) rfl (by rfl) (by rfl) Try.func13 (by kernel_rfl) rfl (fun a' w hw hm => ?_) ?_
    · have h13 := hm 13 (by simp)
      have h16 := hm 16 (by simp)
      have e1 : glT (glyphsL zs rs) (a'.eval (.tmp 13)) w := h13
      have e2 : glT (glyphsL zs rs) (a'.eval (.tmp 16)) w := h16
      simp only [List.map_toArray, List.map_cons, List.map_nil]
      exact same_told _ L1.out _ _ w e1 e2
    simp only [Act.put, List.setIfInBounds_toArray, List.set_cons_zero, List.set_cons_succ]
    refine laneO_run 1 (by kernel_rfl) ?_
    simp only [List.take_succ_cons, List.take_zero, List.drop_succ_cons, List.drop_zero]
    repeat (go_big_quiet_step (fail))
    refine wpQuiet_nil ?_
    refine laneO_fixed (v := .agg (i64s zs).toArray) (by kernel_rfl) (fun w hw => .inl ⟨by rfl, flat_gives met_flat (.tmp 3) rfl W.heap.size rfl zs HL.out 24 (M0.out.under hw z0)⟩) ?_
    simp only [Act.put, List.setIfInBounds_toArray, List.set_cons_zero, List.set_cons_succ]
    refine laneO_call (v := .agg (i64s ys).toArray) (by kernel_rfl) (by rfl) (fun C hC h0 => ?_) ?_
    focus (go_big_quiet_op; exact ⟨_, fun w hw => (TA.out w).mono fun e w' ⟨he, hb⟩ => ⟨he, hC _ _ hw hb⟩, rfl⟩)
    simp only [Act.put, List.setIfInBounds_toArray, List.set_cons_zero, List.set_cons_succ]
    refine laneO_run 1 (by kernel_rfl) ?_
    simp only [List.take_succ_cons, List.take_zero, List.drop_succ_cons, List.drop_zero]
    repeat (go_big_quiet_step (fail))
    refine wpQuiet_nil ?_
    refine laneO_callT (rnT (runsL l)) (rnT_steady _) rfl rfl (by rfl) (by rfl) Try.func9 (by kernel_rfl) rfl (fun a' w hw hm => ?_) ?_
    · have h21 := hm 21 (by simp)
      have e1 : a'.eval (.tmp 21) = .slice A' l.length c' := h21
      simp only [List.map_toArray, List.map_cons, List.map_nil, e1]
      exact runs_told l A' c' w (RB.out w hw) hn'
    refine laneO_callT (glT (glyphsL ys (runsL l))) (glT_steady _) rfl rfl (by rfl) (by rfl) Try.func10 (by kernel_rfl) rfl (fun a' w hw hm => ?_) ?_
    · have h20 := hm 20 (by simp)
      have h22 := hm 22 (by simp)
      have e1 : a'.eval (.tmp 20) = .agg (i64s ys).toArray := h20
      have e2 : rnT (runsL l) (a'.eval (.tmp 22)) w := h22
      simp only [List.map_toArray, List.map_cons, List.map_nil, e1]
      exact glyphs_told ys YL.out (runsL l) (by omega) (by omega) _ w e2
    refine laneO_fixed (v := .agg (i64s zs).toArray) (by kernel_rfl) (fun w hw => .inl ⟨by rfl, flat_gives met_flat (.tmp 3) rfl W.heap.size rfl zs HL.out 24 (M0.out.under hw z0)⟩) ?_
    simp only [Act.put, List.setIfInBounds_toArray, List.set_cons_zero, List.set_cons_succ]
    refine laneO_call (v := .agg (i64s ys).toArray) (by kernel_rfl) (by rfl) (fun C hC h0 => ?_) ?_
    focus (go_big_quiet_op; exact ⟨_, fun w hw => (TA.out w).mono fun e w' ⟨he, hb⟩ => ⟨he, hC _ _ hw hb⟩, rfl⟩)
    simp only [Act.put, List.setIfInBounds_toArray, List.set_cons_zero, List.set_cons_succ]
    refine laneO_run 1 (by kernel_rfl) ?_
    simp only [List.take_succ_cons, List.take_zero, List.drop_succ_cons, List.drop_zero]
    repeat (go_big_quiet_step (fail))
    refine wpQuiet_nil ?_
    refine laneO_callT (rnT (runsL l)) (rnT_steady _) rfl rfl (by rfl) (by rfl) Try.func9 (by kernel_rfl) rfl (fun a' w hw hm => ?_) ?_
    · have h26 := hm 26 (by simp)
      have e1 : a'.eval (.tmp 26) = .slice A' l.length c' := h26
      simp only [List.map_toArray, List.map_cons, List.map_nil, e1]
      exact runs_told l A' c' w (RB.out w hw) hn'
    refine laneO_callT (glT (glyphsL ys (runsL l))) (glT_steady _) rfl rfl (by rfl) (by rfl) Try.func14 (by kernel_rfl) rfl (fun a' w hw hm => ?_) ?_
    · have h25 := hm 25 (by simp)
      have h27 := hm 27 (by simp)
      have e1 : a'.eval (.tmp 25) = .agg (i64s ys).toArray := h25
      have e2 : rnT (runsL l) (a'.eval (.tmp 27)) w := h27
      simp only [List.map_toArray, List.map_cons, List.map_nil, e1]
      exact rglyphs_told ys YL.out (runsL l) (by omega) (by omega) _ w e2
    refine laneO_callV (v := .bool true) rfl rfl (of_decide_eq_true (by rfl)) rfl (by rfl) (by rfl) Try.func13 (by kernel_rfl) rfl (fun a' w hw hm => ?_) ?_
    · have h23 := hm 23 (by simp)
      have h28 := hm 28 (by simp)
      have e1 : glT (glyphsL ys (runsL l)) (a'.eval (.tmp 23)) w := h23
      have e2 : glT (glyphsL ys (runsL l)) (a'.eval (.tmp 28)) w := h28
      simp only [List.map_toArray, List.map_cons, List.map_nil]
      exact same_told _ L2.out _ _ w e1 e2
    simp only [Act.put, List.setIfInBounds_toArray, List.set_cons_zero, List.set_cons_succ]
    refine laneO_run 2 (by kernel_rfl) ?_
    simp only [List.take_succ_cons, List.take_zero, List.drop_succ_cons, List.drop_zero]
    repeat (go_big_quiet_step (fail))
    refine wpQuiet_nil ?_
    refine laneO_call (v := .bool true) (by kernel_rfl) (by rfl) (fun C hC h0 => ?_) ?_
    focus (go_big_quiet_op; exact ⟨_, fun w hw => (wawake_any w).mono fun e w' ⟨he, hb⟩ => ⟨he, hC _ _ hw hb⟩, rfl⟩)
    simp only [Act.put, List.setIfInBounds_toArray, List.set_cons_zero, List.set_cons_succ]
    refine laneO_run 1 (by kernel_rfl) ?_
    simp only [List.take_succ_cons, List.take_zero, List.drop_succ_cons, List.drop_zero]
    repeat (go_big_quiet_step (fail))
    refine wpQuiet_nil ?_
    refine laneO_end (by simp) rfl rfl rfl fun w2 hb0 => ?_
    rintro x1 - x2 - x3 - x4 - x5 - x6 -
    simp only [Act.put, List.setIfInBounds_toArray, List.set_cons_zero, List.set_cons_succ, fillAll]
    have HB2 := Lib.hid (HB0.out.trans (Below.mono hb0 (by omega)))
    clear hb0 RA RB
    go_wp2
    go_ret
    exact ⟨rfl, HB2.out⟩
end Go.Proofs.Ytagcfbnidepfoaa
