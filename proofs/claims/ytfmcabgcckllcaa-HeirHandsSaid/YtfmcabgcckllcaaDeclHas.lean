import Derived.Test.YtfmcabgcckllcaaDeclForm
/- decl: has a length's form a declaration? -/
namespace Go.Proofs.Ytfmcabgcckllcaa
open Go Go.RowKit
set_option linter.unusedVariables false
set_option linter.unusedSimpArgs false
set_option maxRecDepth 20000
set_option maxHeartbeats 4000000

def lenB (em pc mn : Bool) (w k n : Int) : Bool := decide (w = 0 ∧ ((k = 0 ∧ em = false ∧ n = 0) ∨ (k = 1 ∧ holdsB mn n 6400000 = true) ∨ (k = 2 ∧ pc = true ∧ holdsB mn n 999999 = true)))
theorem px_most : pxZ 99999999 = 6400000 := by decide
theorem pxm_any (w : World) : Calls Try.prog 68 #[.int .i64 99999999] w fun e w' => e = .returned (.int .i64 6400000) ∧ w = w' := by
  have := px_any 99999999 w (by omega) (by omega)
  rwa [px_most] at this
theorem holds_val (a : ByteArray) (pc mn : Bool) (n most : Int) (h0 : 0 ≤ most) (h1 : most ≤ 6400000) (b : Bool) (hb : holdsB mn n most = b) (W : World) : Calls Try.prog 65 #[.agg #[.string a, .bool pc, .bool mn], .int .i64 n, .int .i64 most] W fun e w' => e = .returned (.bool b) ∧ Below W.heap.size W w' :=
  hb ▸ holds_any a pc mn n most h0 h1 W
theorem lengthHas_any (a : ByteArray) (em : Bool) (ha : (a = ⟨#[]⟩ ∧ em = true) ∨ (a = ⟨#[110, 111, 110, 101]⟩ ∧ em = false) ∨ (a = ⟨#[97, 117, 116, 111]⟩ ∧ em = false)) (pc mn : Bool) (p w k n : Int) (W : World) :
    Calls Try.prog 64 #[.agg #[.string a, .bool pc, .bool mn], .agg #[.int .i64 p, .int .i64 w, .int .i64 k, .int .i64 n]] W fun e w' => e = .returned (.bool (lenB em pc mn w k n)) ∧ Below W.heap.size W w' := by
  have HBW := Lib.hid (show Below W.heap.size W ((W.alloc (.cells #[.string a, .bool pc, .bool mn] 70)).alloc (.cells #[.int .i64 p, .int .i64 w, .int .i64 k, .int .i64 n] 34)) from ((Below.refl _ _).alloc (Nat.le_refl _) _).alloc (by simp) _)
  by_cases hw : w = 0
  · subst hw
    rcases (show k = 0 ∨ k = 1 ∨ k = 2 ∨ (k ≠ 0 ∧ k ≠ 1 ∧ k ≠ 2) by omega) with rfl | rfl | rfl | ⟨k0, k1, k2⟩
    · have hr : lenB em pc mn 0 0 n = (!em && decide (n = 0)) := by unfold lenB; cases em <;> simp
      have HR := Lib.hid hr
      clear hr
      rcases ha with ⟨rfl, rfl⟩ | ⟨rfl, rfl⟩ | ⟨rfl, rfl⟩
      all_goals
        go_enter Try.func64, Try.ntmps64
        go_wp2
        all_goals
          go_ret
          exact ⟨ret_bool (Eq.trans (by first | (simp; done) | (rw [Bool.eq_iff_iff]; simp)) HR.out.symm), HBW.out⟩
    · have hr : lenB em pc mn 0 1 n = holdsB mn n 6400000 := by unfold lenB; simp
      have HR := Lib.hid hr
      clear hr ha
      go_enter Try.func64, Try.ntmps64
      go_upto_region 7 with fail
      generalize hW1 : (W.alloc (.cells #[.string a, .bool pc, .bool mn] 70)).alloc (.cells #[.int .i64 p, .int .i64 0, .int .i64 1, .int .i64 n] 34) = W1 at *
      have E0 := (Whole.mk W 70 #[.string a, .bool pc, .bool mn]).made (.cells #[.int .i64 p, .int .i64 0, .int .i64 1, .int .i64 n] 34)
      have E1 := Whole.mk (W.alloc (.cells #[.string a, .bool pc, .bool mn] 70)) 34 #[.int .i64 p, .int .i64 0, .int .i64 1, .int .i64 n]
      rw [hW1] at E0 E1
      rw [World.size_alloc] at E1
      have K0 : ∀ s : Later W1.heap.size W1, s.w.cell? ⟨W.heap.size, 0, none⟩ = some (.string a) := fun s => (E0.under s.h E0.size).cell 0
      have K1 : ∀ s : Later W1.heap.size W1, s.w.cell? ⟨W.heap.size, 1, none⟩ = some (.bool pc) := fun s => (E0.under s.h E0.size).cell 1
      have K2 : ∀ s : Later W1.heap.size W1, s.w.cell? ⟨W.heap.size, 2, none⟩ = some (.bool mn) := fun s => (E0.under s.h E0.size).cell 2
      have K3 : ∀ s : Later W1.heap.size W1, s.w.cell? ⟨W.heap.size + 1, 3, none⟩ = some (.int .i64 n) := fun s => (E1.under s.h E1.size).cell 3
      have HS := Lib.hid HBW.out.size
      clear E0 E1 hW1
      refine region_lane [1, 2] [0, 3, 4, 5] [6] (by kernel_rfl) (by kernel_rfl) (fun _ _ _ _ _ h => h) ?_
      simp only [pick, List.map_cons, List.map_nil, List.getD_cons_zero, List.getD_cons_succ, List.drop_succ_cons, List.drop_zero]
      repeat (go_big_quiet_step (fail))
      refine wpQuiet_nil ?_
      refine ⟨rfl, ?_⟩
      refine laneO_run 2 (by kernel_rfl) ?_
      simp only [List.take_succ_cons, List.take_zero, List.drop_succ_cons, List.drop_zero]
      repeat (go_big_quiet_step (fail))
      refine wpQuiet_nil ?_
      refine laneO_call (v := .int .i64 6400000) (by kernel_rfl) (by rfl) (fun C hC h0 => ?_) ?_
      focus (go_big_quiet_op; exact ⟨_, fun w hw => (pxm_any w).mono fun e w' ⟨he, hb⟩ => ⟨he, hb ▸ hw⟩, rfl⟩)
      simp only [Act.put, List.setIfInBounds_toArray, List.set_cons_zero, List.set_cons_succ]
      refine laneO_call (v := .bool (holdsB mn n 6400000)) (by kernel_rfl) (by rfl) (fun C hC h0 => ?_) ?_
      focus (go_big_quiet_op; exact ⟨_, fun w hw => (holds_any a pc mn n 6400000 (by omega) (by omega) w).mono fun e w' ⟨he, hb⟩ => ⟨he, hC _ _ hw hb⟩, rfl⟩)
      simp only [Act.put, List.setIfInBounds_toArray, List.set_cons_zero, List.set_cons_succ]
      refine laneO_end0 rfl rfl fun w2 hb0 => ?_
      have hb2 : Below W1.heap.size W1 w2 := hb0
      have HB2 := Lib.hid (HBW.out.trans (hb2.mono HS.out))
      clear hb0 hb2 K0 K1 K2 K3
      go_wp2
      go_ret
      exact ⟨ret_bool HR.out.symm, HB2.out⟩
    · have hr : lenB em pc mn 0 2 n = (pc && holdsB mn n 999999) := by unfold lenB; cases pc <;> simp
      have HR := Lib.hid hr
      clear hr ha
      cases pc with
      | false =>
        go_enter Try.func64, Try.ntmps64
        go_wp2
        go_ret
        exact ⟨ret_bool HR.out.symm, HBW.out⟩
      | true =>
        go_enter Try.func64, Try.ntmps64
        go_wp2_with (go_at_call 65; refine (holds_any a true mn n 999999 (by omega) (by omega) _).mono ?_; rintro e w1 ⟨rfl, b⟩; have B := Lib.hid b; clear b)
        go_ret
        exact ⟨ret_bool HR.out.symm, HBW.out.trans (B.out.mono HBW.out.size)⟩
    · have hr : lenB em pc mn 0 k n = false := by unfold lenB; simp [k0, k1, k2]
      have HR := Lib.hid hr
      clear hr ha
      go_enter Try.func64, Try.ntmps64
      go_wp2
      go_ret
      exact ⟨ret_bool HR.out.symm, HBW.out⟩
  · have hr : lenB em pc mn w k n = false := by unfold lenB; simp [hw]
    have HR := Lib.hid hr
    clear hr ha
    go_enter Try.func64, Try.ntmps64
    go_wp2
    go_ret
    exact ⟨ret_bool HR.out.symm, HBW.out⟩
end Go.Proofs.Ytfmcabgcckllcaa
