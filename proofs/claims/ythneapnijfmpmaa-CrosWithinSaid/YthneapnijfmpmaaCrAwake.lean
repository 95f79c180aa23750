import Derived.Test.YthneapnijfmpmaaCros
import Derived.Test.YthneapnijfmpmaaKSame
import Derived.Test.YthneapnijfmpmaaRows3
/- quoinlaw20.awake answers true. -/
namespace Go.Proofs.Ythneapnijfmpmaa
open Go Go.RowKit
set_option linter.unusedVariables false
set_option linter.unusedSimpArgs false
set_option maxRecDepth 20000
set_option maxHeartbeats 4000000

theorem rowC_lit (w : World) (cs : Array Value) (t : TypeId) : Row (w.alloc (.cells cs t)) (w.alloc (.cells cs t)).heap.size (some ⟨w.heap.size, 0, none⟩) cs.toList := (row_new w cs t).more (by simp)
/-- Lines' answer as a row. -/
theorem bg_row {l zs : List Int} {whole : Int} {rev : Bool} {n : Nat} {W w' : World} {e : Ending} (h : BegPost l whole rev W e w') (hz : begsZ l whole rev = zs) (hn : l.length = n) :
    ∃ A c, e = .returned (.slice A n c) ∧ Row w' w'.heap.size A (i64s zs) ∧ Below W.heap.size W w' := by
  obtain ⟨A, c, rfl, o, hb⟩ := h
  subst hz hn
  exact ⟨A, c, rfl, row_of_own o, hb⟩
theorem crawake_any (W : World) : Calls Try.prog 10 #[] W fun e w' => e = .returned (.bool true) ∧ Below W.heap.size W w' := by
  have H1 := Lib.hid (fun w => cself_any 3 0 w)
  have H2 := Lib.hid (fun w => cself_any 3 2 w)
  have H3 := Lib.hid (fun w => cfill_any 20 4 0 10 w (by decide))
  have H4 := Lib.hid (fun w => coff_any 10 4 false false 1 false w (by decide))
  have H5 := Lib.hid (fun w => coff_any 10 5 true true 0 false w (by decide))
  have H6 := Lib.hid (fun w => coff_any 10 4 false false 0 true w (by decide))
  have H7 := Lib.hid (fun (w : World) => clines_any [3, 4] (some ⟨w.heap.size, 0, none⟩) 2 10 true (w.alloc (.cells #[.int .i64 3, .int .i64 4] 2)) (rowC_lit w #[.int .i64 3, .int .i64 4] 2) ⟨by decide, by decide, by decide⟩)
  rw [show selfZ 3 0 = 3 from rfl] at H1
  rw [show selfZ 3 2 = 1 by decide +kernel] at H2
  rw [show fillZ 20 4 0 10 = 10 by decide +kernel] at H3
  rw [show offZ 10 4 false false 1 false = 6 by decide +kernel] at H4
  rw [show offZ 10 5 true true 0 false = 2 by decide +kernel] at H5
  rw [show offZ 10 4 false false 0 true = 6 by decide +kernel] at H6
  have B0 := Lib.hid (Below.refl W.heap.size W)
  go_enter Try.func10, Try.ntmps10
  go_wp2_with fail
  refine (H1.out _).mono ?_
  rintro e w1 ⟨rfl, hb⟩
  have B1 := Lib.hid (B0.out.trans (hb.mono B0.out.size))
  clear hb H1 B0
  go_wp2_with fail
  refine (H2.out _).mono ?_
  rintro e w2 ⟨rfl, hb⟩
  have B2 := Lib.hid (B1.out.trans (hb.mono B1.out.size))
  clear hb H2 B1
  go_wp2_with fail
  refine (H3.out _).mono ?_
  rintro e w3 ⟨rfl, hb⟩
  have B3 := Lib.hid (B2.out.trans (hb.mono B2.out.size))
  clear hb H3 B2
  go_wp2_with fail
  refine (H4.out _).mono ?_
  rintro e w4 ⟨rfl, hb⟩
  have B4 := Lib.hid (B3.out.trans (hb.mono B3.out.size))
  clear hb H4 B3
  go_wp2_with fail
  refine (H5.out _).mono ?_
  rintro e w5 ⟨rfl, hb⟩
  have B5 := Lib.hid (B4.out.trans (hb.mono B4.out.size))
  clear hb H5 B4
  go_wp2_with fail
  refine (H6.out _).mono ?_
  rintro e w6 ⟨rfl, hb⟩
  have B6 := Lib.hid (B5.out.trans (hb.mono B5.out.size))
  clear hb H6 B5
  have Q := Lib.hid (Below.alloc (Below.refl w6.heap.size w6) (Nat.le_refl _) (.cells #[.int .i64 3, .int .i64 4] 2))
  go_wp2_with fail
  refine (H7.out _).mono ?_
  intro e w7 hp
  obtain ⟨A7, c7, rfl, r7, hb7⟩ := bg_row (n := 2) hp (show begsZ [3, 4] 10 true = [7, 3] by decide +kernel) rfl
  have B7 := Lib.hid (B6.out.trans ((Q.out.trans (hb7.mono (by simp))).mono B6.out.size))
  have R7 := Lib.hid r7
  clear hp r7 hb7 H7 Q B6
  have Q := Lib.hid (Below.alloc (Below.refl w7.heap.size w7) (Nat.le_refl _) (.cells #[.int .i64 7, .int .i64 3] 2))
  have K := Lib.hid (ksame_any A7 (some ⟨w7.heap.size, 0, none⟩) c7 2 2 [7, 3] (w7.alloc (.cells #[.int .i64 7, .int .i64 3] 2)) _ _ (R7.out.below Q.out) (rowC_lit w7 #[.int .i64 7, .int .i64 3] 2) rfl (by decide))
  go_wp2_with fail
  refine K.out.mono ?_
  rintro e w8 ⟨rfl, k8, rfl⟩
  have B8 := Lib.hid (B7.out.trans ((Below.drewN' Q.out k8).mono B7.out.size))
  clear K Q B7 R7
  generalize (w7.alloc _).drewN k8 = w8 at *
  go_wp2_with fail
  go_ret
  exact ⟨rfl, B8.out⟩
end Go.Proofs.Ythneapnijfmpmaa
