import Derived.Test.YteakeacmdnhojaaFold
/- quoinlaw15.awake answers true; Tame. -/
namespace Go.Proofs.Yteakeacmdnhojaa
open Go Go.RowKit
set_option linter.unusedVariables false
set_option linter.unusedSimpArgs false
set_option maxRecDepth 20000
set_option maxHeartbeats 4000000

theorem ftame_any (z : Int) (W : World) : Calls Try.prog 6 #[.int .i64 z] W fun e w' => e = .returned (.int .i64 (ftameZ z)) ∧ W = w' := by
  have hb := ftameZ_bd z
  have E := Lib.hid (show wrap64 (z.tmod 1099511627776) = ftameZ z by unfold wrap64; unfold ftameZ at *; omega)
  go_enter Try.func6, Try.ntmps6
  go_wp2
  go_ret
  exact ⟨ret_int (by first | exact E.out | rfl), rfl⟩
theorem fdawake_any (W : World) : Calls Try.prog 5 #[] W fun e w' => e = .returned (.bool true) ∧ Below W.heap.size W w' := by
  have O1 := Lib.hid (fun w => fof_any 10 w)
  have O2 := Lib.hid (fun w => fof_any 4 w)
  have O3 := Lib.hid (fun w => fof_any (-3) w)
  have O4 := Lib.hid (fun w => fof_any (-5) w)
  rw [show fdV (oneF 10) = fdV ⟨10, 0⟩ from rfl] at O1
  rw [show fdV (oneF 4) = fdV ⟨4, 0⟩ from rfl] at O2
  rw [show fdV (oneF (-3)) = fdV ⟨0, -3⟩ from rfl] at O3
  rw [show fdV (oneF (-5)) = fdV ⟨0, -5⟩ from rfl] at O4
  have J1 := Lib.hid (fun A c w hR => fjoin_any [⟨10, 0⟩, ⟨4, 0⟩, ⟨0, -3⟩] A c w hR (by simp))
  rw [show fdV (foldF [⟨10, 0⟩, ⟨4, 0⟩, ⟨0, -3⟩]) = fdV ⟨10, -3⟩ from rfl] at J1
  have J2 := Lib.hid (fun w => fjoin_any [] none 0 w (Row.nil _ _ _) (by simp))
  rw [show fdV (foldF []) = fdV ⟨0, 0⟩ from rfl] at J2
  have V1 := Lib.hid (fun w => fval_any ⟨10, -3⟩ (by unfold I64; simp only; omega) (by unfold I64; simp only; omega) (by unfold I64; simp only; omega) w)
  have V2 := Lib.hid (fun w => fval_any ⟨0, -5⟩ (by unfold I64; simp only; omega) (by unfold I64; simp only; omega) (by unfold I64; simp only; omega) w)
  simp only at V1 V2
  go_enter Try.func5, Try.ntmps5
  go_wp2_with fail
  refine (O1.out _).mono ?_
  rintro e w1 ⟨rfl, hb⟩
  have B1 := Lib.hid hb
  clear hb
  go_wp2_with fail
  refine (O2.out _).mono ?_
  rintro e w2 ⟨rfl, hb⟩
  have B2 := Lib.hid (B1.out.trans (hb.mono B1.out.size))
  clear hb
  go_wp2_with fail
  refine (O3.out _).mono ?_
  rintro e w3 ⟨rfl, hb⟩
  have B3 := Lib.hid ((B2.out.trans (hb.mono B2.out.size)).alloc (by have := hb.size; have := B2.out.size; omega) (.cells #[.int .i64 10, .int .i64 0, .int .i64 4, .int .i64 0, .int .i64 0, .int .i64 (-3)] 27))
  have R3 := Lib.hid (row_new w3 #[.int .i64 10, .int .i64 0, .int .i64 4, .int .i64 0, .int .i64 0, .int .i64 (-3)] 27)
  clear hb O1 O2 O3 B1 B2
  go_wp2_with fail
  refine (J1.out _ _ _ (by simpa [fdC] using R3.out)).mono ?_
  rintro e w4 ⟨rfl, hb⟩
  have B4 := Lib.hid ((B3.out.trans (hb.mono (by have := B3.out.size; simp at this ⊢; omega))).alloc (by have := hb.size; have := B3.out.size; omega) (.cells #[.int .i64 10, .int .i64 (-3)] 27))
  have W4 := Lib.hid (Whole.mk w4 27 #[.int .i64 10, .int .i64 (-3)])
  clear hb J1 B3 R3
  go_upto_region 2 with fail
  generalize w4.alloc _ = w5 at *
  generalize w4.heap.size = g at *
  have c0 := W4.out.cell 0
  have c1 := W4.out.cell 1
  simp only [List.getElem?_cons_zero, List.getElem?_cons_succ] at c0 c1
  go_wp2_with fail
  refine (V1.out _).mono ?_
  rintro e w6 ⟨rfl, hb⟩
  have B6 := Lib.hid (B4.out.trans (hb.mono B4.out.size))
  clear hb V1 B4
  go_wp2_with fail
  refine (J2.out _).mono ?_
  rintro e w7 ⟨rfl, hb⟩
  have B7 := Lib.hid (B6.out.trans (hb.mono B6.out.size))
  clear hb J2 B6
  go_wp2_with fail
  refine (O4.out _).mono ?_
  rintro e w8 ⟨rfl, hb⟩
  have B8 := Lib.hid (B7.out.trans (hb.mono B7.out.size))
  clear hb O4 B7
  go_wp2_with fail
  refine (V2.out _).mono ?_
  rintro e w9 ⟨rfl, hb⟩
  have B9 := Lib.hid (B8.out.trans (hb.mono B8.out.size))
  clear hb V2 B8
  go_wp2_with fail
  go_ret
  exact ⟨rfl, B9.out⟩
end Go.Proofs.Yteakeacmdnhojaa
