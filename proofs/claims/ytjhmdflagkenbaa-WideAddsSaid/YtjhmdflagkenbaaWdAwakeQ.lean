import Derived.Test.YtjhmdflagkenbaaWdHighQ
import Derived.Test.YtjhmdflagkenbaaWdWidthQ
/- quoinlaw14.awake answers true. -/
namespace Go.Proofs.Ytjhmdflagkenbaa
open Go Go.RowKit
set_option linter.unusedVariables false
set_option linter.unusedSimpArgs false
set_option maxRecDepth 20000
set_option maxHeartbeats 4000000

def stA : List Int := [0, 0, 0, 0, 0, 0, 0, 0, 0, 1, 40, 0, 0, 0, 0, 0, 0, 1, 30, 0, 0, 0, 0, 0, 0, 0, 0, 0, 0, 1, 10, 1, 2, 3, 4, 0, 0, 0, 0, 0, 0, 0, 0]
def stH : List Int := [0, 0, 0, 0, 0, 0, 0, 0, 0, 0, 0, 2, 5000, 0, 0, 0, 0, 0, 0, 0, 0, 0, 0, 0, 0, 0, 0, 0, 0, 0, 0, 0, 0, 0, 0, 0, 0, 0, 0, 0, 0, 0, 0]
theorem small_in {st : List Int} (h : st.all (fun z => decide (-100000 ≤ z ∧ z ≤ 100000)) = true) : ∀ z ∈ st, I64 z := fun z hz => by
  have := of_decide_eq_true (List.all_eq_true.1 h z hz)
  unfold I64; omega
theorem fixA_any (n : Int) (W : World) : Calls Try.prog 23 #[.int .i64 n] W fun e w' => e = .returned (.agg #[.int .i64 1, .int .i64 n]) ∧ Below W.heap.size W w' := by
  go_enter Try.func23, Try.ntmps23
  go_wp2
  refine bodyPost_ret (v := .agg #[.int .i64 1, .int .i64 n]) (by simp [results, Try.results23, go_sem]) rfl ⟨rfl, ?_⟩
  exact (Below.refl _ _).alloc (Nat.le_refl _) _
theorem wawake_any (W : World) : Calls Try.prog 8 #[] W fun e w' => e = .returned (.bool true) ∧ Below W.heap.size W w' := by
  have HE := Lib.hid (fun w => (edges_any stA rfl (small_in (by decide +kernel)) w : Calls Try.prog 13 #[.agg (i64s stA).toArray] w _))
  have HW := Lib.hid (fun w => width_any stA rfl (small_in (by decide +kernel)) 100 (by unfold I64; omega) w)
  have HZ := Lib.hid (fun w => width_any zeros43 rfl (small_in (by decide +kernel)) 50 (by unfold I64; omega) w)
  have HH := Lib.hid (fun w => height_any stH rfl (small_in (by decide +kernel)) 80 (by unfold I64; omega) w)
  have HN := Lib.hid (fun w => height_any stH rfl (small_in (by decide +kernel)) (-1) (by unfold I64; omega) w)
  rw [show edgZ stA 0 = 1 by decide +kernel, show edgZ stA 1 = 2 by decide +kernel, show edgZ stA 2 = 3 by decide +kernel, show edgZ stA 3 = 4 by decide +kernel] at HE
  obtain ⟨a1, a2, a3⟩ := width_is stA 100 10 0 4 2 0 30 40 30 0 (by decide +kernel) (by decide +kernel) (by decide +kernel) (by decide +kernel) (by decide +kernel) (by decide +kernel) (by decide +kernel) (by decide +kernel) (by decide +kernel)
  obtain ⟨b1, b2, b3⟩ := width_is zeros43 50 0 0 0 0 0 (-1) 50 50 0 (by decide +kernel) (by decide +kernel) (by decide +kernel) (by decide +kernel) (by decide +kernel) (by decide +kernel) (by decide +kernel) (by decide +kernel) (by decide +kernel)
  rw [a1, a2, a3, show heldT (0 + 10) = 10 by decide +kernel, show heldT (100 - (10 + 4 + 2 + 0) - 30 - 0 + 0) = 54 by decide +kernel] at HW
  rw [b1, b2, b3, show heldT (0 + 0) = 0 by decide +kernel, show heldT (50 - (0 + 0 + 0 + 0) - 50 - 0 + 0) = 0 by decide +kernel] at HZ
  clear a1 a2 a3 b1 b2 b3
  rw [show whiZ stH 80 = 40 by decide +kernel, show whiB stH 80 = true by decide +kernel] at HH
  rw [show whiZ stH (-1) = 0 by decide +kernel, show whiB stH (-1) = false by decide +kernel] at HN
  go_enter Try.func8, Try.ntmps8
  go_wp2_with fail
  refine (fixA_any 40 _).mono ?_
  rintro e w1 ⟨rfl, hb⟩
  have B1 := Lib.hid hb
  clear hb
  go_wp2_with fail
  refine (fixA_any 10 _).mono ?_
  rintro e w2 ⟨rfl, hb⟩
  have B2 := Lib.hid (B1.out.trans (hb.mono B1.out.size))
  clear hb
  go_wp2_with fail
  refine (fixA_any 30 _).mono ?_
  rintro e w3 ⟨rfl, hb⟩
  have B3 := Lib.hid (B2.out.trans (hb.mono B2.out.size))
  clear hb
  go_upto_region 3 with (first
    | (refine cells_build 27 _ rfl rfl (i64s stA) (by kernel_rfl) ?_)
    | (refine style_store (.tmp 2) (.tmp 22) rfl rfl w3.heap.size rfl stA rfl rfl zeros43 ?_ rfl ?_; (focus (exact Whole.mk w3 27 (i64s zeros43).toArray)); intro w4 h4 o4; have S4 := Lib.hid h4; have B4 := Lib.hid ((B3.out.alloc B3.out.size _).trans (o4.below (by intro x hx; simp at hx; have := B3.out.size; omega) (by simp; have := B3.out.size; omega))); clear h4 o4))
  clear B1 B2 B3
  generalize w3.heap.size = g at *
  go_wp2_with (refine style_load (.tmp 2) rfl rfl g rfl stA rfl ?_ ?_; (focus (exact S4.out)))
  refine (HE.out _).mono ?_
  rintro e w5 ⟨rfl, hb⟩
  have S5 := Lib.hid (S4.out.under hb S4.out.size)
  have B5 := Lib.hid (B4.out.trans (hb.mono B4.out.size))
  clear hb S4 B4
  go_wp2_with (refine cells_build 27 _ rfl rfl (i64s stH) (by kernel_rfl) ?_)
  refine (HH.out _).mono ?_
  rintro e w6 ⟨rfl, hb⟩
  have S6 := Lib.hid (S5.out.under hb S5.out.size)
  have B6 := Lib.hid (B5.out.trans (hb.mono B5.out.size))
  clear hb S5 B5
  go_wp2_with (refine cells_build 27 _ rfl rfl (i64s stH) (by kernel_rfl) ?_)
  refine (HN.out _).mono ?_
  rintro e w7 ⟨rfl, hb⟩
  have S7 := Lib.hid (S6.out.under hb S6.out.size)
  have B7 := Lib.hid (B6.out.trans (hb.mono B6.out.size))
  clear hb S6 B6
  go_wp2_with (refine style_load (.tmp 2) rfl rfl g rfl stA rfl ?_ ?_; (focus (exact S7.out)))
  refine (HW.out _).mono ?_
  rintro e w8 ⟨rfl, hb⟩
  have B8 := Lib.hid (B7.out.trans (hb.mono B7.out.size))
  clear hb S7 B7
  go_wp2_with (refine cells_buildW 27 _ rfl rfl (i64s zeros43) (by kernel_rfl) ?_)
  refine (HZ.out _).mono ?_
  rintro e w9 ⟨rfl, hb⟩
  have B9 := Lib.hid (B8.out.trans (hb.mono B8.out.size))
  clear hb B8
  have HF : ∀ w : World, (Instr.field 29 (.agg #[.int .i64 0, .int .i64 50, .int .i64 0]) 1).run Try.prog w = .ok (.int .i64 50) w := fun _ => by kernel_rfl
  go_wp2_with (rw [HF])
  go_ret
  exact ⟨rfl, B9.out⟩
end Go.Proofs.Ytjhmdflagkenbaa
