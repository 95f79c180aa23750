import Derived.Test.YtjhmdflagkenbaaWdPartsQ
/- wide.Height. -/
namespace Go.Proofs.Ytjhmdflagkenbaa
open Go Go.RowKit
set_option linter.unusedVariables false
set_option linter.unusedSimpArgs false
set_option maxRecDepth 20000
set_option maxHeartbeats 4000000

theorem height_any (st : List Int) (hl : st.length = 43) (hz : ∀ z ∈ st, I64 z) (base : Int) (hb : I64 base) (W : World) :
    Calls Try.prog 9 #[.agg (i64s st).toArray, .int .i64 base] W fun e w' => e = .returned (.tuple #[.int .i64 (whiZ st base), .bool (whiB st base)]) ∧ Below W.heap.size W w' := by
  have P0 := Lib.hid (Whole.mk W 27 (i64s st).toArray)
  have B0 := Lib.hid ((Below.refl W.heap.size W).alloc (Nat.le_refl _) (.cells (i64s st).toArray 27))
  have HC := Lib.hid (fun (n : Int) (w : World) (h : Whole w W.heap.size 27 (i64s st)) => clamped_any st hl hz W.heap.size true n base hb w h)
  have HS := Lib.hid (fun w => side_any (st.getD 11 0) (st.getD 12 0) base (st_in hz 12) hb w)
  have H0 := Lib.hid (show whiB st base = (sidB (st.getD 11 0) && !(st.getD 11 0 == 2 && decide (base < 0))) from rfl)
  have H1 := Lib.hid (show whiZ st base = if whiB st base = true then clampZ (sidZ (st.getD 11 0) (st.getD 12 0) base) (minZ st true base) (maxZ st true base) else 0 from rfl)
  have c0 := P0.out.num 11 (by omega)
  have c1 := P0.out.num 12 (by omega)
  generalize whiZ st base = r at *
  generalize whiB st base = rb at *
  generalize minZ st true base = mn at *
  generalize maxZ st true base = mx at *
  have HL := Lib.hid hl
  clear hl hz hb
  go_enter Try.func9, Try.ntmps9
  go_upto_region 1 with fail
  generalize W.alloc _ = w0 at *
  go_wp2_with fail
  refine (HS.out _).mono ?_
  rintro e w1 ⟨rfl, hb⟩
  have P1 := Lib.hid (P0.out.under hb P0.out.size)
  have B1 := Lib.hid (B0.out.trans (hb.mono (by have := P0.out.size; omega)))
  have c0 := P1.out.num 11 (by have := HL.out; omega)
  clear hb P0 B0 c1
  generalize sidZ (st.getD 11 0) (st.getD 12 0) base = v at *
  generalize st.getD 11 0 = k at *
  by_cases h1 : k = 1
  · subst h1
    have e0 : rb = true := H0.out
    subst e0
    have e1 := H1.out
    rw [if_pos rfl] at e1
    have E1 := Lib.hid e1
    clear e1
    rw [show sidB 1 = true from rfl]
    go_wp2_with fail
    refine (HC.out v w1 P1.out).mono ?_
    rintro e w2 ⟨rfl, hb⟩
    have B2 := Lib.hid (B1.out.trans (hb.mono (by have := P1.out.size; omega)))
    go_wp2_with fail
    refine bodyPost_ret (v := .tuple #[.int .i64 (clampZ v mn mx), .bool true]) (by simp [results, Try.results9, go_sem]) rfl ⟨by rw [E1.out], B2.out⟩
  · by_cases h2 : k = 2
    · subst h2
      rw [show sidB 2 = true from rfl]
      by_cases hn : base < 0
      · have hd : decide (base < 0) = true := by rw [decide_eq_true_eq]; exact hn
        have e0 : rb = false := by rw [H0.out, hd]; rfl
        subst e0
        have e1 : r = 0 := by rw [H1.out, if_neg (by decide)]
        subst e1
        go_wp2_with fail
        refine bodyPost_ret (v := .tuple #[.int .i64 0, .bool false]) (by simp [results, Try.results9, go_sem]) rfl ⟨rfl, B1.out⟩
      · have hd : decide (base < 0) = false := by rw [decide_eq_false_iff_not]; exact hn
        have e0 : rb = true := by rw [H0.out, hd]; rfl
        subst e0
        have e1 := H1.out
        rw [if_pos rfl] at e1
        have E1 := Lib.hid e1
        clear e1
        go_wp2_with fail
        refine (HC.out v w1 P1.out).mono ?_
        rintro e w2 ⟨rfl, hb⟩
        have B2 := Lib.hid (B1.out.trans (hb.mono (by have := P1.out.size; omega)))
        go_wp2_with fail
        refine bodyPost_ret (v := .tuple #[.int .i64 (clampZ v mn mx), .bool true]) (by simp [results, Try.results9, go_sem]) rfl ⟨by rw [E1.out], B2.out⟩
    · have e9 : sidB k = false := by unfold sidB; rw [decide_eq_false_iff_not]; omega
      have e0 : rb = false := by rw [H0.out, e9]; rfl
      subst e0
      have e1 : r = 0 := by rw [H1.out, if_neg (by decide)]
      subst e1
      rw [e9]
      go_wp2_with fail
      refine bodyPost_ret (v := .tuple #[.int .i64 0, .bool false]) (by simp [results, Try.results9, go_sem]) rfl ⟨rfl, B1.out⟩
end Go.Proofs.Ytjhmdflagkenbaa
