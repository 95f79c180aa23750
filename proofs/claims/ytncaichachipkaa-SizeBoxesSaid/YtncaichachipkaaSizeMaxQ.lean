import Derived.Test.YtncaichachipkaaSizeLeafQ
/- size.Max. -/
namespace Go.Proofs.Ytncaichachipkaa
open Go Go.RowKit
set_option linter.unusedVariables false
set_option linter.unusedSimpArgs false
set_option maxRecDepth 20000
set_option maxHeartbeats 4000000

theorem max_any (st : List Int) (hl : st.length = 43) (hz : ∀ z ∈ st, I64 z) (high : Bool) (base : Int) (hb : I64 base) (W : World) :
    Calls Try.prog 16 #[.agg (i64s st).toArray, .bool high, .int .i64 base] W fun e w' => e = .returned (.int .i64 (maxZ st high base)) ∧ Below W.heap.size W w' := by
  have P := Lib.hid (Whole.mk W 33 (i64s st).toArray)
  have B := Lib.hid ((Below.refl W.heap.size W).alloc (Nat.le_refl _) (.cells (i64s st).toArray 33))
  have zs : (W.alloc (.cells (i64s st).toArray 33)).heap.size = W.heap.size + 1 := by simp
  have c1 := P.out.num 17 (by omega)
  have c2 := P.out.num 18 (by omega)
  have c3 := P.out.num 19 (by omega)
  have c4 := P.out.num 20 (by omega)
  have E := Lib.hid (show maxZ st high base = if high then capZ (st.getD 19 0) (st.getD 20 0) base else capZ (st.getD 17 0) (st.getD 18 0) base from rfl)
  have D1 := Lib.hid (fun w => bound_any (st.getD 17 0) (st.getD 18 0) base (st_in hz 18) hb w)
  have D2 := Lib.hid (fun w => bound_any (st.getD 19 0) (st.getD 20 0) base (st_in hz 20) hb w)
  generalize maxZ st high base = z at *
  go_enter Try.func16, Try.ntmps16
  go_upto_region 1 with fail
  clear hz hl P
  generalize W.alloc (.cells (i64s st).toArray 33) = w1 at *
  generalize st.getD 17 0 = k at *
  generalize st.getD 18 0 = n at *
  generalize st.getD 19 0 = k2 at *
  generalize st.getD 20 0 = n2 at *
  have X1 := Lib.hid (zs ▸ Whole.mk w1 29 #[.int .i64 k, .int .i64 n] : Whole (w1.alloc (.cells #[.int .i64 k, .int .i64 n] 29)) (W.heap.size + 1) 29 [.int .i64 k, .int .i64 n])
  have B1 := Lib.hid (B.out.alloc (by omega) (.cells #[.int .i64 k, .int .i64 n] 29))
  have d3 : (w1.alloc (.cells #[.int .i64 k, .int .i64 n] 29)).cell? ⟨W.heap.size, 19, none⟩ = some (.int .i64 k2) := (World.cell?_alloc_lt _ _ _ (by show W.heap.size < _; omega)).trans c3
  have d4 : (w1.alloc (.cells #[.int .i64 k, .int .i64 n] 29)).cell? ⟨W.heap.size, 20, none⟩ = some (.int .i64 n2) := (World.cell?_alloc_lt _ _ _ (by show W.heap.size < _; omega)).trans c4
  go_upto_region 2 with fail
  clear c1 c2 c3 c4 B
  generalize w1.alloc _ = w2 at *
  clear zs
  cases high
  · have E1 := Lib.hid (show z = capZ k n base from E.out)
    have X2 := X1
    have B2 := B1
    clear E D2 X1 B1 d3 d4
    have y0 := X2.out.cell 0
    have y1 := X2.out.cell 1
    simp only [List.getElem?_cons_zero, List.getElem?_cons_succ] at y0 y1
    by_cases h0 : k = 0
    · subst h0
      have E2 := Lib.hid (show z = -1 by rw [E1.out]; unfold capZ; rw [if_pos (.inl rfl)])
      go_wp2
      go_ret
      exact ⟨ret_int E2.out.symm, B2.out⟩
    · have b0 : (k == 0) = false := by rw [beq_eq_false_iff_ne]; exact h0
      by_cases h2 : k = 2 ∧ base < 0
      · obtain ⟨rfl, hneg⟩ := h2
        have E2 := Lib.hid (show z = -1 by rw [E1.out]; unfold capZ; rw [if_pos (.inr ⟨rfl, hneg⟩)])
        go_wp2
        go_ret
        exact ⟨ret_int E2.out.symm, B2.out⟩
      · have E2 := Lib.hid (show z = boundZ k n base by rw [E1.out]; unfold capZ; rw [if_neg (by omega)])
        by_cases h3 : k = 2
        · subst h3
          have hnn : ¬ base < 0 := by omega
          go_wp2_with fail
          refine (D1.out _).mono ?_
          rintro e w' ⟨rfl, hb'⟩
          have B3 := Lib.hid (B2.out.trans (hb'.mono (by have := B2.out.size; omega)))
          go_wp2
          go_ret
          exact ⟨ret_int E2.out.symm, B3.out⟩
        · have b2 : (k == 2) = false := by rw [beq_eq_false_iff_ne]; exact h3
          clear h0 h2 h3
          go_wp2_with fail
          refine (D1.out _).mono ?_
          rintro e w' ⟨rfl, hb'⟩
          have B3 := Lib.hid (B2.out.trans (hb'.mono (by have := B2.out.size; omega)))
          go_wp2
          go_ret
          exact ⟨ret_int E2.out.symm, B3.out⟩
  · have E1 := Lib.hid (show z = capZ k2 n2 base from E.out)
    have y0 := X1.out.cell 0
    have y1 := X1.out.cell 1
    have f0 := X1.out.free 0
    have f1 := X1.out.free 1
    have X2 := Lib.hid ((X1.out.put 0 (.int .i64 k2)).put 1 (.int .i64 n2))
    have B2 := Lib.hid ((B1.out.setCell (p := ⟨W.heap.size + 1, 0, none⟩) (by simp) (.int .i64 k2)).setCell (p := ⟨W.heap.size + 1, 1, none⟩) (by simp) (.int .i64 n2))
    clear E D1 X1 B1
    go_upto_region 4 with fail
    clear y0 y1 f0 f1 d3 d4
    generalize (w2.setCell ⟨W.heap.size + 1, 0, none⟩ (.int .i64 k2)).setCell ⟨W.heap.size + 1, 1, none⟩ (.int .i64 n2) = w3 at *
    simp only [List.set_cons_zero, List.set_cons_succ] at X2
    have y0 := X2.out.cell 0
    have y1 := X2.out.cell 1
    simp only [List.getElem?_cons_zero, List.getElem?_cons_succ] at y0 y1
    by_cases h0 : k2 = 0
    · subst h0
      have E2 := Lib.hid (show z = -1 by rw [E1.out]; unfold capZ; rw [if_pos (.inl rfl)])
      go_wp2
      go_ret
      exact ⟨ret_int E2.out.symm, B2.out⟩
    · have b0 : (k2 == 0) = false := by rw [beq_eq_false_iff_ne]; exact h0
      by_cases h2 : k2 = 2 ∧ base < 0
      · obtain ⟨rfl, hneg⟩ := h2
        have E2 := Lib.hid (show z = -1 by rw [E1.out]; unfold capZ; rw [if_pos (.inr ⟨rfl, hneg⟩)])
        go_wp2
        go_ret
        exact ⟨ret_int E2.out.symm, B2.out⟩
      · have E2 := Lib.hid (show z = boundZ k2 n2 base by rw [E1.out]; unfold capZ; rw [if_neg (by omega)])
        by_cases h3 : k2 = 2
        · subst h3
          have hnn : ¬ base < 0 := by omega
          go_wp2_with fail
          refine (D2.out _).mono ?_
          rintro e w' ⟨rfl, hb'⟩
          have B3 := Lib.hid (B2.out.trans (hb'.mono (by have := B2.out.size; omega)))
          go_wp2
          go_ret
          exact ⟨ret_int E2.out.symm, B3.out⟩
        · have b2 : (k2 == 2) = false := by rw [beq_eq_false_iff_ne]; exact h3
          clear h0 h2 h3
          go_wp2_with fail
          refine (D2.out _).mono ?_
          rintro e w' ⟨rfl, hb'⟩
          have B3 := Lib.hid (B2.out.trans (hb'.mono (by have := B2.out.size; omega)))
          go_wp2
          go_ret
          exact ⟨ret_int E2.out.symm, B3.out⟩
end Go.Proofs.Ytncaichachipkaa
