import Derived.Test.YtjhmdflagkenbaaSizeBndQ
import Derived.Test.YtjhmdflagkenbaaRPctQ
import Derived.Test.YtjhmdflagkenbaaZQ
/- quoinref9.Min, Max: widths. -/
namespace Go.Proofs.Ytjhmdflagkenbaa
open Go Go.RowKit
set_option linter.unusedVariables false
set_option linter.unusedSimpArgs false
set_option maxRecDepth 20000
set_option maxHeartbeats 4000000

theorem rmin_any (st : List Int) (hl : st.length = 43) (base : Int) (W : World) :
    Calls Try.prog 14 #[.agg (i64s st).toArray, .bool false, .int .i64 base] W fun e w' => e = .returned (.int .i64 (minZ st false base)) ∧ Below W.heap.size W w' := by
  have P := Lib.hid (Whole.mk W 27 (i64s st).toArray)
  have B0 := Lib.hid ((Below.refl W.heap.size W).alloc (Nat.le_refl _) (.cells (i64s st).toArray 27))
  have c0 := P.out.num 13 (by omega)
  have c1 := P.out.num 14 (by omega)
  have E := Lib.hid (show minZ st false base = boundZ (st.getD 13 0) (st.getD 14 0) base from rfl)
  generalize minZ st false base = z at *
  generalize st.getD 13 0 = k at *
  generalize st.getD 14 0 = n at *
  clear hl P
  have B := Lib.hid (B0.out.alloc (by simp) (.cells #[.int .i64 k, .int .i64 n] 23))
  have L := Lib.hid (Whole.mk (W.alloc (.cells (i64s st).toArray 27)) 23 #[.int .i64 k, .int .i64 n])
  simp only [World.size_alloc] at L
  go_enter Try.func14, Try.ntmps14
  go_upto_region 4 with fail
  generalize (W.alloc _).alloc _ = w1 at *
  clear c0 c1 B0
  have c0 : w1.cell? ⟨W.heap.size + 1, 0, none⟩ = some (.int .i64 k) := L.out.cell 0
  have c1 : w1.cell? ⟨W.heap.size + 1, 1, none⟩ = some (.int .i64 n) := L.out.cell 1
  clear L
  by_cases h1 : k = 1
  · subst h1
    have e : z = max n 0 := by rw [E.out]; show max 0 n = _; omega
    clear E
    go_wp2_with fail
    all_goals (go_ret; exact ⟨ret_int (by omega), B.out⟩)
  · have b1 : (k == 1) = false := by rw [beq_eq_false_iff_ne]; exact h1
    by_cases h2 : k = 2
    · subst h2
      by_cases h3 : 0 ≤ base
      · have hd : decide (0 ≤ base) = true := by rw [decide_eq_true_eq]; exact h3
        have e : z = max (pctZ base n) 0 := by rw [E.out]; unfold boundZ; rw [if_neg (by decide), if_pos ⟨rfl, h3⟩]; omega
        clear E
        go_wp2_with (go_at_call 28; refine (rpct_any _ _ _).mono ?_; rintro e w' ⟨rfl, rfl⟩)
        all_goals (go_ret; exact ⟨ret_int (by omega), B.out⟩)
      · have hd : decide (0 ≤ base) = false := by rw [decide_eq_false_iff_not]; exact h3
        have e : z = 0 := by rw [E.out]; unfold boundZ; rw [if_neg (by decide), if_neg (fun h => h3 h.2)]
        clear E
        go_wp2_with fail
        go_ret
        exact ⟨ret_int (by omega), B.out⟩
    · have b2 : (k == 2) = false := by rw [beq_eq_false_iff_ne]; exact h2
      have e : z = 0 := by rw [E.out]; unfold boundZ; rw [if_neg h1, if_neg (fun h => h2 h.1)]
      clear E h1 h2
      go_wp2_with fail
      go_ret
      exact ⟨ret_int (by omega), B.out⟩
theorem rmax_any (st : List Int) (hl : st.length = 43) (hk : 0 ≤ st.getD 17 0 ∧ st.getD 17 0 ≤ 2) (base : Int) (W : World) :
    Calls Try.prog 15 #[.agg (i64s st).toArray, .bool false, .int .i64 base] W fun e w' => e = .returned (.int .i64 (maxZ st false base)) ∧ Below W.heap.size W w' := by
  have P := Lib.hid (Whole.mk W 27 (i64s st).toArray)
  have B0 := Lib.hid ((Below.refl W.heap.size W).alloc (Nat.le_refl _) (.cells (i64s st).toArray 27))
  have c0 := P.out.num 17 (by omega)
  have c1 := P.out.num 18 (by omega)
  have E := Lib.hid (show maxZ st false base = capZ (st.getD 17 0) (st.getD 18 0) base from rfl)
  generalize maxZ st false base = z at *
  generalize st.getD 17 0 = k at *
  generalize st.getD 18 0 = n at *
  clear hl P
  have B := Lib.hid (B0.out.alloc (by simp) (.cells #[.int .i64 k, .int .i64 n] 23))
  have L := Lib.hid (Whole.mk (W.alloc (.cells (i64s st).toArray 27)) 23 #[.int .i64 k, .int .i64 n])
  simp only [World.size_alloc] at L
  go_enter Try.func15, Try.ntmps15
  go_upto_region 4 with fail
  generalize (W.alloc _).alloc _ = w1 at *
  clear c0 c1 B0
  have c0 : w1.cell? ⟨W.heap.size + 1, 0, none⟩ = some (.int .i64 k) := L.out.cell 0
  have c1 : w1.cell? ⟨W.heap.size + 1, 1, none⟩ = some (.int .i64 n) := L.out.cell 1
  clear L
  by_cases h1 : k = 1
  · subst h1
    have e : z = max n 0 := by rw [E.out]; show max 0 n = _; omega
    clear E
    go_wp2_with fail
    all_goals (go_ret; exact ⟨ret_int (by omega), B.out⟩)
  · have b1 : (k == 1) = false := by rw [beq_eq_false_iff_ne]; exact h1
    by_cases h2 : k = 2
    · subst h2
      by_cases h3 : 0 ≤ base
      · have hd : decide (0 ≤ base) = true := by rw [decide_eq_true_eq]; exact h3
        have e : z = max (pctZ base n) 0 := by rw [E.out]; unfold capZ boundZ; rw [if_neg (by omega), if_neg (by decide), if_pos ⟨rfl, h3⟩]; omega
        clear E
        go_wp2_with (go_at_call 28; refine (rpct_any _ _ _).mono ?_; rintro e w' ⟨rfl, rfl⟩)
        all_goals (go_ret; exact ⟨ret_int (by omega), B.out⟩)
      · have hd : decide (0 ≤ base) = false := by rw [decide_eq_false_iff_not]; exact h3
        have e : z = -1 := by rw [E.out]; unfold capZ; rw [if_pos (.inr ⟨rfl, by omega⟩)]
        clear E
        go_wp2_with fail
        go_ret
        exact ⟨ret_int (by omega), B.out⟩
    · have b2 : (k == 2) = false := by rw [beq_eq_false_iff_ne]; exact h2
      have e : z = -1 := by rw [E.out]; unfold capZ; rw [if_pos (.inl (by omega))]
      clear E h1 h2
      go_wp2_with fail
      go_ret
      exact ⟨ret_int (by omega), B.out⟩
end Go.Proofs.Ytjhmdflagkenbaa
