import Derived.Test.YtncaichachipkaaTotHeldQ
import Derived.Test.YtncaichachipkaaSizeBndQ
import Derived.Test.YtncaichachipkaaZQ
/- exact.Sum.Held of any sum; size.bound, Clamp, Min, Max. -/
namespace Go.Proofs.Ytncaichachipkaa
open Go Go.RowKit
set_option linter.unusedVariables false
set_option linter.unusedSimpArgs false
set_option maxRecDepth 20000
set_option maxHeartbeats 4000000

theorem held_all (t : Int) (ht : Tot t) (W : World) :
    Calls Try.prog 19 #[totV t] W fun e w' => e = .returned (.int .i64 (heldT t)) ∧ Below W.heap.size W w' := by
  by_cases hi : I64 t
  · rw [heldT_in hi]; exact held_any t hi W
  · have hq : (tH t == wrap64 (tL t) / 9223372036854775808) = false := by
      rw [beq_eq_false_iff_ne]; unfold I64 at hi; unfold tH tL wrap64; omega
    have ht1 := tH_tL t
    have hl := tL_in t
    by_cases hn : t < 0
    · have hh : heldT t = -9223372036854775808 := by unfold heldT I64 at *; rw [if_pos (by omega)]
      have h1 : tH t < 0 := by omega
      have HH := Lib.hid hh
      clear ht1 hl hh
      go_enter Try.func19, Try.ntmps19
      go_wp2
      go_ret
      exact ⟨ret_int HH.out.symm, (Below.refl _ _).alloc (Nat.le_refl _) _⟩
    · have hh : heldT t = 9223372036854775807 := by unfold heldT I64 at *; rw [if_neg (by omega), if_pos (by omega)]
      have h1 : ¬ tH t < 0 := by omega
      have HH := Lib.hid hh
      clear ht1 hl hh
      go_enter Try.func19, Try.ntmps19
      go_wp2
      go_ret
      exact ⟨ret_int HH.out.symm, (Below.refl _ _).alloc (Nat.le_refl _) _⟩
theorem clamp_any (n lo hi : Int) (W : World) : Calls Try.prog 14 #[.int .i64 n, .int .i64 lo, .int .i64 hi] W fun e w' => e = .returned (.int .i64 (clampZ n lo hi)) ∧ W = w' := by
  go_enter Try.func14, Try.ntmps14
  go_wp2
  all_goals (go_ret; exact ⟨ret_int (by unfold clampZ; omega), rfl⟩)
abbrev lenV (k n : Int) : Value := .agg #[.int .i64 k, .int .i64 n]
theorem bound_any (k n base : Int) (hn : I64 n) (hb : I64 base) (W : World) : Calls Try.prog 23 #[lenV k n, .int .i64 base] W fun e w' => e = .returned (.int .i64 (boundZ k n base)) ∧ Below W.heap.size W w' := by
  have B := Lib.hid ((Below.refl W.heap.size W).alloc (Nat.le_refl _) (.cells #[.int .i64 k, .int .i64 n] 29))
  by_cases h1 : k = 1
  · subst h1
    have E := Lib.hid (show boundZ 1 n base = max 0 n from rfl)
    go_enter Try.func23, Try.ntmps23
    go_wp2
    all_goals (go_ret; exact ⟨ret_int (by have := E.out; omega), B.out⟩)
  · have b1 : (k == 1) = false := by rw [beq_eq_false_iff_ne]; exact h1
    by_cases h2 : k = 2
    · subst h2
      by_cases h3 : 0 ≤ base
      · have E := Lib.hid (show boundZ 2 n base = max 0 (pctZ base n) by unfold boundZ; rw [if_neg (by decide), if_pos ⟨rfl, h3⟩])
        have P := Lib.hid (fun w => pct_any base n w hb.1 hb.2 hn.1 hn.2)
        clear hb hn
        go_enter Try.func23, Try.ntmps23
        go_wp2_with fail
        refine (P.out _).mono ?_
        rintro e w' ⟨rfl, rfl⟩
        go_wp2
        all_goals (go_ret; exact ⟨ret_int (by have := E.out; omega), B.out⟩)
      · have E := Lib.hid (show boundZ 2 n base = 0 by unfold boundZ; rw [if_neg (by decide), if_neg (fun h => h3 h.2)])
        go_enter Try.func23, Try.ntmps23
        go_wp2
        go_ret
        exact ⟨ret_int E.out.symm, B.out⟩
    · have b2 : (k == 2) = false := by rw [beq_eq_false_iff_ne]; exact h2
      have E := Lib.hid (show boundZ k n base = 0 by unfold boundZ; rw [if_neg h1, if_neg (fun h => h2 h.1)])
      clear h1 h2
      go_enter Try.func23, Try.ntmps23
      go_wp2
      go_ret
      exact ⟨ret_int E.out.symm, B.out⟩
theorem min_any (st : List Int) (hl : st.length = 43) (hz : ∀ z ∈ st, I64 z) (high : Bool) (base : Int) (hb : I64 base) (W : World) :
    Calls Try.prog 15 #[.agg (i64s st).toArray, .bool high, .int .i64 base] W fun e w' => e = .returned (.int .i64 (minZ st high base)) ∧ Below W.heap.size W w' := by
  have P := Lib.hid (Whole.mk W 33 (i64s st).toArray)
  have B := Lib.hid ((Below.refl W.heap.size W).alloc (Nat.le_refl _) (.cells (i64s st).toArray 33))
  have zs : (W.alloc (.cells (i64s st).toArray 33)).heap.size = W.heap.size + 1 := by simp
  cases high
  · have c1 := P.out.num 13 (by omega)
    have c2 := P.out.num 14 (by omega)
    have E := Lib.hid (show minZ st false base = boundZ (st.getD 13 0) (st.getD 14 0) base from rfl)
    have D := Lib.hid (fun w => bound_any (st.getD 13 0) (st.getD 14 0) base (st_in hz 14) hb w)
    clear hz hl P
    go_enter Try.func15, Try.ntmps15
    go_upto_region 1 with fail
    generalize W.alloc (.cells (i64s st).toArray 33) = w1 at *
    generalize st.getD 13 0 = k at *
    generalize st.getD 14 0 = n at *
    go_wp2_with fail
    refine (D.out _).mono ?_
    rintro e w' ⟨rfl, hb⟩
    have B2 := Lib.hid (B.out.trans (hb.mono (by omega)))
    go_wp2
    go_ret
    exact ⟨ret_int E.out.symm, B2.out⟩
  · have c1 := P.out.num 15 (by omega)
    have c2 := P.out.num 16 (by omega)
    have E := Lib.hid (show minZ st true base = boundZ (st.getD 15 0) (st.getD 16 0) base from rfl)
    have D := Lib.hid (fun w => bound_any (st.getD 15 0) (st.getD 16 0) base (st_in hz 16) hb w)
    clear hz hl P
    go_enter Try.func15, Try.ntmps15
    go_upto_region 1 with fail
    generalize W.alloc (.cells (i64s st).toArray 33) = w1 at *
    generalize st.getD 15 0 = k at *
    generalize st.getD 16 0 = n at *
    go_wp2_with fail
    refine (D.out _).mono ?_
    rintro e w' ⟨rfl, hb⟩
    have B2 := Lib.hid (B.out.trans (hb.mono (by omega)))
    go_wp2
    go_ret
    exact ⟨ret_int E.out.symm, B2.out⟩
end Go.Proofs.Ytncaichachipkaa
