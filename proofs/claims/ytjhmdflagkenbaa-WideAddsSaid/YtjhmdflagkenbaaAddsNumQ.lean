import Derived.Test.YtjhmdflagkenbaaWdNumQ
import Derived.Test.YtjhmdflagkenbaaZQ
/- WideAdds: numbers. No program is named here. -/
namespace Go.Proofs.Ytjhmdflagkenbaa
open Go Go.RowKit
set_option linter.unusedVariables false
set_option linter.unusedSimpArgs false

theorem pct_small (b n : Int) : -1073741824 ≤ pctZ b n ∧ pctZ b n ≤ 1073741824 := by
  have := hold_bd (nearZ (holdZ b * max (-1000000000) (min n 1000000000)) 10000)
  unfold pctZ; omega
theorem sid_small (k n base : Int) (hn : -6400000 ≤ n ∧ n ≤ 6400000) : -1073741824 ≤ sidZ k n base ∧ sidZ k n base ≤ 1073741824 := by
  have := pct_small base n
  unfold sidZ; split
  · omega
  · split <;> omega
theorem bound_small (k n base : Int) (hn : -6400000 ≤ n ∧ n ≤ 6400000) : 0 ≤ boundZ k n base ∧ boundZ k n base ≤ 1073741824 := by
  have := pct_small base n
  unfold boundZ; split
  · omega
  · split <;> omega
theorem cap_small (k n base : Int) (hn : -6400000 ≤ n ∧ n ≤ 6400000) : -1 ≤ capZ k n base ∧ capZ k n base ≤ 1073741824 := by
  have := bound_small k n base hn
  unfold capZ; split <;> omega
theorem edg_is (st : List Int) (h : GoodZ st) (i : Nat) : -12800000 ≤ edgZ st i ∧ edgZ st i ≤ 12800000 := by
  have h1 := h.far (31 + i)
  have h2 := h.far (35 + i)
  unfold edgZ
  rw [heldT_in ⟨by omega, by omega⟩]
  omega
/-- What is asked of a block's numbers. -/
structure AddsZ (st : List Int) (base l e1 e3 w r lo hi : Int) : Prop where
  sum : l + e1 + e3 + w + r = base
  low : lo ≤ w
  high : 0 ≤ hi → w ≤ max hi lo
  pos : 0 ≤ w
  told : sidB (st.getD 29 0) = true → l = befZ st base
  alike : sidB (st.getD 29 0) = false → sidB (st.getD 25 0) = false → 0 ≤ base - w - e1 - e3 → st.getD 9 0 ≠ 0 → 0 ≤ r - l ∧ r - l ≤ 1
  bdl : -20000000000 ≤ l ∧ l ≤ 20000000000
  bdw : w ≤ 20000000000
  bdr : -20000000000 ≤ r ∧ r ≤ 20000000000
  bde1 : -12800000 ≤ e1 ∧ e1 ≤ 12800000
  bde3 : -12800000 ≤ e3 ∧ e3 ≤ 12800000
  bdlo : 0 ≤ lo ∧ lo ≤ 1073741824
  bdhi : -1 ≤ hi ∧ hi ≤ 1073741824
theorem adds_num (st : List Int) (h : GoodZ st) (base : Int) (hb : 0 ≤ base ∧ base < 268435456) :
    AddsZ st base (wleftZ st base) (edgZ st 1) (edgZ st 3) (wwZ st base) (wrightZ st base) (minZ st false base) (maxZ st false base) := by
  have x1 : -1073741824 ≤ befZ st base ∧ befZ st base ≤ 1073741824 := sid_small _ _ _ (h.far 30)
  have x2 : -1073741824 ≤ aftZ st base ∧ aftZ st base ≤ 1073741824 := sid_small _ _ _ (h.far 26)
  have x3 := edg_is st h 1
  have x4 := edg_is st h 3
  have x5 : 0 ≤ minZ st false base ∧ minZ st false base ≤ 1073741824 := bound_small _ _ _ (h.far 14)
  have x6 : -1 ≤ maxZ st false base ∧ maxZ st false base ≤ 1073741824 := cap_small _ _ _ (h.far 18)
  have x7 := sid_small (st.getD 9 0) (st.getD 10 0) base (h.far 10)
  have k3 := h.kind 29 (by omega) (by omega) (by omega)
  have k1 := h.kind 25 (by omega) (by omega) (by omega)
  have y1 : sidB (st.getD 29 0) = false → befZ st base = 0 := fun e => by
    have := of_decide_eq_false e
    unfold befZ sidZ; rw [if_neg (by omega), if_neg (by omega)]
  have y2 : sidB (st.getD 25 0) = false → aftZ st base = 0 := fun e => by
    have := of_decide_eq_false e
    unfold aftZ sidZ; rw [if_neg (by omega), if_neg (by omega)]
  have y3 : sidB (st.getD 29 0) = true → st.getD 29 0 ≠ 0 := fun e => by
    have := of_decide_eq_true e
    omega
  have y4 : sidB (st.getD 29 0) = false → st.getD 29 0 = 0 := fun e => by
    have := of_decide_eq_false e
    omega
  have y5 : sidB (st.getD 25 0) = false → st.getD 25 0 = 0 := fun e => by
    have := of_decide_eq_false e
    omega
  have hg : wgetsZ st (woverZ st base) = if woverZ st base < 0 ∨ st.getD 29 0 ≠ 0 then 0 else if st.getD 25 0 = 0 then woverZ st base / 2 else woverZ st base := rfl
  have ho : woverZ st base = wroomZ st base - wwZ st base := rfl
  have hr : wroomZ st base = base - (befZ st base + edgZ st 3 + edgZ st 1 + aftZ st base) := rfl
  have hw : wwZ st base = max (max 0 (minZ st false base)) (if 0 ≤ maxZ st false base then min (wtoldZ st base) (maxZ st false base) else wtoldZ st base) := rfl
  have ht : wtoldZ st base = if st.getD 9 0 = 0 then heldT (wroomZ st base) else sidZ (st.getD 9 0) (st.getD 10 0) base := rfl
  rw [heldT_in (show I64 (wroomZ st base) by rw [hr]; unfold I64; omega)] at ht
  have hL : wleftZ st base = heldT (wgetsZ st (woverZ st base) + befZ st base) := rfl
  have hR : wrightZ st base = heldT (woverZ st base - wgetsZ st (woverZ st base) + aftZ st base) := rfl
  have t1 : -3000000000 ≤ wtoldZ st base ∧ wtoldZ st base ≤ 3000000000 := by rw [ht]; split <;> omega
  have w1 : 0 ≤ wwZ st base ∧ wwZ st base ≤ 3000000000 := by rw [hw]; split <;> omega
  have g1 : -6500000000 ≤ wgetsZ st (woverZ st base) ∧ wgetsZ st (woverZ st base) ≤ 6500000000 := by rw [hg]; split <;> (try split) <;> omega
  rw [heldT_in (show I64 (wgetsZ st (woverZ st base) + befZ st base) by unfold I64; omega)] at hL
  rw [heldT_in (show I64 (woverZ st base - wgetsZ st (woverZ st base) + aftZ st base) by unfold I64; omega)] at hR
  generalize wgetsZ st (woverZ st base) = g at *
  refine ⟨by omega, by rw [hw]; omega, fun hp => by rw [hw, if_pos hp]; omega, w1.1, fun e => ?_, fun e f hf hk => ?_, by omega, by omega, by omega, x3, x4, x5, x6⟩
  · rw [hL, hg, if_pos (.inr (y3 e))]; omega
  · have z1 := y1 e
    have z2 := y2 f
    have hov : woverZ st base = base - wwZ st base - edgZ st 1 - edgZ st 3 := by omega
    rw [if_neg (by rw [y4 e]; omega), if_pos (y5 f)] at hg
    omega
end Go.Proofs.Ytjhmdflagkenbaa
