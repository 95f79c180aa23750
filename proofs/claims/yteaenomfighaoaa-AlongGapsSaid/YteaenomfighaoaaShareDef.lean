import Derived.Test.YteaenomfighaoaaRatNum
/- Shares as numbers: out of Share. -/
namespace Go.Proofs.Yteaenomfighaoaa
open Go Go.RowKit
set_option linter.unusedVariables false
set_option linter.unusedSimpArgs false
set_option maxRecDepth 20000
set_option maxHeartbeats 4000000

def wOk (z : Int) : Bool := decide (0 ≤ z) && decide (z ≤ 1125899906842624)
def sumOk (zs : List Int) : Bool := decide (zs.length ≤ 1000) && zs.all wOk
theorem wsum_bd (zs : List Int) (h : zs.all wOk = true) : 0 ≤ zs.sum ∧ zs.sum ≤ zs.length * 1125899906842624 := by
  induction zs with
  | nil => simp
  | cons z zs ih =>
    simp only [List.all_cons, Bool.and_eq_true, wOk, decide_eq_true_eq] at h
    have := ih (by simpa [wOk] using h.2)
    simp only [List.sum_cons, List.length_cons]
    omega
theorem all_take (zs : List Int) (k : Nat) (h : zs.all wOk = true) : (zs.take k).all wOk = true := by
  rw [List.all_eq_true] at h ⊢
  intro x hx
  exact h x (List.mem_of_mem_take hx)
theorem all_get (zs : List Int) (h : zs.all wOk = true) (k : Nat) (hk : k < zs.length) : 0 ≤ zs[k] ∧ zs[k] ≤ 1125899906842624 := by
  rw [List.all_eq_true] at h
  have := h _ (List.getElem_mem hk)
  simpa [wOk] using this
theorem not_all (zs : List Int) (h : zs.all wOk = false) : ∃ k, ∃ hk : k < zs.length, (zs.take k).all wOk = true ∧ wOk zs[k] = false := by
  induction zs with
  | nil => simp at h
  | cons z zs ih =>
    by_cases hz : wOk z = true
    · rw [List.all_cons, hz, Bool.true_and] at h
      obtain ⟨k, hk, h1, h2⟩ := ih h
      exact ⟨k + 1, by simp; omega, by simp [hz] at h1 ⊢; exact h1, by simpa using h2⟩
    · exact ⟨0, by simp, by simp, by simpa using hz⟩

def shareAt (n : Int) (zs : List Int) (k : Nat) : Int := ratZ n (zs.take (k + 1)).sum zs.sum - ratZ n (zs.take k).sum zs.sum
def shareOk (n : Int) (zs : List Int) : Bool := sumOk zs && decide (-1152921504606846976 ≤ n ∧ n ≤ 1152921504606846976)
def shareZ (n : Int) (zs : List Int) : List Int := if shareOk n zs then (List.range zs.length).map (shareAt n zs) else []
theorem ratZ_zero (n q : Int) : ratZ n 0 q = 0 := by unfold ratZ; split <;> simp
theorem ratZ_bd (n p q : Int) : -1152921504606846976 ≤ ratZ n p q ∧ ratZ n p q ≤ 1152921504606846976 := by
  unfold ratZ
  split
  · rename_i h
    obtain ⟨⟨h1, h2⟩, h3, h4, h5, h6⟩ := h
    by_cases hn : 0 ≤ n
    · obtain ⟨_, _, _, _, f5, f6, _⟩ := rat_facts n p q hn h2 h3 h4 h5 h6
      omega
    · obtain ⟨_, _, _, _, f5, f6, f7, f8, f9, _⟩ := rat_facts (-n) p q (by omega) (by omega) h3 h4 h5 h6
      have e := neg_div (-n * p) q (-n * p / q) (-n * p % q) (by omega) f9 f7 f8
      rw [show -(-n * p) = n * p by rw [Int.neg_mul, Int.neg_neg]] at e
      rw [e]
      have hlt : -n * p / q < -n ∨ -n * p / q = -n := by omega
      split
      · rcases hlt with h | h
        · omega
        · exfalso
          rw [h] at f9
          have : q * -n ≤ -n * p := by omega
          have h2 : -n * p ≤ -n * q := Int.mul_le_mul_of_nonneg_left h6 (by omega)
          rw [Int.mul_comm q] at f9
          omega
      · omega
  · omega

theorem shareZ_yes (n : Int) (zs : List Int) (h : shareOk n zs = true) : shareZ n zs = (List.range zs.length).map (shareAt n zs) := by simp [shareZ, h]
end Go.Proofs.Yteaenomfighaoaa
