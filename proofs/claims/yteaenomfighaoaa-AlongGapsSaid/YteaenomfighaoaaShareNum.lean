import Derived.Test.YteaenomfighaoaaMem
import Derived.Test.YteaenomfighaoaaShareDef
/- What the parts of a sharing are like: plain arithmetic. -/
namespace Go.Proofs.Yteaenomfighaoaa
open Go.RowKit
set_option linter.unusedVariables false

theorem take_sum_le (ws : List Int) (h : ws.all wOk = true) (k : Nat) : (ws.take k).sum ≤ ws.sum := by
  have e : ws.sum = (ws.take k).sum + (ws.drop k).sum := by rw [← List.sum_append, List.take_append_drop]
  have hd : (ws.drop k).all wOk = true := by
    rw [List.all_eq_true] at h ⊢
    exact fun x hx => h x (List.mem_of_mem_drop hx)
  have := wsum_bd _ hd
  omega
theorem sum_le_60 (ws : List Int) (h : sumOk ws = true) : 0 ≤ ws.sum ∧ ws.sum ≤ 1125899906842624000 := by
  simp only [sumOk, Bool.and_eq_true, decide_eq_true_eq] at h
  have := wsum_bd ws h.2
  omega
theorem ratZ_eq (n S W : Int) (h1 : -1152921504606846976 ≤ n) (h2 : n ≤ 1152921504606846976) (hW : 1 ≤ W) (hW' : W ≤ 1152921504606846976) (h0 : 0 ≤ S) (hS : S ≤ W) : ratZ n S W = n * S / W := by
  unfold ratZ; rw [if_pos ⟨⟨h1, h2⟩, hW, hW', h0, hS⟩]
theorem ratZ_W0 (n S W : Int) (hW : W < 1) : ratZ n S W = 0 := by
  unfold ratZ; rw [if_neg]; omega
/-- A part is the floor of its own share, or one more. -/
theorem part_near (x y W : Int) (hW : 0 < W) : y / W ≤ (x + y) / W - x / W ∧ (x + y) / W - x / W ≤ y / W + 1 := by
  have h1 := Int.mul_ediv_add_emod x W
  have h2 := Int.mul_ediv_add_emod y W
  have b1 := Int.emod_nonneg x (Int.ne_of_gt hW)
  have b2 := Int.emod_lt_of_pos x hW
  have b3 := Int.emod_nonneg y (Int.ne_of_gt hW)
  have b4 := Int.emod_lt_of_pos y hW
  have e : (x + y) / W = (x % W + y % W) / W + (x / W + y / W) := by
    have : x + y = (x % W + y % W) + W * (x / W + y / W) := by rw [Int.mul_add]; omega
    rw [this, Int.add_mul_ediv_left _ _ (by omega)]
  have h3 : 0 ≤ (x % W + y % W) / W := Int.ediv_nonneg (by omega) (by omega)
  have h4 : (x % W + y % W) / W < 2 := by
    rw [Int.ediv_lt_iff_lt_mul hW]; omega
  omega

theorem share_part0 (n : Int) (ws : List Int) (k : Nat) (hW : ws.sum < 1) : shareAt n ws k = 0 := by
  unfold shareAt; rw [ratZ_W0 _ _ _ hW, ratZ_W0 _ _ _ hW]; rfl
theorem share_run (n : Int) (ws : List Int) (k : Nat) (hk : k < ws.length) : ratZ n (ws.take (k + 1)).sum ws.sum = ratZ n (ws.take k).sum ws.sum + shareAt n ws k := by unfold shareAt; omega
theorem share_bd (n : Int) (ws : List Int) (k : Nat) : -2305843009213693952 ≤ shareAt n ws k ∧ shareAt n ws k ≤ 2305843009213693952 := by
  have h1 := ratZ_bd n (ws.take (k + 1)).sum ws.sum
  have h2 := ratZ_bd n (ws.take k).sum ws.sum
  unfold shareAt; omega
structure ShareFacts (n : Int) (ws : List Int) : Prop where
  ok : sumOk ws = true
  n1 : -1152921504606846976 ≤ n
  n2 : n ≤ 1152921504606846976
namespace ShareFacts
variable {n : Int} {ws : List Int} (F : ShareFacts n ws)
include F
theorem all : ws.all wOk = true := by have := F.ok; simp only [sumOk, Bool.and_eq_true] at this; exact this.2
theorem shareOk' : shareOk n ws = true := by simp [shareOk, F.ok, F.n1, F.n2]
theorem pre (k : Nat) : 0 ≤ (ws.take k).sum ∧ (ws.take k).sum ≤ ws.sum := ⟨(wsum_bd _ (all_take ws k F.all)).1, take_sum_le ws F.all k⟩
theorem whole : 0 ≤ ws.sum ∧ ws.sum ≤ 1125899906842624000 := sum_le_60 ws F.ok
theorem rat (k : Nat) (hW : 1 ≤ ws.sum) : ratZ n (ws.take k).sum ws.sum = n * (ws.take k).sum / ws.sum :=
  ratZ_eq _ _ _ F.n1 F.n2 hW (by have := F.whole; omega) (F.pre k).1 (F.pre k).2
theorem part (k : Nat) (hk : k < ws.length) (hW : 1 ≤ ws.sum) : shareAt n ws k = (n * (ws.take k).sum + n * ws[k]) / ws.sum - n * (ws.take k).sum / ws.sum := by
  unfold shareAt
  rw [F.rat k hW, F.rat (k + 1) hW, sum_take_succ ws k hk, Int.mul_add]
theorem pos (k : Nat) (hk : k < ws.length) (hn : 0 ≤ n) : 0 ≤ shareAt n ws k := by
  by_cases hW : 1 ≤ ws.sum
  · have h := part_near (n * (ws.take k).sum) (n * ws[k]) ws.sum (by omega)
    rw [F.part k hk hW]
    have := Int.ediv_nonneg (Int.mul_nonneg hn (all_get ws F.all k hk).1) (show 0 ≤ ws.sum by omega)
    omega
  · rw [share_part0 n ws k (by omega)]; exact Int.le_refl _
theorem neg (k : Nat) (hk : k < ws.length) (hn : n ≤ 0) : shareAt n ws k ≤ 0 := by
  by_cases hW : 1 ≤ ws.sum
  · rw [F.part k hk hW]
    have hy : n * ws[k] ≤ 0 := Int.mul_nonpos_of_nonpos_of_nonneg hn (all_get ws F.all k hk).1
    have : (n * (ws.take k).sum + n * ws[k]) / ws.sum ≤ n * (ws.take k).sum / ws.sum := Int.ediv_le_ediv (by omega) (by omega)
    omega
  · rw [share_part0 n ws k (by omega)]; exact Int.le_refl _
theorem none_ (k : Nat) (hk : k < ws.length) (h0 : ws[k] = 0) : shareAt n ws k = 0 := by
  by_cases hW : 1 ≤ ws.sum
  · rw [F.part k hk hW, h0, Int.mul_zero, Int.add_zero, Int.sub_self]
  · exact share_part0 n ws k (by omega)
theorem near (k i : Nat) (hk : k < ws.length) (hi : i < ws.length) (h : ws[k] = ws[i]) : -1 ≤ shareAt n ws k - shareAt n ws i ∧ shareAt n ws k - shareAt n ws i ≤ 1 := by
  by_cases hW : 1 ≤ ws.sum
  · have h1 := part_near (n * (ws.take k).sum) (n * ws[k]) ws.sum (by omega)
    have h2 := part_near (n * (ws.take i).sum) (n * ws[i]) ws.sum (by omega)
    rw [F.part k hk hW, F.part i hi hW]
    rw [h] at h1 ⊢
    omega
  · rw [share_part0 n ws k (by omega), share_part0 n ws i (by omega)]; decide
theorem full : ratZ n (ws.take ws.length).sum ws.sum = if 0 < ws.sum then n else 0 := by
  rw [List.take_length]
  split
  · rename_i h
    have h2 := F.whole
    rw [ratZ_eq _ _ _ F.n1 F.n2 (by omega) (by omega) (by omega) (Int.le_refl _), Int.mul_ediv_cancel _ (by omega)]
  · exact ratZ_W0 _ _ _ (by omega)
theorem length : (shareZ n ws).length = ws.length := by rw [shareZ_yes n ws F.shareOk']; simp
theorem get (k : Nat) (hk : k < (shareZ n ws).length) : (shareZ n ws)[k] = shareAt n ws k := by
  have e := shareZ_yes n ws F.shareOk'
  simp [e]
end ShareFacts
end Go.Proofs.Yteaenomfighaoaa
