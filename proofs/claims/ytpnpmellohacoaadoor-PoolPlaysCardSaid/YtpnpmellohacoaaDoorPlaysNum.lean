import Derived.Test.YtpnpmellohacoaaDoorPoolNum
/- The document's pool beside a pool: PoolPlays in plain words. No program is named here. -/
namespace Go.Proofs.YtpnpmellohacoaaDoor
set_option linter.unusedVariables false
set_option linter.unusedSimpArgs false

def rT (N : Nat) (pl : Pl) : List Int := (List.range N).map (turnOf pl)
def rK (N : Nat) (pl : Pl) : List Bool := (List.range N).map (takenOf pl)
theorem rT_length (N : Nat) (pl : Pl) : (rT N pl).length = N := by simp [rT]
theorem rK_length (N : Nat) (pl : Pl) : (rK N pl).length = N := by simp [rK]
theorem rT_at {N : Nat} {pl : Pl} {i : Nat} (h : i < N) : (rT N pl)[i]? = some (turnOf pl i) := by simp [rT, h]
theorem rK_at {N : Nat} {pl : Pl} {i : Nat} (h : i < N) : (rK N pl)[i]? = some (takenOf pl i) := by simp [rK, h]
theorem rT_out {N : Nat} {pl : Pl} {i : Nat} (h : N ≤ i) : (rT N pl)[i]? = none := List.getElem?_eq_none (by rw [rT_length]; exact h)
theorem rK_out {N : Nat} {pl : Pl} {i : Nat} (h : N ≤ i) : (rK N pl)[i]? = none := List.getElem?_eq_none (by rw [rK_length]; exact h)
theorem rT_new (N : Nat) : rT N [] = List.replicate N 0 := by
  apply List.ext_getElem?; intro i
  by_cases h : i < N
  · rw [rT_at h]; simp [h, turnOf]
  · rw [List.getElem?_eq_none (by rw [rT_length]; omega), List.getElem?_eq_none (by simp; omega)]
theorem rK_new (N : Nat) : rK N [] = List.replicate N false := by
  apply List.ext_getElem?; intro i
  by_cases h : i < N
  · rw [rK_at h]; simp [h, takenOf]
  · rw [List.getElem?_eq_none (by rw [rK_length]; omega), List.getElem?_eq_none (by simp; omega)]
theorem rT_take {N : Nat} {pl : Pl} (h : leastF pl < N) : (rT N pl).set (leastF pl) (turnOf pl (leastF pl) + 1) = rT N (takeP pl) := by
  apply List.ext_getElem?; intro i
  rw [List.getElem?_set]
  by_cases hi : i < N
  · rw [rT_at hi, rT_at hi, turnOf_take, rT_length]
    by_cases e : leastF pl = i
    · subst e; simp [h]
    · rw [if_neg e, if_neg (Ne.symm e)]
  · rw [rT_out (by omega), if_neg (by omega), rT_out (by omega)]
theorem rK_take {N : Nat} {pl : Pl} (h : leastF pl < N) : (rK N pl).set (leastF pl) true = rK N (takeP pl) := by
  apply List.ext_getElem?; intro i
  rw [List.getElem?_set]
  by_cases hi : i < N
  · rw [rK_at hi, rK_at hi, takenOf_take, rK_length]
    by_cases e : leastF pl = i
    · subst e; simp [h]
    · rw [if_neg e, if_neg (Ne.symm e)]
  · rw [rK_out (by omega), if_neg (by omega), rK_out (by omega)]
theorem rT_free {N : Nat} {pl : Pl} {k : Nat} (h : k < pl.length) : rT N (freeP pl k) = rT N pl := by
  unfold rT
  congr 1
  funext i
  exact turnOf_free h i
theorem rK_free {N : Nat} {pl : Pl} {k : Nat} (h : k < pl.length) (hN : k < N) : (rK N pl).set k false = rK N (freeP pl k) := by
  apply List.ext_getElem?; intro i
  rw [List.getElem?_set]
  by_cases hi : i < N
  · rw [rK_at hi, rK_at hi, takenOf_free h, rK_length]
    by_cases e : k = i
    · subst e; simp [hN]
    · rw [if_neg e, if_neg (Ne.symm e)]
  · rw [rK_out (by omega), if_neg (by omega), rK_out (by omega)]
/-- How many of the first are taken. -/
def upto (pl : Pl) : Nat → Nat
  | 0 => 0
  | k + 1 => upto pl k + if takenOf pl k then 1 else 0
theorem upto_all : ∀ (pl : Pl) (n : Nat), pl.length ≤ n → upto pl n = countP pl := by
  have key : ∀ (p : Int × Bool) (r : Pl) (n : Nat), upto (p :: r) (n + 1) = (if p.2 then 1 else 0) + upto r n := by
    intro p r n
    induction n with
    | zero => simp [upto, takenOf]
    | succ n ih =>
      rw [upto, ih, takenOf_cons]
      simp only [upto]
      omega
  intro pl
  induction pl with
  | nil =>
    intro n _
    induction n with
    | zero => rfl
    | succ n ih => simp [upto, ih, takenOf, countP]
  | cons p r ih =>
    intro n h
    obtain ⟨m, rfl⟩ : ∃ m, n = m + 1 := ⟨n - 1, by simp at h; omega⟩
    rw [key, ih m (by simpa using h)]
    show _ = if p.2 then countP r + 1 else countP r
    split <;> omega
theorem upto_le (pl : Pl) : ∀ n, upto pl n ≤ n := by
  intro n
  induction n with
  | zero => exact Nat.le_refl _
  | succ n ih => unfold upto; split <;> omega
theorem least_room {pl : Pl} {N : Nat} (hl : pl.length ≤ N) (h : countP pl < N) : leastF pl < N := by
  have h1 := leastF_le pl
  by_cases e : leastF pl = pl.length
  · have := count_full e; omega
  · omega
theorem full_all {pl : Pl} {N : Nat} (hl : pl.length ≤ N) (h : countP pl = N) : ∀ i, i < N → takenOf pl i = true := by
  have h1 := countP_le pl
  have h2 : leastF pl = pl.length := full_count (by omega)
  intro i hi
  exact leastF_below pl i (by omega)
end Go.Proofs.YtpnpmellohacoaaDoor
