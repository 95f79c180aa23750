import Derived.Test.YteaenomfighaoaaShareNum
import Derived.Test.YteaenomfighaoaaFreeStep
/- Items along a line, as numbers: where each one's border box begins. No program is named here. -/
namespace Go.Proofs.Yteaenomfighaoaa
open Go.RowKit
set_option linter.unusedVariables false
set_option linter.unusedSimpArgs false

/-- An item: its margins, which of them are automatic, its size. -/
structure Al where
  b : Int
  a : Int
  ab : Bool
  aa : Bool
  s : Int
def bN (x : Bool) : Nat := if x then 1 else 0
theorem bN_le (x : Bool) : bN x ≤ 1 := by cases x <;> decide
def needA (l : List Al) : Int := (l.map fun x => x.b + x.s + x.a).sum
def freeA (inner : Int) (l : List Al) : Int := inner - needA l
def autosA (l : List Al) : Nat := (l.map fun x => bN x.ab + bN x.aa).sum
def onesA (m : Nat) : List Int := List.replicate m 1
/-- The part of the k-th of m. -/
def partA (f : Int) (m k : Nat) : Int := shareAt f (onesA m) k
/-- By automatic margins? -/
def isAuto (f : Int) (l : List Al) : Bool := decide (0 < f) && decide (0 < autosA l)
def gap1 (f : Int) (l : List Al) (j : Int) (k : Nat) : Int :=
  if isAuto f l then (if (l.map Al.ab).getD k false then partA f (autosA l) (autosA (l.take k)) else 0)
  else if j = 4 ∧ 0 < f then partA f (2 * l.length) (2 * k) else 0
def gap2 (f : Int) (l : List Al) (j : Int) (k : Nat) : Int :=
  if isAuto f l then (if (l.map Al.aa).getD k false then partA f (autosA l) (autosA (l.take k) + bN ((l.map Al.ab).getD k false)) else 0)
  else if j = 3 ∧ 0 < f ∧ 1 < l.length then (if k + 1 < l.length then partA f (l.length - 1) k else 0)
  else if j = 4 ∧ 0 < f then partA f (2 * l.length) (2 * k + 1) else 0
def startA (f : Int) (l : List Al) (j : Int) : Int := if isAuto f l then 0 else if j = 1 then f else if j = 2 then f / 2 else 0
/-- All sizes, margins and gaps of the first k. -/
def gapsA (f : Int) (l : List Al) (j : Int) (k : Nat) : Int := ((List.range k).map fun i => gap1 f l j i + gap2 f l j i).sum
def atA (f : Int) (l : List Al) (j : Int) (k : Nat) : Int := startA f l j + gapsA f l j k + needA (l.take k)
def posA (f : Int) (l : List Al) (j : Int) (k : Nat) : Int := atA f l j k + gap1 f l j k + (l.map Al.b).getD k 0
def placeA (inner : Int) (l : List Al) (j : Int) (rev : Bool) : List Int :=
  (List.range l.length).map fun k => if rev then inner - posA (freeA inner l) l j k - (l.map Al.s).getD k 0 else posA (freeA inner l) l j k
theorem placeA_len (inner : Int) (l : List Al) (j : Int) (rev : Bool) : (placeA inner l j rev).length = l.length := by simp [placeA]
theorem placeA_get (inner : Int) (l : List Al) (j : Int) (rev : Bool) {k : Nat} (h : k < l.length) : (placeA inner l j rev)[k]'(by rw [placeA_len]; exact h) = if rev then inner - posA (freeA inner l) l j k - l[k].s else posA (freeA inner l) l j k := by
  unfold placeA
  rw [List.getElem_map, List.getElem_range]
  have : (l.map Al.s).getD k 0 = l[k].s := by simp [List.getD, h]
  rw [this]

theorem getA {α : Type} (f : Al → α) (d : α) {l : List Al} {k : Nat} (h : k < l.length) : (l.map f).getD k d = f l[k] := by simp [List.getD, h]
theorem needA_take (l : List Al) {k : Nat} (h : k < l.length) : needA (l.take (k + 1)) = needA (l.take k) + l[k].b + l[k].s + l[k].a := by
  unfold needA; rw [List.take_succ_eq_append_getElem h, List.map_append, List.sum_append]; simp; omega
theorem autosA_take (l : List Al) {k : Nat} (h : k < l.length) : autosA (l.take (k + 1)) = autosA (l.take k) + bN l[k].ab + bN l[k].aa := by
  unfold autosA; rw [List.take_succ_eq_append_getElem h, List.map_append, List.sum_append]; simp; omega
theorem gapsA_succ (f : Int) (l : List Al) (j : Int) (k : Nat) : gapsA f l j (k + 1) = gapsA f l j k + gap1 f l j k + gap2 f l j k := by
  unfold gapsA; rw [List.range_succ, List.map_append, List.sum_append]; simp; omega
theorem atA_succ (f : Int) (l : List Al) (j : Int) {k : Nat} (h : k < l.length) : atA f l j (k + 1) = posA f l j k + l[k].s + l[k].a + gap2 f l j k := by
  unfold atA posA atA
  rw [gapsA_succ, needA_take l h, getA Al.b 0 h]; omega
theorem atA_zero (f : Int) (l : List Al) (j : Int) : atA f l j 0 = startA f l j := by simp [atA, gapsA, needA]
theorem autosA_mono (l : List Al) (k : Nat) : autosA (l.take k) ≤ autosA l := by
  have : autosA l = autosA (l.take k) + autosA (l.drop k) := by
    unfold autosA; rw [← List.sum_append, ← List.map_append, List.take_append_drop]
  omega
theorem autosA_le (l : List Al) : autosA l ≤ 2 * l.length := by
  induction l with
  | nil => simp [autosA]
  | cons x l ih =>
    have := bN_le x.ab; have := bN_le x.aa
    simp only [autosA, List.map_cons, List.sum_cons, List.length_cons] at *; omega

/-! ### Parts of a sharing in equal weights -/
theorem onesA_len (m : Nat) : (onesA m).length = m := List.length_replicate
theorem onesA_sum (m : Nat) : (onesA m).sum = m := by
  induction m with
  | zero => rfl
  | succ m ih => unfold onesA at *; rw [List.replicate_succ, List.sum_cons, ih]; omega
theorem onesA_facts {f : Int} {m : Nat} (h0 : 0 ≤ f) (h1 : f ≤ 1152921504606846976) (hm : m ≤ 1000) : ShareFacts f (onesA m) := by
  refine ⟨?_, by omega, h1⟩
  simp only [sumOk, Bool.and_eq_true, decide_eq_true_eq]
  refine ⟨by rw [onesA_len]; exact hm, ?_⟩
  rw [List.all_eq_true]
  intro x hx
  rw [List.eq_of_mem_replicate hx]; rfl
theorem partA_bd {f : Int} {m k : Nat} (h0 : 0 ≤ f) (h1 : f ≤ 1152921504606846976) (hm : m ≤ 1000) (hk : k < m) : f / (m : Int) ≤ partA f m k ∧ partA f m k ≤ f / (m : Int) + 1 := by
  have F := onesA_facts h0 h1 hm
  have hk' : k < (onesA m).length := by rw [onesA_len]; exact hk
  have h := F.part k hk' (by rw [onesA_sum]; omega)
  have hw : (onesA m)[k] = 1 := List.getElem_replicate ..
  rw [hw, Int.mul_one] at h
  unfold partA
  rw [h, onesA_sum]
  exact part_near _ _ _ (by omega)
theorem partA_nn {f : Int} {m k : Nat} (h0 : 0 ≤ f) (h1 : f ≤ 1152921504606846976) (hm : m ≤ 1000) (hk : k < m) : 0 ≤ partA f m k := by
  have := partA_bd h0 h1 hm hk
  have := Int.ediv_nonneg h0 (show (0 : Int) ≤ m by omega)
  omega
theorem partA_sum {f : Int} {m : Nat} (h0 : 0 ≤ f) (h1 : f ≤ 1152921504606846976) (hm : m ≤ 1000) : ∀ k, k ≤ m → ((List.range k).map (partA f m)).sum = ratZ f (k : Int) (m : Int)
  | 0, _ => by rw [show ((0 : Nat) : Int) = 0 from rfl, ratZ_zero]; rfl
  | k + 1, h => by
    rw [List.range_succ, List.map_append, List.sum_append, partA_sum h0 h1 hm k (by omega)]
    have e : ∀ i, i ≤ m → ((onesA m).take i).sum = i := fun i hi => by
      have : (onesA m).take i = onesA i := by unfold onesA; rw [List.take_replicate, Nat.min_eq_left hi]
      rw [this, onesA_sum]
    have : partA f m k = ratZ f ((k + 1 : Nat) : Int) (m : Int) - ratZ f (k : Int) (m : Int) := by
      unfold partA shareAt
      rw [e (k + 1) h, e k (by omega), onesA_sum]
    simp only [List.map_cons, List.map_nil, List.sum_cons, List.sum_nil]
    omega
theorem partA_all {f : Int} {m : Nat} (h0 : 0 ≤ f) (h1 : f ≤ 1152921504606846976) (hm : m ≤ 1000) (hp : 0 < m) : ((List.range m).map (partA f m)).sum = f := by
  rw [partA_sum h0 h1 hm m (Nat.le_refl _), ratZ_eq f m m (by omega) h1 (by omega) (by omega) (by omega) (Int.le_refl _), Int.mul_ediv_cancel _ (by omega)]
theorem ratA_le {f : Int} {m k : Nat} (h0 : 0 ≤ f) (h1 : f ≤ 1152921504606846976) (hm : m ≤ 1000) (hp : 0 < m) (hk : k ≤ m) : 0 ≤ ratZ f (k : Int) (m : Int) ∧ ratZ f (k : Int) (m : Int) ≤ f := by
  rw [ratZ_eq f k m (by omega) h1 (by omega) (by omega) (by omega) (by omega)]
  refine ⟨Int.ediv_nonneg (Int.mul_nonneg h0 (by omega)) (by omega), ?_⟩
  have : f * (k : Int) / (m : Int) ≤ f * (m : Int) / (m : Int) := Int.ediv_le_ediv (by omega) (Int.mul_le_mul_of_nonneg_left (by omega) h0)
  rwa [Int.mul_ediv_cancel _ (by omega)] at this

/-! ### All gaps of the first k items -/
theorem gaps_auto {f : Int} {l : List Al} {j : Int} (h1 : f ≤ 1152921504606846976) (hl : l.length ≤ 500) (ha : isAuto f l = true) : ∀ k, k ≤ l.length → gapsA f l j k = ratZ f (autosA (l.take k) : Int) (autosA l : Int) := by
  have hf : 0 < f := by unfold isAuto at ha; simp at ha; exact ha.1
  have hp : 0 < autosA l := by unfold isAuto at ha; simp at ha; exact ha.2
  have hm : autosA l ≤ 1000 := by have := autosA_le l; omega
  have key : ∀ k, k < autosA l → partA f (autosA l) k = ratZ f ((k + 1 : Nat) : Int) (autosA l : Int) - ratZ f (k : Int) (autosA l : Int) := fun k hk => by
    have e1 := partA_sum (by omega : 0 ≤ f) h1 hm (k + 1) hk
    rw [List.range_succ, List.map_append, List.sum_append, partA_sum (by omega) h1 hm k (by omega)] at e1
    simp only [List.map_cons, List.map_nil, List.sum_cons, List.sum_nil] at e1
    omega
  intro k
  induction k with
  | zero => intro _; simp [gapsA, autosA, ratZ_zero]
  | succ k ih =>
    intro hk
    rw [gapsA_succ, ih (by omega), autosA_take l hk]
    have hle := autosA_mono l (k + 1)
    rw [autosA_take l hk] at hle
    unfold gap1 gap2
    rw [if_pos ha, if_pos ha, getA Al.ab false hk, getA Al.aa false hk]
    cases h2 : l[k].ab <;> cases h3 : l[k].aa <;> simp only [h2, h3, bN] at hle ⊢ <;> simp only [if_true, if_false, Bool.false_eq_true] at hle ⊢
    · simp
    · rw [key _ (by omega)]; simp; omega
    · rw [key _ (by omega)]; simp; omega
    · rw [key _ (by omega), key _ (by omega)]
      have : ((autosA (l.take k) + 1 + 1 : Nat) : Int) = ((autosA (l.take k) : Nat) : Int) + 1 + 1 := by omega
      simp; omega
theorem gaps_betw {f : Int} {l : List Al} {j : Int} (h0 : 0 < f) (h1 : f ≤ 1152921504606846976) (hl : l.length ≤ 500) (ha : isAuto f l = false) (hj : j = 3) (h2 : 1 < l.length) : ∀ k, k ≤ l.length → gapsA f l j k = ratZ f ((min k (l.length - 1) : Nat) : Int) ((l.length - 1 : Nat) : Int) := by
  intro k
  induction k with
  | zero => intro _; simp [gapsA, ratZ_zero]
  | succ k ih =>
    intro hk
    rw [gapsA_succ, ih (by omega)]
    unfold gap1 gap2
    rw [ha]
    simp only [Bool.false_eq_true, if_false]
    rw [if_neg (by omega), if_pos ⟨hj, h0, h2⟩]
    by_cases h3 : k + 1 < l.length
    · rw [if_pos h3, Nat.min_eq_left (by omega), Nat.min_eq_left (by omega)]
      have e1 := partA_sum (by omega : 0 ≤ f) h1 (by omega : l.length - 1 ≤ 1000) (k + 1) (by omega)
      rw [List.range_succ, List.map_append, List.sum_append, partA_sum (by omega) h1 (by omega) k (by omega)] at e1
      simp only [List.map_cons, List.map_nil, List.sum_cons, List.sum_nil] at e1
      omega
    · rw [if_neg h3, Nat.min_eq_right (by omega), Nat.min_eq_right (by omega)]; omega
theorem gaps_arnd {f : Int} {l : List Al} {j : Int} (h0 : 0 < f) (h1 : f ≤ 1152921504606846976) (hl : l.length ≤ 500) (ha : isAuto f l = false) (hj : j = 4) : ∀ k, k ≤ l.length → gapsA f l j k = ratZ f ((2 * k : Nat) : Int) ((2 * l.length : Nat) : Int) := by
  intro k
  induction k with
  | zero => intro _; simp [gapsA, ratZ_zero]
  | succ k ih =>
    intro hk
    rw [gapsA_succ, ih (by omega)]
    unfold gap1 gap2
    rw [ha]
    simp only [Bool.false_eq_true, if_false]
    rw [if_pos ⟨hj, h0⟩, if_neg (by omega), if_pos ⟨hj, h0⟩]
    have e1 := partA_sum (by omega : 0 ≤ f) h1 (by omega : 2 * l.length ≤ 1000) (2 * k + 1) (by omega)
    have e2 := partA_sum (by omega : 0 ≤ f) h1 (by omega : 2 * l.length ≤ 1000) (2 * k + 1 + 1) (by omega)
    rw [List.range_succ, List.map_append, List.sum_append, partA_sum (by omega) h1 (by omega) (2 * k) (by omega)] at e1
    rw [List.range_succ, List.map_append, List.sum_append, partA_sum (by omega) h1 (by omega) (2 * k + 1) (by omega)] at e2
    simp only [List.map_cons, List.map_nil, List.sum_cons, List.sum_nil] at e1 e2
    rw [show 2 * (k + 1) = 2 * k + 1 + 1 by omega]
    omega
theorem gaps_none {f : Int} {l : List Al} {j : Int} (ha : isAuto f l = false) (h : ¬ (j = 3 ∧ 0 < f ∧ 1 < l.length)) (h' : ¬ (j = 4 ∧ 0 < f)) (k : Nat) : gap1 f l j k = 0 ∧ gap2 f l j k = 0 := by
  unfold gap1 gap2
  rw [ha]
  simp only [Bool.false_eq_true, if_false]
  rw [if_neg h', if_neg h, if_neg h']; exact ⟨rfl, rfl⟩
theorem gaps_nil {f : Int} {l : List Al} {j : Int} (ha : isAuto f l = false) (h : ¬ (j = 3 ∧ 0 < f ∧ 1 < l.length)) (h' : ¬ (j = 4 ∧ 0 < f)) : ∀ k, gapsA f l j k = 0
  | 0 => rfl
  | k + 1 => by rw [gapsA_succ, gaps_nil ha h h' k]; have := gaps_none ha h h' k; omega
/-- The gaps of the first k: none below 0, all within what is free. -/
theorem gapsA_bd {f : Int} {l : List Al} {j : Int} (h1 : f ≤ 1152921504606846976) (hl : l.length ≤ 500) {k : Nat} (hk : k ≤ l.length) : 0 ≤ gapsA f l j k ∧ gapsA f l j k ≤ max f 0 ∧ (isAuto f l = true ∨ startA f l j = 0 ∨ gapsA f l j k = 0) := by
  by_cases ha : isAuto f l = true
  · have hf : 0 < f := by unfold isAuto at ha; simp at ha; exact ha.1
    have hp : 0 < autosA l := by unfold isAuto at ha; simp at ha; exact ha.2
    have := autosA_le l
    rw [gaps_auto h1 hl ha k hk]
    have := ratA_le (k := autosA (l.take k)) (by omega) h1 (by omega) hp (autosA_mono l k)
    exact ⟨this.1, by omega, .inl ha⟩
  · have ha : isAuto f l = false := by simpa using ha
    by_cases h : j = 3 ∧ 0 < f ∧ 1 < l.length
    · obtain ⟨hj, h0, h2⟩ := h
      rw [gaps_betw h0 h1 hl ha hj h2 k hk]
      have := ratA_le (f := f) (m := l.length - 1) (k := min k (l.length - 1)) (by omega) h1 (by omega) (by omega) (by omega)
      refine ⟨this.1, by omega, .inr (.inl ?_)⟩
      unfold startA; rw [ha]; simp only [Bool.false_eq_true, if_false]; rw [if_neg (by omega), if_neg (by omega)]
    · by_cases h' : j = 4 ∧ 0 < f
      · obtain ⟨hj, h0⟩ := h'
        rw [gaps_arnd h0 h1 hl ha hj k hk]
        by_cases hz : l.length = 0
        · have : k = 0 := by omega
          subst this
          rw [show ((2 * 0 : Nat) : Int) = 0 from rfl, ratZ_zero]
          refine ⟨by omega, by omega, .inr (.inr rfl)⟩
        · have := ratA_le (f := f) (m := 2 * l.length) (k := 2 * k) (by omega) h1 (by omega) (by omega) (by omega)
          refine ⟨this.1, by omega, .inr (.inl ?_)⟩
          unfold startA; rw [ha]; simp only [Bool.false_eq_true, if_false]; rw [if_neg (by omega), if_neg (by omega)]
      · rw [gaps_nil ha h h' k]; exact ⟨by omega, by omega, .inr (.inr rfl)⟩
theorem gap_nn {f : Int} {l : List Al} {j : Int} (h1 : f ≤ 1152921504606846976) (hl : l.length ≤ 500) {k : Nat} (hk : k < l.length) : 0 ≤ gap1 f l j k ∧ 0 ≤ gap2 f l j k := by
  unfold gap1 gap2
  by_cases ha : isAuto f l = true
  · have hf : 0 < f := by unfold isAuto at ha; simp at ha; exact ha.1
    have hm := autosA_le l
    have hle := autosA_mono l (k + 1)
    rw [autosA_take l hk] at hle
    rw [if_pos ha, if_pos ha, getA Al.ab false hk, getA Al.aa false hk]
    constructor
    · cases h2 : l[k].ab
      · simp
      · rw [h2] at hle; simp only [if_true]; exact partA_nn (by omega) h1 (by omega) (by simp only [bN, if_true] at hle; omega)
    · cases h2 : l[k].aa
      · simp
      · rw [h2] at hle; simp only [if_true]; exact partA_nn (by omega) h1 (by omega) (by simp only [bN, if_true] at hle ⊢; omega)
  · rw [if_neg ha, if_neg ha]
    constructor
    · split
      · exact partA_nn (by omega) h1 (by omega) (by omega)
      · omega
    · split
      · split
        · exact partA_nn (by omega) h1 (by omega) (by omega)
        · omega
      · split
        · exact partA_nn (by omega) h1 (by omega) (by omega)
        · omega
theorem startA_bd (f : Int) (l : List Al) (j : Int) : min f 0 ≤ startA f l j ∧ startA f l j ≤ max f 0 ∧ (0 ≤ f → 0 ≤ startA f l j) := by
  unfold startA
  split
  · omega
  · split
    · omega
    · split <;> omega
/-- With room all is within it. -/
theorem atA_fit {f : Int} {l : List Al} {j : Int} (h0 : 0 ≤ f) (h1 : f ≤ 1152921504606846976) (hl : l.length ≤ 500) : atA f l j l.length ≤ f + needA l := by
  have h := gapsA_bd (j := j) h1 hl (Nat.le_refl l.length)
  have hs := startA_bd f l j
  unfold atA
  rw [List.take_length]
  rcases h.2.2 with h3 | h3 | h3
  · have : startA f l j = 0 := by unfold startA; rw [if_pos h3]
    omega
  · omega
  · omega
end Go.Proofs.Yteaenomfighaoaa
