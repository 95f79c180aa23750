import Derived.Test.YteaenomfighaoaaAlNum
/- Items along a line: how far all of it is, and what the laws ask of gaps. No program is named here. -/
namespace Go.Proofs.Yteaenomfighaoaa
open Go.RowKit
set_option linter.unusedVariables false
set_option linter.unusedSimpArgs false

structure AlOk (x : Al) : Prop where
  b0 : -1099511627776 ≤ x.b
  b1 : x.b ≤ 1099511627776
  a0 : -1099511627776 ≤ x.a
  a1 : x.a ≤ 1099511627776
  s0 : 0 ≤ x.s
  s1 : x.s ≤ 1099511627776
  zb : x.ab = true → x.b = 0
  za : x.aa = true → x.a = 0
theorem needA_cons (x : Al) (l : List Al) : needA (x :: l) = x.b + x.s + x.a + needA l := by simp [needA]
theorem needA_bd : ∀ (l : List Al), (∀ x ∈ l, AlOk x) → -(2199023255552 * (l.length : Int)) ≤ needA l ∧ needA l ≤ 3298534883328 * (l.length : Int)
  | [], _ => by simp [needA]
  | x :: l, h => by
    have hx := h x (List.mem_cons_self ..)
    have := needA_bd l fun y hy => h y (List.mem_cons_of_mem _ hy)
    have := hx.b0; have := hx.b1; have := hx.a0; have := hx.a1; have := hx.s0; have := hx.s1
    rw [needA_cons, List.length_cons]; omega
theorem needA_takebd {l : List Al} (h : ∀ x ∈ l, AlOk x) (hl : l.length ≤ 100) (k : Nat) : -219902325555200 ≤ needA (l.take k) ∧ needA (l.take k) ≤ 329853488332800 := by
  have := needA_bd (l.take k) fun x hx => h x (List.mem_of_mem_take hx)
  have : (l.take k).length ≤ 100 := by rw [List.length_take]; omega
  omega
theorem freeA_bd {inner : Int} {l : List Al} (h : ∀ x ∈ l, AlOk x) (hl : l.length ≤ 100) (hi : -35184372088832 ≤ inner ∧ inner ≤ 35184372088832) : -365037860421632 ≤ freeA inner l ∧ freeA inner l ≤ 255086697644032 := by
  have := needA_takebd h hl l.length
  rw [List.take_length] at this
  unfold freeA; omega
/-- How far all of it is. -/
structure PosBd (f : Int) (l : List Al) (j : Int) (k : Nat) : Prop where
  at0 : -1100000000000000 ≤ atA f l j k
  at1 : atA f l j k ≤ 1100000000000000
  g10 : 0 ≤ gap1 f l j k
  g11 : gap1 f l j k ≤ 365037860421632
  g20 : 0 ≤ gap2 f l j k
  g21 : gap2 f l j k ≤ 365037860421632
  p0 : -2000000000000000 ≤ posA f l j k
  p1 : posA f l j k ≤ 2000000000000000
theorem atA_bd {f : Int} {l : List Al} {j : Int} (h : ∀ x ∈ l, AlOk x) (hl : l.length ≤ 100) (hf : -365037860421632 ≤ f ∧ f ≤ 365037860421632) {k : Nat} (hk : k ≤ l.length) : -1100000000000000 ≤ atA f l j k ∧ atA f l j k ≤ 1100000000000000 := by
  have h1 := gapsA_bd (f := f) (l := l) (j := j) (by omega) (by omega) hk
  have h2 := startA_bd f l j
  have h3 := needA_takebd h hl k
  unfold atA
  omega
theorem posA_bd {f : Int} {l : List Al} {j : Int} (h : ∀ x ∈ l, AlOk x) (hl : l.length ≤ 100) (hf : -365037860421632 ≤ f ∧ f ≤ 365037860421632) {k : Nat} (hk : k < l.length) : PosBd f l j k := by
  have h1 := gapsA_bd (f := f) (l := l) (j := j) (by omega) (by omega) (show k ≤ l.length by omega)
  have h4 := gapsA_bd (f := f) (l := l) (j := j) (by omega) (by omega) (show k + 1 ≤ l.length by omega)
  rw [gapsA_succ] at h4
  have h5 := gap_nn (f := f) (l := l) (j := j) (by omega) (by omega) hk
  have h2 := atA_bd (j := j) h hl hf (show k ≤ l.length by omega)
  have hx := h _ (List.getElem_mem hk)
  have hb0 := hx.b0
  have hb1 := hx.b1
  refine ⟨h2.1, h2.2, h5.1, by omega, h5.2, by omega, ?_, ?_⟩ <;> (unfold posA; rw [getA Al.b 0 hk]; omega)
theorem placeA_at {inner : Int} {l : List Al} {j : Int} {rev : Bool} {P : List Int} (hP : placeA inner l j rev = P) {k : Nat} (h : k < l.length) (h' : k < P.length) : P[k] = if rev then inner - posA (freeA inner l) l j k - l[k].s else posA (freeA inner l) l j k := by
  subst hP; exact placeA_get inner l j rev h

/-! ### Gaps -/
theorem posA_zero {f : Int} {l : List Al} {j : Int} (h : 0 < l.length) : posA f l j 0 = startA f l j + gap1 f l j 0 + l[0].b := by unfold posA; rw [atA_zero, getA Al.b 0 h]
theorem posA_succ {f : Int} {l : List Al} {j : Int} {k : Nat} (h : k + 1 < l.length) : posA f l j (k + 1) = posA f l j k + l[k].s + l[k].a + gap2 f l j k + gap1 f l j (k + 1) + l[k + 1].b := by
  unfold posA
  rw [atA_succ f l j (by omega), getA Al.b 0 h]
  unfold posA; omega
def NoAuto (l : List Al) : Prop := autosA l = 0
theorem noAuto_is {f : Int} {l : List Al} (h : autosA l = 0) : isAuto f l = false := by unfold isAuto; rw [h]; simp
theorem auto_gap {f : Int} {l : List Al} {j : Int} (hf : 0 < f) (ha : 0 < autosA l) {k : Nat} (hk : k < l.length) : (l[k].ab = false → gap1 f l j k = 0) ∧ (l[k].aa = false → gap2 f l j k = 0) := by
  have : isAuto f l = true := by unfold isAuto; simp [hf, ha]
  unfold gap1 gap2
  rw [if_pos this, if_pos this, getA Al.ab false hk, getA Al.aa false hk]
  exact ⟨fun h => by rw [h]; rfl, fun h => by rw [h]; rfl⟩
theorem auto_first {f : Int} {l : List Al} {j : Int} (hf : 0 < f) (h1 : f ≤ 1152921504606846976) (hl : l.length ≤ 500) (ha : 0 < autosA l) (hk : 0 < l.length) (hb : l[0].ab = true) : startA f l j = 0 ∧ f / (autosA l : Int) ≤ gap1 f l j 0 ∧ gap1 f l j 0 ≤ f / (autosA l : Int) + 1 := by
  have hi : isAuto f l = true := by unfold isAuto; simp [hf, ha]
  have := autosA_le l
  unfold startA gap1
  rw [if_pos hi, if_pos hi, getA Al.ab false hk, hb]
  simp only [if_true]
  exact ⟨trivial, partA_bd (by omega) h1 (by omega) (by simpa [autosA] using ha)⟩
theorem auto_start {f : Int} {l : List Al} {j : Int} (hf : 0 < f) (ha : 0 < autosA l) : startA f l j = 0 := by
  have hi : isAuto f l = true := by unfold isAuto; simp [hf, ha]
  unfold startA; rw [if_pos hi]
/-- Between two that follow each other, where no margin is automatic. -/
theorem way_gap {f : Int} {l : List Al} {j : Int} (hf : 0 < f) (h1 : f ≤ 1152921504606846976) (hl : l.length ≤ 500) (ha : autosA l = 0) {k : Nat} (hk : k + 1 < l.length) :
    (j < 3 → gap2 f l j k + gap1 f l j (k + 1) = 0) ∧
    (j = 3 → f / ((l.length : Int) - 1) ≤ gap2 f l j k + gap1 f l j (k + 1) ∧ gap2 f l j k + gap1 f l j (k + 1) ≤ f / ((l.length : Int) - 1) + 1) ∧
    (j = 4 → 2 * (f / (2 * (l.length : Int))) ≤ gap2 f l j k + gap1 f l j (k + 1) ∧ gap2 f l j k + gap1 f l j (k + 1) ≤ 2 * (f / (2 * (l.length : Int))) + 2) := by
  have hi := noAuto_is (f := f) ha
  refine ⟨fun hj => ?_, fun hj => ?_, fun hj => ?_⟩
  · have a := gaps_none (j := j) hi (by omega) (by omega) k
    have b := gaps_none (j := j) hi (by omega) (by omega) (k + 1)
    omega
  · have e1 : gap1 f l j (k + 1) = 0 := by unfold gap1; rw [hi]; simp only [Bool.false_eq_true, if_false]; rw [if_neg (by omega)]
    have e2 : gap2 f l j k = partA f (l.length - 1) k := by unfold gap2; rw [hi]; simp only [Bool.false_eq_true, if_false]; rw [if_pos ⟨hj, hf, by omega⟩, if_pos hk]
    have := partA_bd (f := f) (m := l.length - 1) (k := k) (by omega) h1 (by omega) (by omega)
    rw [show ((l.length - 1 : Nat) : Int) = (l.length : Int) - 1 by omega] at this
    rw [e1, e2]; omega
  · have e1 : gap1 f l j (k + 1) = partA f (2 * l.length) (2 * (k + 1)) := by unfold gap1; rw [hi]; simp only [Bool.false_eq_true, if_false]; rw [if_pos ⟨hj, hf⟩]
    have e2 : gap2 f l j k = partA f (2 * l.length) (2 * k + 1) := by unfold gap2; rw [hi]; simp only [Bool.false_eq_true, if_false]; rw [if_neg (by omega), if_pos ⟨hj, hf⟩]
    have a := partA_bd (f := f) (m := 2 * l.length) (k := 2 * (k + 1)) (by omega) h1 (by omega) (by omega)
    have b := partA_bd (f := f) (m := 2 * l.length) (k := 2 * k + 1) (by omega) h1 (by omega) (by omega)
    rw [show ((2 * l.length : Nat) : Int) = 2 * (l.length : Int) by omega] at a b
    rw [e1, e2]; omega
/-- What is ahead of the first and behind the last, where no margin is automatic. -/
theorem way_ends {f : Int} {l : List Al} {j : Int} (hf : 0 < f) (h1 : f ≤ 1152921504606846976) (hl : l.length ≤ 500) (ha : autosA l = 0) {n : Nat} (hn : l.length = n + 1) :
    ((j = 0 ∨ j = 3) → startA f l j + gap1 f l j 0 = 0) ∧ (j = 1 → atA f l j (n + 1) - gap2 f l j n = f + needA l) ∧ (j = 2 → startA f l j + gap1 f l j 0 = f / 2 ∧ atA f l j (n + 1) - gap2 f l j n = f / 2 + needA l) ∧ (j = 3 → 1 < l.length → atA f l j (n + 1) - gap2 f l j n = f + needA l) := by
  have hi := noAuto_is (f := f) ha
  have ht : l.take (n + 1) = l := List.take_of_length_le (by omega)
  refine ⟨fun hj => ?_, fun hj => ?_, fun hj => ?_, fun hj h2 => ?_⟩
  · have e1 : gap1 f l j 0 = 0 := by unfold gap1; rw [hi]; simp only [Bool.false_eq_true, if_false]; rw [if_neg (by omega)]
    unfold startA; rw [hi, e1]; simp only [Bool.false_eq_true, if_false]; rw [if_neg (by omega), if_neg (by omega)]; rfl
  · have a := gaps_none (j := j) hi (by omega) (by omega) n
    have b := gaps_nil (j := j) hi (by omega) (by omega) (n + 1)
    unfold atA startA; rw [hi, a.2, b, ht]; simp only [Bool.false_eq_true, if_false]; rw [if_pos hj]; omega
  · have a := gaps_none (j := j) hi (by omega) (by omega) n
    have a0 := gaps_none (j := j) hi (by omega) (by omega) 0
    have b := gaps_nil (j := j) hi (by omega) (by omega) (n + 1)
    unfold atA startA; rw [hi, a.2, a0.1, b, ht]; simp only [Bool.false_eq_true, if_false]; rw [if_neg (by omega), if_pos hj]; omega
  · have b := gaps_betw hf h1 hl hi hj h2 (n + 1) (by omega)
    rw [show min (n + 1) (l.length - 1) = l.length - 1 by omega, ratZ_eq f _ _ (by omega) h1 (by omega) (by omega) (by omega) (Int.le_refl _), Int.mul_ediv_cancel _ (by omega)] at b
    have e2 : gap2 f l j n = 0 := by unfold gap2; rw [hi]; simp only [Bool.false_eq_true, if_false]; rw [if_pos ⟨hj, hf, h2⟩, if_neg (by omega)]
    unfold atA startA; rw [hi, e2, b, ht]; simp only [Bool.false_eq_true, if_false]; rw [if_neg (by omega), if_neg (by omega)]; omega
end Go.Proofs.Yteaenomfighaoaa
