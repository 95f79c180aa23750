import Derived.Test.YtmlnpphblicghaaGlyphNum
/- Where lines end, by numbers. No program is named here. -/
namespace Go.Proofs.Ytmlnpphblicghaa
open Go Go.RowKit
set_option linter.unusedVariables false
set_option linter.unusedSimpArgs false

structure Sp where
  sf : Int
  st : Int
  sw : Int
  deriving DecidableEq
def sumA (l : List Gl) : Int := (l.map (·.adv)).sum
theorem sumA_nil : sumA [] = 0 := rfl
theorem sumA_cons (x : Gl) (l : List Gl) : sumA (x :: l) = x.adv + sumA l := by simp [sumA]
theorem sumA_append (a b : List Gl) : sumA (a ++ b) = sumA a + sumA b := by simp [sumA, List.sum_append]
def pickE (a : Int) (b : Option (Nat × Int)) (k : Nat) (w : Int) : Nat × Int := match b with | none => (k, w) | some p => if w ≤ a then (k, w) else p
/-- Where a line ends, and how wide it is: the last place with which it is not too wide, else the first. -/
def endL (a : Int) : List Gl → Nat → Int → Option (Nat × Int) → Nat × Int
  | [], k, w, b => pickE a b k w
  | x :: l, k, w, b => if x.kind = 4 then pickE a b k w else endL a l (k + 1) (w + x.adv) (if x.kind = 2 then some (pickE a b k w) else b)
def linesF (a : Int) (g : List Gl) : Nat → Nat → List Sp
  | 0, _ => []
  | f + 1, i => if i < g.length then ⟨i, (endL a (g.drop i) i 0 none).1, (endL a (g.drop i) i 0 none).2⟩ :: linesF a g f ((endL a (g.drop i) i 0 none).1 + 1) else []
def linesL (a : Int) (g : List Gl) : List Sp := linesF a g g.length 0
/-- Kinds; behind the end there is a break. -/
def kd (l : List Gl) (j : Nat) : Int := (l[j]?.map (·.kind)).getD 4
theorem kd_zero (x : Gl) (l : List Gl) : kd (x :: l) 0 = x.kind := rfl
theorem kd_succ (x : Gl) (l : List Gl) (j : Nat) : kd (x :: l) (j + 1) = kd l j := by simp [kd]
theorem kd_nil (j : Nat) : kd [] j = 4 := by simp [kd]
theorem kd_at (l : List Gl) (j : Nat) (h : j < l.length) : kd l j = l[j].kind := by simp [kd, h]
theorem kd_out (l : List Gl) (j : Nat) (h : l.length ≤ j) : kd l j = 4 := by simp [kd, List.getElem?_eq_none h]
theorem kd_drop (l : List Gl) (i j : Nat) : kd (l.drop i) j = kd l (i + j) := by simp [kd]
/-- A line may end at place j. -/
def Cand (l : List Gl) (j : Nat) : Prop := (∀ i, i < j → kd l i ≠ 4) ∧ (kd l j = 2 ∨ kd l j = 4)
theorem Cand.le {l : List Gl} {j : Nat} (h : Cand l j) : j ≤ l.length := by
  rcases Nat.lt_or_ge l.length j with hj | hj
  · exact absurd (kd_out l l.length (Nat.le_refl _)) (h.1 _ hj)
  · exact hj
theorem cand_nil {j : Nat} (h : Cand [] j) : j = 0 := by have := h.le; simpa using this
theorem cand_break {x : Gl} {l : List Gl} {j : Nat} (hx : x.kind = 4) (h : Cand (x :: l) j) : j = 0 := by
  rcases Nat.eq_zero_or_pos j with h0 | h0
  · exact h0
  · exact absurd hx (h.1 0 h0)
theorem cand_succ {x : Gl} {l : List Gl} {j : Nat} (hx : x.kind ≠ 4) : Cand (x :: l) (j + 1) ↔ Cand l j := by
  constructor
  · rintro ⟨h1, h2⟩
    exact ⟨fun i hi => by have := h1 (i + 1) (by omega); rwa [kd_succ] at this, by rwa [kd_succ] at h2⟩
  · rintro ⟨h1, h2⟩
    refine ⟨fun i hi => ?_, by rwa [kd_succ]⟩
    cases i with
    | zero => exact hx
    | succ i => rw [kd_succ]; exact h1 i (by omega)
theorem cand_zero {x : Gl} {l : List Gl} (h : Cand (x :: l) 0) : x.kind = 2 ∨ x.kind = 4 := h.2
/-- What is picked. -/
theorem endL_spec (a : Int) : ∀ (l : List Gl) (k : Nat) (w : Int) (b : Option (Nat × Int)) (t : Nat) (v : Int), endL a l k w b = (t, v) →
    (∃ j, Cand l j ∧ t = k + j ∧ v = w + sumA (l.take j) ∧ (v ≤ a ∨ (b = none ∧ ∀ i, i < j → kd l i ≠ 2)) ∧ ∀ j', Cand l j' → j < j' → a < w + sumA (l.take j')) ∨
    (b = some (t, v) ∧ ∀ j', Cand l j' → a < w + sumA (l.take j'))
  | [], k, w, b, t, v, h => by
    cases b with
    | none =>
      simp only [endL, pickE, Prod.mk.injEq] at h
      exact .inl ⟨0, ⟨fun i hi => by omega, .inr (kd_nil 0)⟩, by omega, by simp [sumA]; omega, .inr ⟨rfl, fun i hi => by omega⟩, fun j' hc hj => by have := cand_nil hc; omega⟩
    | some p =>
      simp only [endL, pickE] at h
      split at h
      · rename_i hle
        simp only [Prod.mk.injEq] at h
        exact .inl ⟨0, ⟨fun i hi => by omega, .inr (kd_nil 0)⟩, by omega, by simp [sumA]; omega, .inl (by omega), fun j' hc hj => by have := cand_nil hc; omega⟩
      · exact .inr ⟨by rw [h], fun j' hc => by rw [cand_nil hc]; simp [sumA]; omega⟩
  | x :: l, k, w, b, t, v, h => by
    have first : ∀ (hx : x.kind = 2 ∨ x.kind = 4), Cand (x :: l) 0 := fun hx => ⟨fun i hi => by omega, hx⟩
    by_cases h4 : x.kind = 4
    · simp only [endL, if_pos h4] at h
      cases b with
      | none =>
        simp only [pickE, Prod.mk.injEq] at h
        exact .inl ⟨0, first (.inr h4), by omega, by simp [sumA]; omega, .inr ⟨rfl, fun i hi => by omega⟩, fun j' hc hj => by have := cand_break h4 hc; omega⟩
      | some p =>
        simp only [pickE] at h
        split at h
        · rename_i hle
          simp only [Prod.mk.injEq] at h
          exact .inl ⟨0, first (.inr h4), by omega, by simp [sumA]; omega, .inl (by omega), fun j' hc hj => by have := cand_break h4 hc; omega⟩
        · exact .inr ⟨by rw [h], fun j' hc => by rw [cand_break h4 hc]; simp [sumA]; omega⟩
    · simp only [endL, if_neg h4] at h
      have all : ∀ (R : Nat → Prop), (∀ j', Cand l j' → R (j' + 1)) → (Cand (x :: l) 0 → R 0) → ∀ j', Cand (x :: l) j' → R j' := fun R h1 h0 j' hc => by
        cases j' with
        | zero => exact h0 hc
        | succ j' => exact h1 j' ((cand_succ h4).1 hc)
      rcases endL_spec a l (k + 1) (w + x.adv) _ t v h with ⟨j, hc, ht, hv, hp, hl⟩ | ⟨hb, hl⟩
      · refine .inl ⟨j + 1, (cand_succ h4).2 hc, by omega, by rw [List.take_succ_cons, sumA_cons]; omega, ?_, fun j' hc' hj' => ?_⟩
        · rcases hp with hp | ⟨hp, hs⟩
          · exact .inl hp
          · by_cases h2 : x.kind = 2
            · rw [if_pos h2] at hp; cases hp
            · rw [if_neg h2] at hp
              refine .inr ⟨hp, fun i hi => ?_⟩
              cases i with
              | zero => exact h2
              | succ i => rw [kd_succ]; exact hs i (by omega)
        · obtain ⟨q, rfl⟩ : ∃ q, j' = q + 1 := ⟨j' - 1, by omega⟩
          have := hl q ((cand_succ h4).1 hc') (by omega)
          rw [List.take_succ_cons, sumA_cons]; omega
      · by_cases h2 : x.kind = 2
        · rw [if_pos h2] at hb
          injection hb with hb
          cases b with
          | none =>
            simp only [pickE, Prod.mk.injEq] at hb
            refine .inl ⟨0, first (.inl h2), by omega, by simp [sumA]; omega, .inr ⟨rfl, fun i hi => by omega⟩, fun j' hc' hj' => ?_⟩
            obtain ⟨q, rfl⟩ : ∃ q, j' = q + 1 := ⟨j' - 1, by omega⟩
            have := hl q ((cand_succ h4).1 hc')
            rw [List.take_succ_cons, sumA_cons]; omega
          | some p =>
            simp only [pickE] at hb
            split at hb
            · rename_i hle
              simp only [Prod.mk.injEq] at hb
              refine .inl ⟨0, first (.inl h2), by omega, by simp [sumA]; omega, .inl (by omega), fun j' hc' hj' => ?_⟩
              obtain ⟨q, rfl⟩ : ∃ q, j' = q + 1 := ⟨j' - 1, by omega⟩
              have := hl q ((cand_succ h4).1 hc')
              rw [List.take_succ_cons, sumA_cons]; omega
            · refine .inr ⟨by rw [hb], all _ (fun q hq => ?_) (fun _ => by simp [sumA]; omega)⟩
              have := hl q hq
              rw [List.take_succ_cons, sumA_cons]; omega
        · rw [if_neg h2] at hb
          refine .inr ⟨hb, all _ (fun q hq => ?_) (fun h0 => ?_)⟩
          · have := hl q hq
            rw [List.take_succ_cons, sumA_cons]; omega
          · rcases cand_zero h0 with h0 | h0
            · exact absurd h0 h2
            · exact absurd h0 h4
/-- A line that begins at i: it ends at t, is v wide. -/
structure LineAt (a : Int) (g : List Gl) (i t : Nat) (v : Int) : Prop where
  le : i ≤ t
  cand : Cand (g.drop i) (t - i)
  wide : v = sumA ((g.drop i).take (t - i))
  fits : v ≤ a ∨ ∀ j, i ≤ j → j < t → kd g j ≠ 2
  full : ∀ t', t < t' → Cand (g.drop i) (t' - i) → a < sumA ((g.drop i).take (t' - i))
theorem lineAt (a : Int) (g : List Gl) (i : Nat) : LineAt a g i (endL a (g.drop i) i 0 none).1 (endL a (g.drop i) i 0 none).2 := by
  rcases endL_spec a (g.drop i) i 0 none _ _ rfl with ⟨j, hc, ht, hv, hp, hl⟩ | ⟨h, _⟩
  · generalize (endL a (g.drop i) i 0 none).1 = t at *
    generalize (endL a (g.drop i) i 0 none).2 = v at *
    subst ht
    rw [Int.zero_add] at hv
    refine ⟨by omega, by rwa [Nat.add_sub_cancel_left], by rwa [Nat.add_sub_cancel_left], ?_, fun t' ht' hc' => ?_⟩
    · rcases hp with hp | ⟨_, hs⟩
      · exact .inl hp
      · refine .inr fun q h1 h2 => ?_
        have := hs (q - i) (by omega)
        rwa [kd_drop, show i + (q - i) = q by omega] at this
    · have := hl (t' - i) hc' (by omega)
      omega
  · cases h
section
variable {a : Int} {g : List Gl} {i t : Nat} {v : Int}
theorem LineAt.noBreak (h : LineAt a g i t v) : ∀ j, i ≤ j → j < t → kd g j ≠ 4 := fun j h1 h2 => by
  have := h.cand.1 (j - i) (by omega)
  rwa [kd_drop, show i + (j - i) = j by omega] at this
theorem LineAt.ends (h : LineAt a g i t v) : kd g t = 2 ∨ kd g t = 4 := by
  have h1 := h.cand.2
  have h2 := h.le
  rwa [kd_drop, show i + (t - i) = t by omega] at h1
theorem LineAt.len (h : LineAt a g i t v) (hi : i < g.length) : t ≤ g.length := by
  have h1 := h.cand.le
  have h2 := h.le
  rw [List.length_drop] at h1
  omega
end
theorem cand_of {g : List Gl} {i t : Nat} (hit : i ≤ t) (h1 : ∀ j, i ≤ j → j < t → kd g j ≠ 4) (h2 : kd g t = 2 ∨ kd g t = 4) : Cand (g.drop i) (t - i) :=
  ⟨fun q hq => by rw [kd_drop]; exact h1 _ (by omega) (by omega), by rwa [kd_drop, show i + (t - i) = t by omega]⟩
theorem linesF_fuel (a : Int) (g : List Gl) : ∀ (f f' i : Nat), g.length - i ≤ f → g.length - i ≤ f' → linesF a g f i = linesF a g f' i
  | 0, 0, i, _, _ => rfl
  | 0, f' + 1, i, h, _ => by rw [linesF, linesF, if_neg (by omega)]
  | f + 1, 0, i, _, h => by rw [linesF, linesF, if_neg (by omega)]
  | f + 1, f' + 1, i, h, h' => by
    have hl := lineAt a g i
    rw [linesF, linesF]
    split
    · rw [linesF_fuel a g f f' _ (by have := hl.le; omega) (by have := hl.le; omega)]
    · rfl
/-- All lines from glyph i on. -/
def linesI (a : Int) (g : List Gl) (i : Nat) : List Sp := linesF a g (g.length - i) i
theorem linesI_zero (a : Int) (g : List Gl) : linesI a g 0 = linesL a g := rfl
theorem linesI_end (a : Int) (g : List Gl) (i : Nat) (h : g.length ≤ i) : linesI a g i = [] := by
  unfold linesI; rw [show g.length - i = 0 by omega]; rfl
theorem linesI_step (a : Int) (g : List Gl) (i : Nat) (h : i < g.length) : linesI a g i = ⟨i, (endL a (g.drop i) i 0 none).1, (endL a (g.drop i) i 0 none).2⟩ :: linesI a g ((endL a (g.drop i) i 0 none).1 + 1) := by
  have hl := lineAt a g i
  unfold linesI
  obtain ⟨f, hf⟩ : ∃ f, g.length - i = f + 1 := ⟨g.length - i - 1, by omega⟩
  rw [hf, linesF, if_pos h, linesF_fuel a g f (g.length - ((endL a (g.drop i) i 0 none).1 + 1)) _ (by have := hl.le; omega) (Nat.le_refl _)]
theorem linesI_length (a : Int) (g : List Gl) : ∀ (n i : Nat), g.length - i ≤ n → (linesI a g i).length ≤ g.length - i
  | 0, i, h => by rw [linesI_end a g i (by omega)]; simp
  | n + 1, i, h => by
    rcases Nat.lt_or_ge i g.length with hi | hi
    · have hl := (lineAt a g i).le
      rw [linesI_step a g i hi, List.length_cons]
      have := linesI_length a g n ((endL a (g.drop i) i 0 none).1 + 1) (by omega)
      omega
    · rw [linesI_end a g i hi]; simp
/- Least and Most: running sums. -/
def longL (sp : Bool) : List Gl → Int → Int → Int
  | [], most, _ => most
  | x :: l, most, now => if x.kind = 4 ∨ (sp = true ∧ x.kind = 2) then longL sp l (max most 0) 0 else longL sp l (max most (now + x.adv)) (now + x.adv)
def leastL (g : List Gl) : Int := longL true g 0 0
def mostL (g : List Gl) : Int := longL false g 0 0
end Go.Proofs.Ytmlnpphblicghaa
