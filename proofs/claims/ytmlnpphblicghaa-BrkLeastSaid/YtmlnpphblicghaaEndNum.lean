import Derived.Test.YtmlnpphblicghaaBrkNum
/- Where lines may end, with how far the glyphs lead there; the least of these from each on; which is the last that fits. No program is named here. -/
namespace Go.Proofs.Ytmlnpphblicghaa
open Go Go.RowKit
set_option linter.unusedVariables false
set_option linter.unusedSimpArgs false

structure En where
  at_ : Nat
  sum : Int
  least : Int
def endsS : List Gl → Nat → Int → List (Nat × Int)
  | [], k, s => [(k, s)]
  | x :: l, k, s => if x.kind = 4 then [(k, s)] else if x.kind = 2 then (k, s) :: endsS l (k + 1) (s + x.adv) else endsS l (k + 1) (s + x.adv)
def lowS : Nat × Int → List (Nat × Int) → Int
  | e, [] => e.2
  | e, f :: fs => min e.2 (lowS f fs)
def leasts : List (Nat × Int) → List En
  | [] => []
  | e :: es => ⟨e.1, e.2, lowS e es⟩ :: leasts es
theorem leasts_length : ∀ (es : List (Nat × Int)), (leasts es).length = es.length
  | [] => rfl
  | e :: es => by simp [leasts, leasts_length es]
theorem leasts_get : ∀ (es : List (Nat × Int)) (i : Nat) (h : i < es.length), ((leasts es)[i]'(by rw [leasts_length]; exact h)).at_ = es[i].1 ∧ ((leasts es)[i]'(by rw [leasts_length]; exact h)).sum = es[i].2
  | e :: es, 0, h => ⟨rfl, rfl⟩
  | e :: es, i + 1, h => leasts_get es i (by simpa using h)
theorem leasts_drop : ∀ (es : List (Nat × Int)) (j : Nat), (leasts es).drop j = leasts (es.drop j)
  | [], j => by simp [leasts]
  | e :: es, 0 => rfl
  | e :: es, j + 1 => by simp only [leasts, List.drop_succ_cons]; exact leasts_drop es j
theorem lowS_le : ∀ (e : Nat × Int) (es : List (Nat × Int)), ∀ x ∈ leasts (e :: es), lowS e es ≤ x.least
  | e, [], x, hx => by simp [leasts] at hx; rw [hx]; exact Int.le_refl _
  | e, f :: fs, x, hx => by
    rw [leasts, List.mem_cons] at hx
    rcases hx with rfl | hx
    · exact Int.le_refl _
    · have := lowS_le f fs x hx
      simp only [lowS]
      omega
theorem leasts_sorted : ∀ (es : List (Nat × Int)), (leasts es).Pairwise (fun x y => x.least ≤ y.least)
  | [] => List.Pairwise.nil
  | e :: es => by
    rw [leasts, List.pairwise_cons]
    refine ⟨fun x hx => ?_, leasts_sorted es⟩
    exact lowS_le e es x (by rw [leasts]; exact List.mem_cons_of_mem _ hx)
theorem leasts_mono (es : List (Nat × Int)) (i j : Nat) (hij : i ≤ j) (hj : j < (leasts es).length) : ((leasts es)[i]).least ≤ ((leasts es)[j]).least := by
  rcases Nat.eq_or_lt_of_le hij with rfl | h
  · exact Int.le_refl _
  · exact List.pairwise_iff_getElem.1 (leasts_sorted es) i j (by omega) hj h
/-- How many are not above a. -/
def fitN (a : Int) : List (Nat × Int) → Nat
  | [] => 0
  | e :: es => if lowS e es ≤ a then fitN a es + 1 else 0
theorem fitN_le (a : Int) : ∀ (es : List (Nat × Int)), fitN a es ≤ es.length
  | [] => Nat.le_refl _
  | e :: es => by have := fitN_le a es; simp only [fitN, List.length_cons]; split <;> omega
theorem fitN_in (a : Int) : ∀ (es : List (Nat × Int)) (i : Nat) (h : i < (leasts es).length), i < fitN a es → ((leasts es)[i]).least ≤ a
  | e :: es, 0, h, hi => by
    simp only [fitN] at hi
    split at hi
    · assumption
    · omega
  | e :: es, i + 1, h, hi => by
    simp only [fitN] at hi
    split at hi
    · exact fitN_in a es i (by simpa [leasts] using h) (by omega)
    · omega
theorem fitN_out (a : Int) : ∀ (es : List (Nat × Int)) (i : Nat) (h : i < (leasts es).length), fitN a es ≤ i → a < ((leasts es)[i]).least
  | e :: es, i, h, hi => by
    simp only [fitN] at hi
    split at hi
    · cases i with
      | zero => omega
      | succ i => exact fitN_out a es i (by simpa [leasts] using h) (by omega)
    · have := lowS_le e es _ (List.getElem_mem h)
      omega
theorem fitN_is (a : Int) (es : List (Nat × Int)) (r : Nat) (hr : r ≤ es.length) (h1 : ∀ t (h : t < (leasts es).length), t < r → ((leasts es)[t]).least ≤ a) (h2 : ∀ t (h : t < (leasts es).length), r ≤ t → a < ((leasts es)[t]).least) : r = fitN a es := by
  have hf := fitN_le a es
  have hl := leasts_length es
  rcases Nat.lt_trichotomy r (fitN a es) with h | h | h
  · have := h2 r (by omega) (Nat.le_refl _)
    have := fitN_in a es r (by omega) h
    omega
  · exact h
  · have := h1 (fitN a es) (by omega) h
    have := fitN_out a es (fitN a es) (by omega) (Nat.le_refl _)
    omega
theorem fitN_zero {a : Int} {e : Nat × Int} {es : List (Nat × Int)} (h : ¬ lowS e es ≤ a) : fitN a es = 0 := by
  cases es with
  | nil => rfl
  | cons f fs =>
    simp only [lowS] at h
    simp only [fitN]
    rw [if_neg (by omega)]
/-- One less than how many fit, not below 0. -/
theorem fitN_pred (a : Int) (e : Nat × Int) (es : List (Nat × Int)) : max ((fitN a (e :: es) : Int) - 1) 0 = fitN a es := by
  simp only [fitN]
  split
  · omega
  · rename_i h; rw [fitN_zero h]; omega
def pickL (a : Int) : List (Nat × Int) → Option (Nat × Int) → Nat × Int
  | [], b => b.getD (0, 0)
  | e :: es, b => pickL a es (some (pickE a b e.1 e.2))
theorem endL_pick (a : Int) : ∀ (l : List Gl) (k : Nat) (w : Int) (b : Option (Nat × Int)), endL a l k w b = pickL a (endsS l k w) b
  | [], k, w, b => rfl
  | x :: l, k, w, b => by
    simp only [endL, endsS]
    split
    · rfl
    · split
      · exact endL_pick a l _ _ _
      · exact endL_pick a l _ _ _
theorem pickL_is (a : Int) : ∀ (es : List (Nat × Int)) (e : Nat × Int), pickL a es (some e) = (e :: es).getD (fitN a es) (0, 0)
  | [], e => rfl
  | f :: fs, e => by
    have ih := pickL_is a fs (if f.2 ≤ a then f else e)
    have e1 : pickL a (f :: fs) (some e) = pickL a fs (some (if f.2 ≤ a then f else e)) := by
      simp only [pickL, pickE]
    rw [e1, ih]
    simp only [fitN]
    rcases Nat.eq_zero_or_pos (fitN a fs) with h0 | h0
    · rw [h0]
      by_cases hf : f.2 ≤ a
      · rw [if_pos hf, if_pos (by cases fs <;> simp only [lowS] <;> omega)]; rfl
      · have : ¬ lowS f fs ≤ a := by
          cases fs with
          | nil => exact hf
          | cons g gs =>
            simp only [fitN] at h0
            split at h0
            · omega
            · simp only [lowS]; omega
        rw [if_neg hf, if_neg this]; rfl
    · have : lowS f fs ≤ a := by
        by_cases h : lowS f fs ≤ a
        · exact h
        · have := fitN_zero h; omega
      rw [if_pos this]
      obtain ⟨m, hm⟩ : ∃ m, fitN a fs = m + 1 := ⟨fitN a fs - 1, by omega⟩
      rw [hm]
      simp only [List.getD_cons_succ]
theorem endsS_ne (l : List Gl) (k : Nat) (s : Int) : ∃ e es, endsS l k s = e :: es := by
  cases h : endsS l k s with
  | cons e es => exact ⟨e, es, rfl⟩
  | nil =>
    exfalso
    induction l generalizing k s with
    | nil => simp [endsS] at h
    | cons x l ih =>
      simp only [endsS] at h
      split at h
      · cases h
      · split at h
        · cases h
        · exact ih _ _ h
theorem endsS_shift (d : Int) : ∀ (l : List Gl) (k : Nat) (s : Int), endsS l k (s + d) = (endsS l k s).map (fun e => (e.1, e.2 + d))
  | [], k, s => rfl
  | x :: l, k, s => by
    have h := endsS_shift d l (k + 1) (s + x.adv)
    rw [show s + x.adv + d = s + d + x.adv by omega] at h
    simp only [endsS]
    split
    · rfl
    · split
      · rw [List.map_cons, h]
      · exact h
theorem lowS_shift (d : Int) : ∀ (e : Nat × Int) (es : List (Nat × Int)), lowS (e.1, e.2 + d) (es.map (fun e => (e.1, e.2 + d))) = lowS e es + d
  | e, [] => rfl
  | e, f :: fs => by
    have := lowS_shift d f fs
    simp only [List.map_cons, lowS, this]
    omega
theorem fitN_shift (a d : Int) : ∀ (es : List (Nat × Int)), fitN (a + d) (es.map (fun e => (e.1, e.2 + d))) = fitN a es
  | [] => rfl
  | e :: es => by
    simp only [List.map_cons, fitN, fitN_shift a d es, lowS_shift]
    by_cases h : lowS e es ≤ a
    · rw [if_pos h, if_pos (by omega)]
    · rw [if_neg h, if_neg (by omega)]
/-- The line that is picked where all sums are s more. -/
theorem line_pick (a s : Int) (l : List Gl) (k : Nat) (e : Nat × Int) (es : List (Nat × Int)) (h : endsS l k s = e :: es) :
    ∃ (hj : fitN (s + a) es < (e :: es).length), endL a l k 0 none = (((e :: es)[fitN (s + a) es]).1, ((e :: es)[fitN (s + a) es]).2 - s) := by
  have hj : fitN (s + a) es < (e :: es).length := by have := fitN_le (s + a) es; simp; omega
  refine ⟨hj, ?_⟩
  have h0 := endsS_shift s l k 0
  rw [Int.zero_add, h] at h0
  obtain ⟨e0, es0, he0⟩ := endsS_ne l k 0
  rw [he0, List.map_cons] at h0
  obtain ⟨h1, h2⟩ := List.cons.inj h0
  rw [endL_pick, he0]
  have e1 : pickL a (e0 :: es0) none = pickL a es0 (some e0) := rfl
  rw [e1, pickL_is]
  have hf : fitN (s + a) es = fitN a es0 := by rw [h2, Int.add_comm]; exact fitN_shift a s es0
  have hlen : es.length = es0.length := by rw [h2]; simp
  have hj0 : fitN a es0 < (e0 :: es0).length := by rw [← hf]; simp only [List.length_cons] at hj ⊢; omega
  have hm : (e :: es)[fitN (s + a) es]? = ((e0 :: es0)[fitN a es0]?).map (fun e => (e.1, e.2 + s)) := by
    rw [hf, h0, ← List.map_cons (f := fun e : Nat × Int => (e.1, e.2 + s)), List.getElem?_map]
  rw [List.getElem?_eq_getElem hj, List.getElem?_eq_getElem hj0, Option.map_some] at hm
  injection hm with hm
  rw [hm, List.getD_eq_getElem?_getD, List.getElem?_eq_getElem hj0]
  simp
def lastAt (es : List (Nat × Int)) : Nat := (es.getLastD (0, 0)).1
theorem lastAt_drop (es : List (Nat × Int)) (j : Nat) (h : j < es.length) : lastAt (es.drop j) = lastAt es := by
  unfold lastAt
  rw [List.getLastD_eq_getLast?, List.getLastD_eq_getLast?, List.getLast?_drop, if_neg (by omega)]
theorem lastAt_get (es : List (Nat × Int)) (j : Nat) (h : j + 1 = es.length) : lastAt es = (es[j]'(by omega)).1 := by
  unfold lastAt
  rw [List.getLastD_eq_getLast?, List.getLast?_eq_getElem?, show es.length - 1 = j by omega, List.getElem?_eq_getElem (by omega)]
  rfl
/-- What stands behind a place where a line may end. -/
theorem endsS_at : ∀ (l : List Gl) (k : Nat) (s : Int) (j : Nat) (h : j < (endsS l k s).length),
    ∃ q, ((endsS l k s)[j]).1 = k + q ∧ q ≤ l.length ∧ ((endsS l k s)[j]).2 = s + sumA (l.take q) ∧
      ((∃ h' : q < l.length, l[q].kind = 2 ∧ (endsS l k s).drop (j + 1) = endsS (l.drop (q + 1)) (k + q + 1) (s + sumA (l.take q) + l[q].adv)) ∨ j + 1 = (endsS l k s).length)
  | [], k, s, j, h => by
    have hj : j = 0 := by simp [endsS] at h; exact h
    subst hj
    exact ⟨0, rfl, Nat.le_refl _, by simp [endsS, sumA], .inr rfl⟩
  | x :: l, k, s, j, h => by
    by_cases h4 : x.kind = 4
    · have he : endsS (x :: l) k s = [(k, s)] := by simp only [endsS, if_pos h4]
      simp only [he] at h ⊢
      have hj : j = 0 := by simp at h; exact h
      subst hj
      exact ⟨0, rfl, Nat.zero_le _, by simp [sumA], .inr rfl⟩
    · have step : ∀ j (h : j < (endsS l (k + 1) (s + x.adv)).length), ∃ q, ((endsS l (k + 1) (s + x.adv))[j]).1 = k + (q + 1) ∧ q + 1 ≤ (x :: l).length ∧ ((endsS l (k + 1) (s + x.adv))[j]).2 = s + sumA ((x :: l).take (q + 1)) ∧
          ((∃ h' : q + 1 < (x :: l).length, (x :: l)[q + 1].kind = 2 ∧ (endsS l (k + 1) (s + x.adv)).drop (j + 1) = endsS ((x :: l).drop (q + 1 + 1)) (k + (q + 1) + 1) (s + sumA ((x :: l).take (q + 1)) + (x :: l)[q + 1].adv)) ∨ j + 1 = (endsS l (k + 1) (s + x.adv)).length) := fun j h => by
        obtain ⟨q, h1, h2, h3, h5⟩ := endsS_at l (k + 1) (s + x.adv) j h
        refine ⟨q, by rw [h1]; omega, by simp; omega, by rw [h3, List.take_succ_cons, sumA_cons]; omega, ?_⟩
        rcases h5 with ⟨h', h6, h7⟩ | h5
        · refine .inl ⟨by simp; omega, by simpa using h6, ?_⟩
          rw [h7, List.drop_succ_cons, List.take_succ_cons, sumA_cons, List.getElem_cons_succ]
          congr 1
          · omega
          · omega
        · exact .inr h5
      by_cases h2 : x.kind = 2
      · have he : endsS (x :: l) k s = (k, s) :: endsS l (k + 1) (s + x.adv) := by simp only [endsS, if_neg h4, if_pos h2]
        simp only [he] at h ⊢
        cases j with
        | zero => exact ⟨0, rfl, Nat.zero_le _, by simp [sumA], .inl ⟨by simp, h2, by simp [sumA]⟩⟩
        | succ j =>
          obtain ⟨q, h1, h3, h5, h6⟩ := step j (by simpa using h)
          refine ⟨q + 1, by simpa using h1, h3, by simpa using h5, ?_⟩
          rcases h6 with h6 | h6
          · exact .inl (by simpa using h6)
          · exact .inr (by simp; omega)
      · have he : endsS (x :: l) k s = endsS l (k + 1) (s + x.adv) := by simp only [endsS, if_neg h4, if_neg h2]
        simp only [he] at h ⊢
        obtain ⟨q, h⟩ := step j h
        exact ⟨q + 1, h⟩
end Go.Proofs.Ytmlnpphblicghaa
