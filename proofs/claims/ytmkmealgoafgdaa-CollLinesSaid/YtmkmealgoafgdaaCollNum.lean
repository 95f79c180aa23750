import Derived.KernelRfl
/- Lines of items, as numbers. No program is named here. -/
namespace Go.Proofs.Ytmkmealgoafgdaa
set_option linter.unusedVariables false
set_option linter.unusedSimpArgs false

/-- The lines from an open one on: it began at fr, its items come to n, and i is next. -/
def colL (inner : Int) (wrap : Bool) : List Int → Nat → Int → Nat → List (Nat × Nat)
  | [], i, _, fr => [(fr, i)]
  | x :: r, i, n, fr => if wrap = true ∧ inner < n + x then (fr, i) :: colL inner wrap r (i + 1) x i else colL inner wrap r (i + 1) (n + x) fr
/-- The lines of items that stand from i on. -/
def linesZ (inner : Int) (wrap : Bool) : List Int → Nat → List (Nat × Nat)
  | [], _ => []
  | x :: r, i => colL inner wrap r (i + 1) x i
/-- How many more an open line takes. -/
def takeC (inner : Int) : List Int → Int → Nat
  | [], _ => 0
  | x :: r, n => if inner < n + x then 0 else takeC inner r (n + x) + 1
theorem colL_take (inner : Int) : ∀ (r : List Int) (i : Nat) (n : Int) (fr : Nat), colL inner true r i n fr = (fr, i + takeC inner r n) :: linesZ inner true (r.drop (takeC inner r n)) (i + takeC inner r n)
  | [], i, n, fr => rfl
  | x :: r, i, n, fr => by
    unfold colL takeC
    by_cases h : inner < n + x
    · rw [if_pos ⟨rfl, h⟩, if_pos h]; rfl
    · rw [if_neg (by simp [h]), if_neg h, colL_take inner r (i + 1) (n + x) fr, List.drop_succ_cons]
      rw [show i + (takeC inner r (n + x) + 1) = i + 1 + takeC inner r (n + x) by omega]
theorem takeC_le (inner : Int) : ∀ (r : List Int) (n : Int), takeC inner r n ≤ r.length
  | [], _ => Nat.le_refl _
  | x :: r, n => by
    unfold takeC
    split
    · exact Nat.zero_le _
    · have := takeC_le inner r (n + x); simp; omega
theorem colL_all (inner : Int) : ∀ (r : List Int) (i : Nat) (n : Int) (fr : Nat), colL inner false r i n fr = [(fr, i + r.length)]
  | [], i, n, fr => rfl
  | x :: r, i, n, fr => by
    unfold colL
    rw [if_neg (by simp), colL_all inner r]
    simp; omega
/-- How many stand on the first line of some. -/
def firstC (inner : Int) (wrap : Bool) (l : List Int) : Nat := if wrap = true then takeC inner l.tail (l.headD 0) + 1 else l.length
theorem linesZ_step (inner : Int) (wrap : Bool) (l : List Int) (i : Nat) (h : 0 < l.length) : linesZ inner wrap l i = (i, i + firstC inner wrap l) :: linesZ inner wrap (l.drop (firstC inner wrap l)) (i + firstC inner wrap l) := by
  cases l with
  | nil => simp at h
  | cons x r =>
    unfold firstC
    cases wrap with
    | true =>
      show colL inner true r (i + 1) x i = _
      rw [colL_take, if_pos rfl, List.drop_succ_cons]
      simp only [List.tail_cons, List.headD_cons]
      rw [show i + 1 + takeC inner r x = i + (takeC inner r x + 1) by omega]
    | false =>
      show colL inner false r (i + 1) x i = _
      rw [colL_all, if_neg (by simp)]
      simp only [List.length_cons, List.drop_succ_cons, List.drop_length]
      show _ = [_]
      rw [show i + 1 + r.length = i + (r.length + 1) by omega]
theorem firstC_bd (inner : Int) (wrap : Bool) (l : List Int) (h : 0 < l.length) : 0 < firstC inner wrap l ∧ firstC inner wrap l ≤ l.length := by
  cases l with
  | nil => simp at h
  | cons x r =>
    unfold firstC
    have := takeC_le inner r x
    cases wrap <;> simp <;> omega

/-- What holds of lines: one behind the other, none empty; in a line of two and more there is room for all, and with the next one there was none. -/
inductive Chain (inner : Int) (l : List Int) : Nat → List (Nat × Nat) → Prop
  | nil : Chain inner l l.length []
  | cons {a b : Nat} {xs : List (Nat × Nat)} (hab : a < b) (hb : b ≤ l.length) (h1 : ((l.drop a).take (b - a)).sum > inner → b - a ≤ 1) (h2 : ∀ h : b < l.length, inner < ((l.drop a).take (b - a)).sum + l[b]) (r : Chain inner l b xs) : Chain inner l a ((a, b) :: xs)
theorem sum_snoc {l : List Int} {a i : Nat} (h : i < l.length) (ha : a ≤ i) : ((l.drop a).take (i + 1 - a)).sum = ((l.drop a).take (i - a)).sum + l[i] := by
  rw [show i + 1 - a = (i - a) + 1 by omega]
  have h1 : i - a < (l.drop a).length := by rw [List.length_drop]; omega
  rw [List.take_succ_eq_append_getElem h1, List.sum_append, List.sum_singleton, List.getElem_drop]
  congr 2
  omega
theorem colL_chain (inner : Int) (l : List Int) : ∀ (k i fr : Nat), i + k = l.length → fr < i → (((l.drop fr).take (i - fr)).sum > inner → i - fr ≤ 1) →
    Chain inner l fr (colL inner true (l.drop i) i ((l.drop fr).take (i - fr)).sum fr)
  | 0, i, fr, hk, hf, h => by
    rw [List.drop_of_length_le (by omega)]
    exact .cons hf (by omega) h (fun h => absurd h (by omega)) (by rw [show i = l.length by omega]; exact .nil)
  | k + 1, i, fr, hk, hf, h => by
    have hi : i < l.length := by omega
    rw [List.drop_eq_getElem_cons hi]
    unfold colL
    have hs := sum_snoc hi (show fr ≤ i by omega)
    by_cases hb : inner < ((l.drop fr).take (i - fr)).sum + l[i]
    · rw [if_pos ⟨rfl, hb⟩]
      refine .cons hf (by omega) h (fun _ => hb) ?_
      have e := sum_snoc hi (Nat.le_refl i)
      rw [Nat.sub_self, List.take_zero, List.sum_nil, Int.zero_add] at e
      have := colL_chain inner l k (i + 1) i (by omega) (by omega) (fun _ => by omega)
      rwa [e] at this
    · rw [if_neg (by simp [hb])]
      have := colL_chain inner l k (i + 1) fr (by omega) (by omega) (fun h' => by rw [hs] at h'; omega)
      rwa [hs] at this
theorem linesZ_chain (inner : Int) (l : List Int) : Chain inner l 0 (linesZ inner true l 0) := by
  cases l with
  | nil => exact .nil
  | cons x r =>
    have := colL_chain inner (x :: r) r.length 1 0 (by simp; omega) (by omega) (fun _ => by omega)
    show Chain inner (x :: r) 0 (colL inner true r 1 x 0)
    simpa using this

/-- In more room there are no more lines. -/
theorem colL_fewer {a b : Int} (hab : a ≤ b) : ∀ (r : List Int) (hr : ∀ x ∈ r, 0 ≤ x) (i : Nat) (m n : Int) (fr gr : Nat), 0 ≤ n →
    (m ≤ n → (colL b true r i m fr).length ≤ (colL a true r i n gr).length) ∧ (colL b true r i m fr).length ≤ (colL a true r i n gr).length + 1
  | [], hr, i, m, n, fr, gr, hn => ⟨fun _ => Nat.le_refl _, by simp [colL]⟩
  | x :: r, hr, i, m, n, fr, gr, hn => by
    have hx : 0 ≤ x := hr x (by simp)
    have hr' : ∀ x ∈ r, 0 ≤ x := fun y hy => hr y (by simp [hy])
    unfold colL
    by_cases h1 : a < n + x
    · have I1 := colL_fewer hab r hr' (i + 1) x x i i hx
      have I2 := colL_fewer hab r hr' (i + 1) (m + x) x fr i hx
      by_cases h2 : b < m + x
      · rw [if_pos (show true = true ∧ b < m + x from ⟨rfl, h2⟩), if_pos (show true = true ∧ a < n + x from ⟨rfl, h1⟩)]
        simp only [List.length_cons]
        have := I1.1 (Int.le_refl _)
        exact ⟨fun _ => by omega, by omega⟩
      · rw [if_neg (show ¬ (true = true ∧ b < m + x) from fun h => h2 h.2), if_pos (show true = true ∧ a < n + x from ⟨rfl, h1⟩)]
        simp only [List.length_cons]
        have := I2.2
        exact ⟨fun _ => by omega, by omega⟩
    · have I1 := colL_fewer hab r hr' (i + 1) x (n + x) i gr (by omega)
      have I2 := colL_fewer hab r hr' (i + 1) (m + x) (n + x) fr gr (by omega)
      by_cases h2 : b < m + x
      · rw [if_pos (show true = true ∧ b < m + x from ⟨rfl, h2⟩), if_neg (show ¬ (true = true ∧ a < n + x) from fun h => h1 h.2)]
        simp only [List.length_cons]
        have := I1.1 (by omega)
        exact ⟨fun h => by omega, by omega⟩
      · rw [if_neg (show ¬ (true = true ∧ b < m + x) from fun h => h2 h.2), if_neg (show ¬ (true = true ∧ a < n + x) from fun h => h1 h.2)]
        exact ⟨fun h => I2.1 (by omega), I2.2⟩
theorem linesZ_fewer {a b : Int} (hab : a ≤ b) (l : List Int) (hl : ∀ x ∈ l, 0 ≤ x) : (linesZ b true l 0).length ≤ (linesZ a true l 0).length := by
  cases l with
  | nil => exact Nat.le_refl _
  | cons x r => exact (colL_fewer hab r (fun y hy => hl y (by simp [hy])) 1 x x 0 0 (hl x (by simp))).1 (Int.le_refl _)
theorem colL_pos (inner : Int) (wrap : Bool) : ∀ (r : List Int) (i : Nat) (n : Int) (fr : Nat), 0 < (colL inner wrap r i n fr).length
  | [], i, n, fr => by simp [colL]
  | x :: r, i, n, fr => by unfold colL; split; (· simp); exact colL_pos inner wrap r _ _ _
theorem linesZ_pos (inner : Int) (wrap : Bool) (l : List Int) (h : 0 < l.length) : 0 < (linesZ inner wrap l 0).length := by
  cases l with
  | nil => simp at h
  | cons x r => exact colL_pos inner wrap r _ _ _
theorem colL_len (inner : Int) (wrap : Bool) : ∀ (r : List Int) (i : Nat) (n : Int) (fr : Nat), (colL inner wrap r i n fr).length ≤ r.length + 1
  | [], i, n, fr => by simp [colL]
  | x :: r, i, n, fr => by
    unfold colL
    have h1 := colL_len inner wrap r (i + 1) x i
    have h2 := colL_len inner wrap r (i + 1) (n + x) fr
    split <;> simp <;> omega
theorem linesZ_len (inner : Int) (wrap : Bool) (l : List Int) (i : Nat) : (linesZ inner wrap l i).length ≤ l.length := by
  cases l with
  | nil => exact Nat.le_refl _
  | cons x r => exact colL_len inner wrap r _ _ _

/-- Items of one size. -/
theorem colL_alike (inner w : Int) (hw : 1 ≤ w) (hi : 0 ≤ inner) (per N : Nat) (hper : (per : Int) = max (inner / w) 1) : ∀ (m i q : Nat), i + m = N → q * per < i → i ≤ q * per + per →
    colL inner true (List.replicate m w) i (((i : Int) - (q * per : Nat)) * w) (q * per) = (List.range' q ((N + per - 1) / per - q)).map (fun k => (k * per, min (k * per + per) N))
  | 0, i, q, hm, h1, h2 => by
    have hp : 0 < per := by omega
    have e : (N + per - 1) / per = q + 1 := by
      rw [Nat.div_eq_iff hp]
      rw [Nat.add_mul, Nat.one_mul]
      omega
    rw [e, show q + 1 - q = 1 by omega]
    simp [colL]
    omega
  | m + 1, i, q, hm, h1, h2 => by
    have hp : 0 < per := by omega
    have hinner : inner < ((inner / w) + 1) * w := by
      have := Int.lt_ediv_add_one_mul_self inner (show 0 < w by omega); exact this
    have hdiv : (inner / w) * w ≤ inner := Int.ediv_mul_le inner (by omega)
    rw [List.replicate_succ]
    unfold colL
    have e0 : ((i : Int) - (q * per : Nat)) * w + w = ((i : Int) - (q * per : Nat) + 1) * w := by rw [Int.add_mul, Int.one_mul]
    rw [e0]
    by_cases hb : i = q * per + per
    · have hbr : inner < ((i : Int) - (q * per : Nat) + 1) * w := by
        have : (inner / w + 1) * w ≤ ((i : Int) - (q * per : Nat) + 1) * w := Int.mul_le_mul_of_nonneg_right (by omega) (by omega)
        omega
      rw [if_pos ⟨rfl, hbr⟩]
      have e1 : (q + 1) * per = i := by rw [Nat.succ_mul]; omega
      have hlt : i < N := by omega
      have hC : q < (N + per - 1) / per := by
        rw [Nat.lt_div_iff_mul_lt hp]
        omega
      have I := colL_alike inner w hw hi per N hper m (i + 1) (q + 1) (by omega) (by omega) (by omega)
      rw [e1] at I
      rw [show (((i + 1 : Nat) : Int) - (i : Nat)) * w = w by rw [show (((i + 1 : Nat) : Int) - (i : Nat)) = 1 by omega, Int.one_mul]] at I
      rw [I, show (N + per - 1) / per - q = ((N + per - 1) / per - (q + 1)) + 1 by omega, List.range'_succ, List.map_cons]
      rw [show min (q * per + per) N = i by omega]
    · have hbr : ¬ inner < ((i : Int) - (q * per : Nat) + 1) * w := by
        have : ((i : Int) - (q * per : Nat) + 1) * w ≤ (inner / w) * w := Int.mul_le_mul_of_nonneg_right (by omega) (by omega)
        omega
      rw [if_neg (fun h => hbr h.2)]
      have I := colL_alike inner w hw hi per N hper m (i + 1) q (by omega) (by omega) (by omega)
      rw [show ((i : Int) - (q * per : Nat) + 1) = ((i + 1 : Nat) : Int) - (q * per : Nat) by omega]
      exact I
theorem linesZ_alike (inner w : Int) (hw : 1 ≤ w) (hi : 0 ≤ inner) (per N : Nat) (hper : (per : Int) = max (inner / w) 1) :
    linesZ inner true (List.replicate N w) 0 = (List.range ((N + per - 1) / per)).map (fun k => (k * per, min (k * per + per) N)) := by
  cases N with
  | zero =>
    have : (0 + per - 1) / per = 0 := Nat.div_eq_of_lt (by omega)
    rw [this]; rfl
  | succ N =>
    have I := colL_alike inner w hw hi per (N + 1) hper N 1 0 (by omega) (by omega) (by omega)
    rw [List.replicate_succ]
    show colL inner true (List.replicate N w) (0 + 1) w 0 = _
    simp only [Nat.zero_mul, Nat.sub_zero] at I
    rw [List.range_eq_range', ← I]
    congr 1
    simp
end Go.Proofs.Ytmkmealgoafgdaa
