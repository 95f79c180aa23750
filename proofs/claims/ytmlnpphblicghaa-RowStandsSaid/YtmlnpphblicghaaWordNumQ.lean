import Derived.Test.YtmlnpphblicghaaMonoNumQ
/- Words of one width, one blank between any two: where their lines end. No program is named here. -/
namespace Go.Proofs.Ytmlnpphblicghaa
open Go Go.RowKit
set_option linter.unusedVariables false
set_option linter.unusedSimpArgs false

def inkW (w : Int) : Gl := ⟨1, 0, 0, w⟩
def blankW (s : Int) : Gl := ⟨2, 0, 0, s⟩
def wordL (w s : Int) : Nat → List Gl
  | 0 => []
  | 1 => [inkW w]
  | n + 2 => inkW w :: blankW s :: wordL w s (n + 1)
section
variable (w s : Int)
theorem wordL_len : ∀ n, (wordL w s n).length = 2 * n - 1
  | 0 => rfl
  | 1 => rfl
  | n + 2 => by have := wordL_len (n + 1); simp only [wordL, List.length_cons]; omega
theorem wordL_snoc : ∀ n, wordL w s (n + 2) = wordL w s (n + 1) ++ [blankW s, inkW w]
  | 0 => rfl
  | n + 1 => by
    show inkW w :: blankW s :: wordL w s (n + 2) = (inkW w :: blankW s :: wordL w s (n + 1)) ++ [blankW s, inkW w]
    rw [wordL_snoc n]; rfl
theorem wordL_drop : ∀ n p, p ≤ n → (wordL w s n).drop (2 * p) = wordL w s (n - p)
  | 0, p, h => by simp [wordL]
  | 1, 0, h => rfl
  | 1, 1, h => rfl
  | 1, p + 2, h => by omega
  | n + 2, 0, h => rfl
  | n + 2, p + 1, h => by
    rw [show 2 * (p + 1) = 2 * p + 1 + 1 by omega, wordL, List.drop_succ_cons, List.drop_succ_cons, wordL_drop (n + 1) p (by omega), show n + 1 - p = n + 2 - (p + 1) by omega]
theorem wordL_kd : ∀ n j, kd (wordL w s n) j = if j + 1 < 2 * n then (if j % 2 = 0 then 1 else 2) else 4
  | 0, j => by rw [wordL, kd_nil, if_neg (by omega)]
  | 1, 0 => rfl
  | 1, j + 1 => by rw [wordL, kd_succ, kd_nil, if_neg (by omega)]
  | n + 2, 0 => by rw [wordL, kd_zero, if_pos (by omega), if_pos rfl]; rfl
  | n + 2, 1 => by rw [wordL, kd_succ, kd_zero, if_pos (by omega), if_neg (by decide)]; rfl
  | n + 2, j + 2 => by
    rw [wordL, kd_succ, kd_succ, wordL_kd (n + 1) j]
    by_cases h : j + 1 < 2 * (n + 1)
    · have h2 : j + 2 + 1 < 2 * (n + 2) := by omega
      rw [if_pos h, if_pos h2, show (j + 2) % 2 = j % 2 by omega]
    · have h2 : ¬ j + 2 + 1 < 2 * (n + 2) := by omega
      rw [if_neg h, if_neg h2]
theorem wordL_sum : ∀ n m, 1 ≤ m → m ≤ n → sumA ((wordL w s n).take (2 * m - 1)) = m * w + (m - 1) * s
  | 0, m, h1, h2 => by omega
  | 1, m, h1, h2 => by rw [show m = 1 by omega]; simp [wordL, sumA, inkW]
  | n + 2, 1, h1, h2 => by simp [wordL, sumA, inkW]
  | n + 2, m + 2, h1, h2 => by
    have h := wordL_sum (n + 1) (m + 1) (by omega) (by omega)
    rw [show 2 * (m + 2) - 1 = (2 * (m + 1) - 1) + 1 + 1 by omega, wordL, List.take_succ_cons, List.take_succ_cons, sumA_cons, sumA_cons, h]
    have e1 : ((m + 2 : Nat) : Int) * w = ((m + 1 : Nat) : Int) * w + w := by rw [show ((m + 2 : Nat) : Int) = ((m + 1 : Nat) : Int) + 1 by omega, Int.add_mul, Int.one_mul]
    have e2 : (((m + 2 : Nat) : Int) - 1) * s = (((m + 1 : Nat) : Int) - 1) * s + s := by rw [show ((m + 2 : Nat) : Int) - 1 = (((m + 1 : Nat) : Int) - 1) + 1 by omega, Int.add_mul, Int.one_mul]
    rw [e1, e2]
    simp only [inkW, blankW]
    omega
theorem wordL_least (hw : 0 ≤ w) : ∀ n most, 1 ≤ n → 0 ≤ most → most ≤ w → longL true (wordL w s n) most 0 = w
  | 0, most, h, h0, h1 => by omega
  | 1, most, h, h0, h1 => by simp [wordL, longL, inkW]; omega
  | n + 2, most, h, h0, h1 => by
    have e : longL true (wordL w s (n + 2)) most 0 = longL true (wordL w s (n + 1)) (max (max most (0 + w)) 0) 0 := by simp [wordL, longL, inkW, blankW]
    rw [e]
    rw [show max (max most (0 + w)) 0 = w by omega]
    exact wordL_least hw (n + 1) w (by omega) hw (Int.le_refl _)
theorem wordL_most (hw : 0 ≤ w) (hs : 0 ≤ s) : ∀ n (most now : Int), 1 ≤ n → most ≤ now + w → longL false (wordL w s n) most now = now + (n * w + (n - 1) * s)
  | 0, most, now, h, h1 => by omega
  | 1, most, now, h, h1 => by simp [wordL, longL, inkW]; omega
  | n + 2, most, now, h, h1 => by
    have e : longL false (wordL w s (n + 2)) most now = longL false (wordL w s (n + 1)) (max (max most (now + w)) (now + w + s)) (now + w + s) := by simp [wordL, longL, inkW, blankW]
    rw [e, wordL_most hw hs (n + 1) _ _ (by omega) (by omega)]
    have e1 : ((n + 2 : Nat) : Int) * w = ((n + 1 : Nat) : Int) * w + w := by rw [show ((n + 2 : Nat) : Int) = ((n + 1 : Nat) : Int) + 1 by omega, Int.add_mul, Int.one_mul]
    have e2 : (((n + 2 : Nat) : Int) - 1) * s = (((n + 1 : Nat) : Int) - 1) * s + s := by rw [show ((n + 2 : Nat) : Int) - 1 = (((n + 1 : Nat) : Int) - 1) + 1 by omega, Int.add_mul, Int.one_mul]
    rw [e1, e2]
    omega
theorem wordL_mem : ∀ n, ∀ x ∈ wordL w s n, x.adv = w ∨ x.adv = s
  | 0, x, h => by simp [wordL] at h
  | 1, x, h => by simp [wordL] at h; subst h; exact .inl rfl
  | n + 2, x, h => by
    simp only [wordL, List.mem_cons] at h
    rcases h with rfl | rfl | h
    · exact .inl rfl
    · exact .inr rfl
    · exact wordL_mem (n + 1) x h
theorem line_words {a : Int} {n p t : Nat} {v : Int} (hw : 0 < w) (hs : 0 ≤ s) (hp : p < n) (h : LineAt a (wordL w s n) (2 * p) t v) :
    ∃ m : Nat, 1 ≤ m ∧ m ≤ n - p ∧ t = 2 * p + 2 * m - 1 ∧ v = m * w + (m - 1) * s ∧ (m : Int) = min (max ((a + s) / (w + s)) 1) (n - p) := by
  have hlen := wordL_len w s n
  have h1 := h.le
  have h2 := h.len (by omega)
  have hk : ∀ j, kd (wordL w s n) j = if j + 1 < 2 * n then (if j % 2 = 0 then 1 else 2) else 4 := wordL_kd w s n
  have hd := wordL_drop w s n p (by omega)
  have he := h.ends
  have hodd : t % 2 = 1 := by
    rw [hk] at he
    by_cases h3 : t + 1 < 2 * n
    · rw [if_pos h3] at he
      by_cases h4 : t % 2 = 0
      · rw [if_pos h4] at he; omega
      · omega
    · omega
  obtain ⟨m, hm⟩ : ∃ m, t = 2 * p + 2 * m - 1 ∧ 1 ≤ m := ⟨(t + 1) / 2 - p, by omega⟩
  obtain ⟨hm, hm1⟩ := hm
  have hmn : m ≤ n - p := by omega
  have hsum : ∀ q, 1 ≤ q → q ≤ n - p → sumT (wordL w s n) (2 * p) (2 * p + 2 * q - 1) = q * w + (q - 1) * s := fun q h3 h4 => by
    unfold sumT
    rw [hd, show 2 * p + 2 * q - 1 - 2 * p = 2 * q - 1 by omega]
    exact wordL_sum w s (n - p) q h3 h4
  have hv : v = m * w + (m - 1) * s := by rw [h.sum, hm]; exact hsum m hm1 hmn
  have hfit : ∀ q : Int, q * w + (q - 1) * s ≤ a ↔ q ≤ (a + s) / (w + s) := fun q => by
    rw [Int.le_ediv_iff_mul_le (by omega), Int.mul_add, Int.sub_mul, Int.one_mul]
    omega
  have hup : (m : Int) ≤ max ((a + s) / (w + s)) 1 := by
    rcases h.fits with hf | hf
    · rw [hv, hfit] at hf; omega
    · have : m = 1 := by
        rcases Nat.lt_or_ge 1 m with h3 | h3
        · exfalso
          have := hf (2 * p + 1) (by omega) (by omega)
          rw [hk, if_pos (by omega), if_neg (by omega)] at this
          exact this rfl
        · omega
      omega
  have hlow : m < n - p → max ((a + s) / (w + s)) 1 ≤ (m : Int) := fun h3 => by
    have h4 : kd (wordL w s n) (2 * p + 2 * (m + 1) - 1) = 2 ∨ kd (wordL w s n) (2 * p + 2 * (m + 1) - 1) = 4 := by
      rw [hk]
      split
      · rw [if_neg (by omega)]; exact .inl rfl
      · exact .inr rfl
    have h5 := h.more (k := 2 * p + 2 * (m + 1) - 1) (by omega) (fun j h6 h7 => by
      rw [hk, if_pos (by omega)]
      split <;> decide) h4
    rw [hsum (m + 1) (by omega) (by omega)] at h5
    have h6 : ¬ ((m + 1 : Nat) : Int) ≤ (a + s) / (w + s) := fun h7 => by
      rw [← hfit] at h7; omega
    omega
  exact ⟨m, hm1, hmn, hm, hv, by omega⟩
theorem words_count {a : Int} (hw : 0 < w) (hs : 0 ≤ s) (n : Nat) : ∀ (d p : Nat), n - p ≤ d → p ≤ n → ((linesI a (wordL w s n) (2 * p)).length : Int) = (n - p + max ((a + s) / (w + s)) 1 - 1) / max ((a + s) / (w + s)) 1 := by
  have hlen := wordL_len w s n
  intro d
  induction d with
  | zero =>
    intro p h1 h2
    rw [linesI_end _ _ _ (by omega)]
    generalize hP : max ((a + s) / (w + s)) 1 = P at *
    have : (n : Int) - p + P - 1 = P - 1 := by omega
    rw [this, Int.ediv_eq_zero_of_lt (by omega) (by omega)]
    rfl
  | succ d ih =>
    intro p h1 h2
    rcases Nat.lt_or_ge p n with hp | hp
    · have hl := lineAt a (wordL w s n) (2 * p)
      rw [linesI_step _ _ _ (by omega), List.length_cons]
      generalize endL a ((wordL w s n).drop (2 * p)) (2 * p) 0 none = e at *
      obtain ⟨t, v⟩ := e
      simp only at hl ⊢
      obtain ⟨m, hm1, hm2, ht, hv, hmm⟩ := line_words w s hw hs hp hl
      rw [ht, show 2 * p + 2 * m - 1 + 1 = 2 * (p + m) by omega]
      have := ih (p + m) (by omega) (by omega)
      generalize hP : max ((a + s) / (w + s)) 1 = P at *
      rw [Int.natCast_add, this]
      have hP1 : 1 ≤ P := by omega
      by_cases hc : P ≤ (n : Int) - p
      · have hmP : (m : Int) = P := by omega
        rw [show (n : Int) - p + P - 1 = (n - (p + m : Nat) + P - 1) + 1 * P by omega, Int.add_mul_ediv_right _ _ (by omega)]
        rfl
      · have hmN : (m : Int) = n - p := by omega
        rw [show (n : Int) - (p + m : Nat) + P - 1 = P - 1 by omega, Int.ediv_eq_zero_of_lt (by omega) (by omega)]
        rw [show (n : Int) - p + P - 1 = (n - p - 1) + 1 * P by omega, Int.add_mul_ediv_right _ _ (by omega), Int.ediv_eq_zero_of_lt (by omega) (by omega)]
        rfl
    · rw [linesI_end _ _ _ (by omega)]
      generalize hP : max ((a + s) / (w + s)) 1 = P at *
      have : (n : Int) - p + P - 1 = P - 1 := by omega
      rw [this, Int.ediv_eq_zero_of_lt (by omega) (by omega)]
      rfl
end
theorem lines_next {a : Int} {g : List Gl} {L : List Sp} {i k : Nat} (h : L.drop i = linesI a g k) (hi : i < L.length) :
    ∃ (t : Nat) (v : Int), k < g.length ∧ L[i] = ⟨k, t, v⟩ ∧ LineAt a g k t v ∧ L.drop (i + 1) = linesI a g (t + 1) := by
  have hk : k < g.length := by
    rcases Nat.lt_or_ge k g.length with h1 | h1
    · exact h1
    · rw [linesI_end a g k h1, List.drop_eq_nil_iff] at h; omega
  have hs := linesI_step a g k hk
  have hl := lineAt a g k
  generalize endL a (g.drop k) k 0 none = p at *
  obtain ⟨t, v⟩ := p
  rw [List.drop_eq_getElem_cons hi, hs] at h
  obtain ⟨h1, h2⟩ := List.cons.inj h
  exact ⟨t, v, hk, h1, hl, h2⟩
theorem lines_last {a : Int} {g : List Gl} {L : List Sp} {k : Nat} (h : L.drop L.length = linesI a g k) : g.length ≤ k := by
  rw [List.drop_length] at h
  rcases Nat.lt_or_ge k g.length with h1 | h1
  · rw [linesI_step a g k h1] at h; cases h
  · exact h1
end Go.Proofs.Ytmlnpphblicghaa
