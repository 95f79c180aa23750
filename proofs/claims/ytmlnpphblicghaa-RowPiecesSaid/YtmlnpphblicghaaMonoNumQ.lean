import Derived.Test.YtmlnpphblicghaaZQ
import Derived.Test.YtmlnpphblicghaaFullNumQ
/- More room, or a later begin, makes no more lines; what is as wide as the widest part; breaks counted. No program is named here. -/
namespace Go.Proofs.Ytmlnpphblicghaa
open Go Go.RowKit
set_option linter.unusedVariables false
set_option linter.unusedSimpArgs false

theorem sumA_nonneg : ∀ (l : List Gl), Adv0 l → 0 ≤ sumA l
  | [], _ => Int.le_refl _
  | x :: l, h => by
    have h1 := h x (by simp)
    have h2 := sumA_nonneg l (fun y hy => h y (by simp [hy]))
    rw [sumA_cons]; omega
theorem Adv0.drop {g : List Gl} (h : Adv0 g) (i : Nat) : Adv0 (g.drop i) := fun x hx => h x (List.mem_of_mem_drop hx)
theorem Adv0.take {g : List Gl} (h : Adv0 g) (i : Nat) : Adv0 (g.take i) := fun x hx => h x (List.mem_of_mem_take hx)
theorem sumT_later {g : List Gl} (hg : Adv0 g) (i j t : Nat) (h1 : i ≤ j) (h2 : j ≤ t) : sumT g j t ≤ sumT g i t := by
  unfold sumT
  have h3 : (g.drop i).take (t - i) = (g.drop i).take (j - i) ++ (g.drop j).take (t - j) := by
    rw [show t - i = (j - i) + (t - j) by omega, List.take_add, List.drop_drop, show i + (j - i) = j by omega]
  rw [h3, sumA_append]
  have := sumA_nonneg _ ((hg.drop i).take (j - i))
  omega
theorem LineAt.mono {a a' : Int} {g : List Gl} {i i' t t' : Nat} {v v' : Int} (hg : Adv0 g) (h : LineAt a g i t v) (h' : LineAt a' g i' t' v') (hi : i ≤ i') (ha : a ≤ a') : t ≤ t' := by
  rcases Nat.lt_or_ge t' t with hlt | hge
  · exfalso
    have hle := h'.le
    have hb := h.noBreak
    have hm := h'.more hlt (fun j h1 h2 => hb j (by omega) h2) h.ends
    have hs := sumT_later hg i i' t hi (by omega)
    have hv := h.sum
    rcases h.fits with hf | hf
    · omega
    · rcases h'.ends with he | he
      · exact hf t' (by omega) hlt he
      · exact hb t' (by omega) hlt he
  · exact hge
theorem linesI_mono {a a' : Int} {g : List Gl} (hg : Adv0 g) (ha : a ≤ a') : ∀ (n i i' : Nat), i ≤ i' → g.length - i ≤ n → (linesI a' g i').length ≤ (linesI a g i).length
  | 0, i, i', hi, hn => by rw [linesI_end a' g i' (by omega)]; simp
  | n + 1, i, i', hi, hn => by
    rcases Nat.lt_or_ge i' g.length with h | h
    · have h1 := lineAt a g i
      have h2 := lineAt a' g i'
      have h3 := h1.mono hg h2 hi ha
      have h4 := h1.le
      rw [linesI_step a g i (by omega), linesI_step a' g i' h, List.length_cons, List.length_cons]
      have := linesI_mono hg ha n ((endL a (g.drop i) i 0 none).1 + 1) ((endL a' (g.drop i') i' 0 none).1 + 1) (by omega) (by omega)
      omega
    · rw [linesI_end a' g i' h]; simp
theorem linesI_mem {a : Int} {g : List Gl} : ∀ (n i : Nat), g.length - i ≤ n → ∀ s ∈ linesI a g i, ∃ (k t : Nat) (v : Int), k < g.length ∧ s = ⟨k, t, v⟩ ∧ LineAt a g k t v
  | 0, i, hn, s, hs => by rw [linesI_end a g i (by omega)] at hs; simp at hs
  | n + 1, i, hn, s, hs => by
    rcases Nat.lt_or_ge i g.length with h | h
    · have h1 := lineAt a g i
      rw [linesI_step a g i h, List.mem_cons] at hs
      rcases hs with rfl | hs
      · exact ⟨i, _, _, h, rfl, h1⟩
      · exact linesI_mem n _ (by have := h1.le; omega) s hs
    · rw [linesI_end a g i h] at hs; simp at hs
/- The widest part. -/
theorem longL_ge (sp : Bool) : ∀ (l : List Gl) (most now : Int), most ≤ longL sp l most now
  | [], most, now => Int.le_refl _
  | x :: l, most, now => by
    simp only [longL]
    split
    · exact Int.le_trans (Int.le_max_left _ _) (longL_ge sp l _ _)
    · exact Int.le_trans (Int.le_max_left _ _) (longL_ge sp l _ _)
theorem longL_pre (sp : Bool) : ∀ (l : List Gl) (j : Nat) (most now : Int), now ≤ most → j ≤ l.length → (∀ i, i < j → kd l i ≠ 4 ∧ (sp = true → kd l i ≠ 2)) → now + sumA (l.take j) ≤ longL sp l most now
  | l, 0, most, now, h, _, _ => by have := longL_ge sp l most now; simp [sumA]; omega
  | [], j + 1, most, now, h, hj, _ => by simp at hj
  | x :: l, j + 1, most, now, h, hj, hk => by
    have h0 := hk 0 (by omega)
    rw [kd_zero] at h0
    have hn : ¬ (x.kind = 4 ∨ (sp = true ∧ x.kind = 2)) := fun hc => by
      rcases hc with hc | ⟨hc, hd⟩
      · exact h0.1 hc
      · exact h0.2 hc hd
    simp only [longL]
    rw [if_neg hn, List.take_succ_cons, sumA_cons]
    have := longL_pre sp l j (max most (now + x.adv)) (now + x.adv) (Int.le_max_right _ _) (by simpa using hj) (fun i hi => by have := hk (i + 1) (by omega); rwa [kd_succ] at this)
    omega
theorem longL_part (sp : Bool) : ∀ (l : List Gl) (i j : Nat) (most now : Int), Adv0 l → 0 ≤ now → now ≤ most → i + j ≤ l.length → (∀ q, i ≤ q → q < i + j → kd l q ≠ 4 ∧ (sp = true → kd l q ≠ 2)) → sumA ((l.drop i).take j) ≤ longL sp l most now
  | l, 0, j, most, now, hg, h0, h, hj, hk => by
    have := longL_pre sp l j most now h (by omega) (fun i hi => hk i (by omega) (by omega))
    rw [List.drop_zero]; omega
  | [], i + 1, j, most, now, hg, h0, h, hj, hk => by simp at hj
  | x :: l, i + 1, j, most, now, hg, h0, h, hj, hk => by
    have hx := hg x (by simp)
    have hl : Adv0 l := fun y hy => hg y (by simp [hy])
    have hj' : i + j ≤ l.length := by simp only [List.length_cons] at hj; omega
    have hk' : ∀ q, i ≤ q → q < i + j → kd l q ≠ 4 ∧ (sp = true → kd l q ≠ 2) := fun q h1 h2 => by have := hk (q + 1) (by omega) (by omega); rwa [kd_succ] at this
    rw [List.drop_succ_cons]
    simp only [longL]
    split
    · exact longL_part sp l i j _ _ hl (Int.le_refl _) (Int.le_max_right _ _) hj' hk'
    · exact longL_part sp l i j _ _ hl (by omega) (Int.le_max_right _ _) hj' hk'
theorem leastL_part {g : List Gl} (hg : Adv0 g) (i t : Nat) (hit : i ≤ t) (ht : t ≤ g.length) (hk : ∀ q, i ≤ q → q < t → kd g q ≠ 4 ∧ kd g q ≠ 2) : sumT g i t ≤ leastL g :=
  longL_part true g i (t - i) 0 0 hg (Int.le_refl _) (Int.le_refl _) (by omega) (fun q h1 h2 => ⟨(hk q h1 (by omega)).1, fun _ => (hk q h1 (by omega)).2⟩)
theorem mostL_part {g : List Gl} (hg : Adv0 g) (i t : Nat) (hit : i ≤ t) (ht : t ≤ g.length) (hk : ∀ q, i ≤ q → q < t → kd g q ≠ 4) : sumT g i t ≤ mostL g :=
  longL_part false g i (t - i) 0 0 hg (Int.le_refl _) (Int.le_refl _) (by omega) (fun q h1 h2 => ⟨hk q h1 (by omega), fun h => by cases h⟩)
theorem LineAt.tight {g : List Gl} {i t : Nat} {v : Int} (hg : Adv0 g) (hi : i < g.length) (h : LineAt (leastL g) g i t v) : v ≤ leastL g := by
  rcases h.fits with hf | hf
  · exact hf
  · rw [h.sum]
    exact leastL_part hg i t h.le (h.len hi) (fun q h1 h2 => ⟨h.noBreak q h1 h2, hf q h1 h2⟩)
theorem longL_le (sp : Bool) : ∀ (l : List Gl) (most now : Int), Adv0 l → 0 ≤ now → longL sp l most now ≤ max most (now + sumA l)
  | [], most, now, hg, h0 => Int.le_max_left _ _
  | x :: l, most, now, hg, h0 => by
    have hx := hg x (by simp)
    have hl : Adv0 l := fun y hy => hg y (by simp [hy])
    have hs := sumA_nonneg l hl
    simp only [longL]
    rw [sumA_cons]
    split
    · have := longL_le sp l (max most 0) 0 hl (Int.le_refl _)
      omega
    · have := longL_le sp l (max most (now + x.adv)) (now + x.adv) hl (by omega)
      omega
theorem longL_bd {g : List Gl} (hg : FineG g) (hn : Adv0 g) : I64 (leastL g) ∧ I64 (mostL g) ∧ 0 ≤ leastL g := by
  have h1 := longL_le true g 0 0 hn (Int.le_refl _)
  have h2 := longL_le false g 0 0 hn (Int.le_refl _)
  have h3 := longL_ge true g 0 0
  have h4 := longL_ge false g 0 0
  have h5 := sumT_bd hg 0 g.length (Nat.zero_le _) (Nat.le_refl _)
  have h6 : sumT g 0 g.length = sumA g := by unfold sumT; rw [List.drop_zero, Nat.sub_zero, List.take_length]
  rw [h6] at h5
  have h7 := hg.1
  obtain ⟨h8, h9⟩ := h5
  have h10 : leastL g = longL true g 0 0 := rfl
  have h11 : mostL g = longL false g 0 0 := rfl
  unfold I64
  omega
/- Breaks that something follows. -/
def brkN : List Gl → Nat
  | [] => 0
  | [_] => 0
  | x :: y :: l => (if x.kind = 4 then 1 else 0) + brkN (y :: l)
theorem brkN_short : ∀ (l : List Gl), l.length ≤ 1 → brkN l = 0
  | [], _ => rfl
  | [_], _ => rfl
  | x :: y :: l, h => by simp at h
theorem brkN_step (g : List Gl) (i : Nat) (h : i + 1 < g.length) : brkN (g.drop i) = (if g[i].kind = 4 then 1 else 0) + brkN (g.drop (i + 1)) := by
  rw [List.drop_eq_getElem_cons (show i < g.length by omega), List.drop_eq_getElem_cons h]; rfl
theorem brkN_end (g : List Gl) (i : Nat) (h : g.length ≤ i + 1) : brkN (g.drop i) = 0 := brkN_short _ (by rw [List.length_drop]; omega)
theorem brkN_none (g : List Gl) : ∀ (n i t : Nat), t - i = n → i ≤ t → t ≤ g.length → (∀ q, i ≤ q → q < t → kd g q ≠ 4) → brkN (g.drop i) = brkN (g.drop t)
  | 0, i, t, hn, hi, ht, hk => by rw [show i = t by omega]
  | n + 1, i, t, hn, hi, ht, hk => by
    rcases Nat.lt_or_ge (i + 1) g.length with h | h
    · have h4 := hk i (by omega) (by omega)
      rw [kd_at g i (by omega)] at h4
      rw [brkN_step g i h, if_neg h4, Nat.zero_add]
      exact brkN_none g n (i + 1) t (by omega) (by omega) ht (fun q h1 h2 => hk q (by omega) h2)
    · rw [brkN_end g i h, brkN_end g t (by omega)]
theorem LineAt.most {g : List Gl} {i t : Nat} {v : Int} (hg : Adv0 g) (hi : i < g.length) (h : LineAt (mostL g) g i t v) : kd g t = 4 := by
  rcases h.ends with h2 | h4
  · exfalso
    -- the first break behind
    have hex : ∃ q, t < q ∧ q ≤ g.length ∧ kd g q = 4 ∧ ∀ j, i ≤ j → j < q → kd g j ≠ 4 := by
      have key : ∀ (n q : Nat), g.length - q = n → q ≤ g.length → t < q → (∀ j, i ≤ j → j < q → kd g j ≠ 4) → ∃ q, t < q ∧ q ≤ g.length ∧ kd g q = 4 ∧ ∀ j, i ≤ j → j < q → kd g j ≠ 4 := by
        intro n
        induction n with
        | zero => intro q hn hq htq hk; exact ⟨q, htq, hq, kd_out g q (by omega), hk⟩
        | succ n ih =>
          intro q hn hq htq hk
          by_cases h4 : kd g q = 4
          · exact ⟨q, htq, hq, h4, hk⟩
          · exact ih (q + 1) (by omega) (by omega) (by omega) (fun j h1 h2 => by
              rcases Nat.lt_or_ge j q with h | h
              · exact hk j h1 h
              · rw [show j = q by omega]; exact h4)
      have htl : t < g.length := by
        rcases Nat.lt_or_ge t g.length with h5 | h5
        · exact h5
        · rw [kd_out g t h5] at h2; cases h2
      exact key _ (t + 1) rfl (by omega) (by omega) (fun j h1 h3 => by
        rcases Nat.lt_or_ge j t with h | h'
        · exact LineAt.noBreak ‹LineAt (mostL g) g i t v› j h1 h
        · rw [show j = t by omega, h2]; decide)
    obtain ⟨q, hq1, hq2, hq3, hq4⟩ := hex
    have h5 := h.more hq1 hq4 (.inr hq3)
    have h6 := mostL_part hg i q (by have := h.le; omega) hq2 hq4
    omega
  · exact h4
theorem linesI_most {g : List Gl} (hg : Adv0 g) : ∀ (n i : Nat), g.length - i ≤ n → i < g.length → (linesI (mostL g) g i).length = brkN (g.drop i) + 1
  | 0, i, hn, hi => by omega
  | n + 1, i, hn, hi => by
    have h1 := lineAt (mostL g) g i
    rw [linesI_step _ g i hi, List.length_cons]
    generalize endL (mostL g) (g.drop i) i 0 none = p at *
    obtain ⟨t, v⟩ := p
    simp only at h1 ⊢
    have h2 := h1.le
    have h3 := h1.len hi
    have h4 := h1.most hg hi
    rw [brkN_none g _ i t rfl h2 h3 h1.noBreak]
    rcases Nat.lt_or_ge (t + 1) g.length with h | h
    · rw [linesI_most hg n (t + 1) (by omega) h, brkN_step g t h]
      rw [kd_at g t (by omega)] at h4
      rw [if_pos h4]; omega
    · rw [linesI_end _ g (t + 1) h, brkN_end g t h]; rfl
end Go.Proofs.Ytmlnpphblicghaa
