import Derived.Test.YtmkmealgoafgdaaStbNum
/- A stable sort's loops, step by step, as numbers. No program is named here. -/
namespace Go.Proofs.Ytmkmealgoafgdaa
open Go Go.Sort
set_option linter.unusedVariables false
set_option linter.unusedSimpArgs false
variable {key : Int → Int}

theorem swap_none (a b : Nat) (d : Nat → Int) (t : Nat) : swapF a b 0 d t = d t := by
  unfold swapF; rw [if_neg (by omega), if_neg (by omega)]
theorem swap_step {a b n k : Nat} {d dk : Array Int} (hk : k < n) (hab : a + n ≤ b) (hb : b + n ≤ d.size) (hs : dk.size = d.size)
    (h : ∀ t, dk[t]! = swapF a b k (fun x => d[x]!) t) (t : Nat) : (swp dk (a + k) (b + k))[t]! = swapF a b (k + 1) (fun x => d[x]!) t := by
  rw [swp_get dk (by omega) (by omega)]
  have ha : dk[a + k]! = d[a + k]! := by rw [h]; unfold swapF; rw [if_neg (by omega), if_neg (by omega)]
  have hb' : dk[b + k]! = d[b + k]! := by rw [h]; unfold swapF; rw [if_neg (by omega), if_neg (by omega)]
  rw [ha, hb']
  by_cases c1 : t = b + k
  · subst c1; rw [if_pos rfl]; unfold swapF; rw [if_neg (by omega), if_pos (by omega)] <;> (congr 1; omega)
  · rw [if_neg c1]
    by_cases c2 : t = a + k
    · subst c2; rw [if_pos rfl]; unfold swapF; rw [if_pos (by omega)] <;> (congr 1; omega)
    · rw [if_neg c2, h]
      unfold swapF
      by_cases c3 : a ≤ t ∧ t < a + k
      · rw [if_pos c3, if_pos (by omega)]
      · rw [if_neg c3, if_neg (show ¬ (a ≤ t ∧ t < a + (k + 1)) by omega)]
        by_cases c4 : b ≤ t ∧ t < b + k
        · rw [if_pos c4, if_pos (by omega)]
        · rw [if_neg c4, if_neg (by omega)]

/-- The first of a part on its way up: it stands at k. -/
def RotL (a b k : Nat) (d dk : Array Int) : Prop := PermIn a b d dk ∧ ∀ t, dk[t]! = if a ≤ t ∧ t < k then d[t + 1]! else if t = k then d[a]! else d[t]!
theorem rotL_start (a b : Nat) (d : Array Int) : RotL a b a d d := ⟨permIn_refl _ _ _, fun t => by
  rw [if_neg (by omega)]; split
  · next h => rw [h]
  · rfl⟩
theorem rotL_step {a b k : Nat} {d dk : Array Int} (h : RotL a b k d dk) (ha : a ≤ k) (hk : k + 1 < b) (hb : b ≤ d.size) : RotL a b (k + 1) d (swp dk k (k + 1)) := by
  have hs : dk.size = d.size := h.1.1
  refine ⟨permIn_trans _ _ _ _ _ h.1 (swp_permIn dk a b k (k + 1) ha (by omega) (by omega) hk (by omega)), fun t => ?_⟩
  rw [swp_get dk (by omega) (by omega)]
  have h1 : dk[k]! = d[a]! := by rw [h.2, if_neg (by omega), if_pos rfl]
  have h2 : dk[k + 1]! = d[k + 1]! := by rw [h.2, if_neg (by omega), if_neg (by omega)]
  rw [h1, h2]
  by_cases c1 : t = k + 1
  · rw [if_pos c1, if_neg (by omega), if_pos c1]
  · rw [if_neg c1]
    by_cases c2 : t = k
    · subst c2; rw [if_pos rfl, if_pos (by omega)]
    · rw [if_neg c2, h.2]
      by_cases c3 : a ≤ t ∧ t < k
      · rw [if_pos c3, if_pos (by omega)]
      · rw [if_neg c3, if_neg c2, if_neg (by omega), if_neg c1]
theorem rotL_end {a i b k : Nat} {d dk : Array Int} (h : RotL a b k d dk) (hk : k + 1 = i) (hh : Halves key a (a + 1) b d) (hib : i ≤ b) (hi : a + 1 ≤ i)
    (hlo : ∀ t, a + 1 ≤ t → t < i → ltK key d[t]! d[a]! = true) (hhi : ∀ t, i ≤ t → t < b → ltK key d[t]! d[a]! = false) : Merged key a b d dk :=
  ⟨h.1, left_one hh hi hib hlo hhi fun t => by
    rw [h.2]
    by_cases c1 : a ≤ t ∧ t < k
    · rw [if_pos c1, if_pos (show a ≤ t ∧ t + 1 < i by omega)]
    · rw [if_neg c1, if_neg (show ¬ (a ≤ t ∧ t + 1 < i) by omega)]
      by_cases c2 : t = k
      · rw [if_pos c2, if_pos (show t + 1 = i by omega)]
      · rw [if_neg c2, if_neg (show ¬ t + 1 = i by omega)]⟩
/-- The last of a part on its way down. -/
def RotR (a m k : Nat) (d dk : Array Int) : Prop := PermIn a (m + 1) d dk ∧ ∀ t, dk[t]! = if k < t ∧ t ≤ m then d[t - 1]! else if t = k then d[m]! else d[t]!
theorem rotR_start (a m : Nat) (d : Array Int) : RotR a m m d d := ⟨permIn_refl _ _ _, fun t => by
  rw [if_neg (by omega)]; split
  · next h => rw [h]
  · rfl⟩
theorem rotR_step {a m k : Nat} {d dk : Array Int} (h : RotR a m (k + 1) d dk) (ha : a ≤ k) (hk : k + 1 ≤ m) (hb : m + 1 ≤ d.size) : RotR a m k d (swp dk (k + 1) k) := by
  have hs : dk.size = d.size := h.1.1
  refine ⟨permIn_trans _ _ _ _ _ h.1 (swp_permIn dk a (m + 1) (k + 1) k (by omega) (by omega) ha (by omega) (by omega)), fun t => ?_⟩
  rw [swp_get dk (by omega) (by omega)]
  have h1 : dk[k + 1]! = d[m]! := by rw [h.2, if_neg (by omega), if_pos rfl]
  have h2 : dk[k]! = d[k]! := by rw [h.2, if_neg (by omega), if_neg (by omega)]
  rw [h1, h2]
  by_cases c1 : t = k
  · rw [if_pos c1, if_neg (by omega), if_pos c1]
  · rw [if_neg c1]
    by_cases c2 : t = k + 1
    · subst c2; rw [if_pos rfl, if_pos (by omega)]; rfl
    · rw [if_neg c2, h.2]
      by_cases c3 : k + 1 < t ∧ t ≤ m
      · rw [if_pos c3, if_pos (by omega)]
      · rw [if_neg c3, if_neg c2, if_neg (by omega), if_neg c1]
theorem rotR_end {a i m : Nat} {d dk : Array Int} (h : RotR a m i d dk) (hh : Halves key a m (m + 1) d) (hi : a ≤ i) (him : i ≤ m)
    (hlo : ∀ t, a ≤ t → t < i → ltK key d[m]! d[t]! = false) (hhi : ∀ t, i ≤ t → t < m → ltK key d[m]! d[t]! = true) : Merged key a (m + 1) d dk :=
  ⟨h.1, right_one hh hi him hlo hhi h.2⟩
/-- A search in the part behind: those ahead of the middle are less too. -/
theorem srchL_lo {a m b h : Nat} {d : Array Int} (hr : SortedIn (ltK key) m b d) (hh : h < b) (hl : ltK key d[h]! d[a]! = true) (t : Nat) (ht : m ≤ t) (hth : t ≤ h) : ltK key d[t]! d[a]! = true := by
  by_cases c : t = h
  · subst c; exact hl
  · have := hr t h ht (by omega) hh
    rw [ltK_t] at *; rw [ltK_f] at this; omega
theorem srchL_hi {a m b h : Nat} {d : Array Int} (hr : SortedIn (ltK key) m b d) (hh : m ≤ h) (hl : ltK key d[h]! d[a]! = false) (t : Nat) (hth : h ≤ t) (ht : t < b) : ltK key d[t]! d[a]! = false := by
  by_cases c : t = h
  · subst c; exact hl
  · exact (swo_ltK (key := key)).ntrans _ _ _ (hr h t hh (by omega) ht) hl
theorem srchR_lo {a m h : Nat} {d : Array Int} (hr : SortedIn (ltK key) a m d) (hh : h < m) (hl : ltK key d[m]! d[h]! = false) (t : Nat) (ht : a ≤ t) (hth : t ≤ h) : ltK key d[m]! d[t]! = false := by
  by_cases c : t = h
  · subst c; exact hl
  · exact (swo_ltK (key := key)).ntrans _ _ _ hl (hr t h ht (by omega) hh)
theorem srchR_hi {a m h : Nat} {d : Array Int} (hr : SortedIn (ltK key) a m d) (hh : a ≤ h) (hl : ltK key d[m]! d[h]! = true) (t : Nat) (hth : h ≤ t) (ht : t < m) : ltK key d[m]! d[t]! = true := by
  by_cases c : t = h
  · subst c; exact hl
  · have := hr h t hh (by omega) ht
    rw [ltK_t] at *; rw [ltK_f] at this; omega

/-- A part of places of its own, in order. -/
structure Blk (key : Int → Int) (s e : Nat) (d : Array Int) : Prop where
  ord : SortedIn (ltK key) s e d
  own : ∀ k, s ≤ k → k < e → (s : Int) ≤ d[k]! ∧ d[k]! < (e : Int)
theorem blk_of {s e : Nat} {d d' : Array Int} (hp : PermIn s e d d') (hs : SortedIn (ltK key) s e d') (he : e ≤ d.size) (ho : ∀ k, s ≤ k → k < e → (s : Int) ≤ d[k]! ∧ d[k]! < (e : Int)) : Blk key s e d' :=
  ⟨hs, fun k h1 h2 => permIn_all d d' s e (fun z => (s : Int) ≤ z ∧ z < (e : Int)) he hp ho k h1 h2⟩
theorem blk_merge {s m e : Nat} {d d' : Array Int} (h1 : Blk key s m d) (h2 : Blk key m e d) (hsm : s ≤ m) (hme : m ≤ e) (he : e ≤ d.size) (h : Merged key s e d d') : Blk key s e d' :=
  blk_of h.1 h.2 he fun k hk hk' => by
    by_cases c : k < m
    · have := h1.own k hk c; omega
    · have := h2.own k (by omega) hk'; omega
theorem blk_halves {s m e : Nat} {d : Array Int} (h1 : Blk key s m d) (h2 : Blk key m e d) : Halves key s m e d :=
  ⟨h1.ord, h2.ord, fun i j a b c f => by have := (h1.own i a b).2; have := (h2.own j c f).1; omega⟩
theorem blk_move {s e : Nat} {d d' : Array Int} (h : Blk key s e d) (he : ∀ t, s ≤ t → t < e → d'[t]! = d[t]!) : Blk key s e d' :=
  ⟨fun p q h1 h2 h3 => by rw [he p h1 (by omega), he q (by omega) h3]; exact h.ord p q h1 h2 h3, fun k h1 h2 => by rw [he k h1 h2]; exact h.own k h1 h2⟩
/-- All parts of one length in order. -/
def Blks (key : Int → Int) (bs n : Nat) (d : Array Int) : Prop := ∀ q, q * bs < n → Blk key (q * bs) (min (q * bs + bs) n) d
theorem blks_all {bs n : Nat} {d : Array Int} (h : Blks key bs n d) (hb : n ≤ bs) (hn : 0 < n) : SortedIn (ltK key) 0 n d := by
  have := (h 0 (by omega)).ord
  rwa [show 0 * bs = 0 by omega, show min (0 + bs) n = n by omega] at this
end Go.Proofs.Ytmkmealgoafgdaa
