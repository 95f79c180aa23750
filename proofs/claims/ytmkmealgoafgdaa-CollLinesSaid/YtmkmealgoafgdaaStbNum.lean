import Derived.Sort.LotA
/- A stable sort of places by a key: what its steps owe, as numbers. No program is named here. -/
namespace Go.Proofs.Ytmkmealgoafgdaa
open Go Go.Sort
set_option linter.unusedVariables false
set_option linter.unusedSimpArgs false

/-- By key; those of one key by place. -/
def ltK (key : Int → Int) (x y : Int) : Bool := decide (key x < key y ∨ (key x = key y ∧ x < y))
/-- What a comparison of keys answers. -/
def cmpZ (x y : Int) : Int := if x < y then -1 else if y < x then 1 else 0
variable {key : Int → Int}
theorem ltK_t {x y : Int} : ltK key x y = true ↔ (key x < key y ∨ (key x = key y ∧ x < y)) := by unfold ltK; exact decide_eq_true_iff
theorem ltK_f {x y : Int} : ltK key x y = false ↔ ¬ (key x < key y ∨ (key x = key y ∧ x < y)) := by unfold ltK; exact decide_eq_false_iff_not
theorem swo_ltK : SWO (ltK key) where
  irrefl x := by rw [ltK_f]; omega
  trans x y z h1 h2 := by rw [ltK_t] at *; omega
  ntrans x y z h1 h2 := by rw [ltK_f] at *; omega
theorem ltK_anti {x y : Int} (h1 : ltK key x y = false) (h2 : ltK key y x = false) : x = y := by rw [ltK_f] at *; omega
theorem ltK_as {x y : Int} (h : ltK key x y = true) : ltK key y x = false := by rw [ltK_t] at h; rw [ltK_f]; omega
/-- Of two places the later one is less just if its key is. -/
theorem ltK_back {x y : Int} (h : x < y) : ltK key y x = decide (cmpZ (key y) (key x) < 0) := by
  unfold ltK cmpZ
  apply Bool.eq_iff_iff.2
  rw [decide_eq_true_iff, decide_eq_true_iff]
  constructor
  · intro h; rw [if_pos (by omega)]; omega
  · intro h
    split at h
    · left; assumption
    · split at h <;> omega

def Cross (a m b : Nat) (d : Array Int) : Prop := ∀ i j, a ≤ i → i < m → m ≤ j → j < b → d[i]! < d[j]!
structure Halves (key : Int → Int) (a m b : Nat) (d : Array Int) : Prop where
  l : SortedIn (ltK key) a m d
  r : SortedIn (ltK key) m b d
  x : Cross a m b d
def Merged (key : Int → Int) (a b : Nat) (d d' : Array Int) : Prop := PermIn a b d d' ∧ SortedIn (ltK key) a b d'

theorem swp_get! (d : Array Int) {i j : Nat} (hi : i < d.size) (hj : j < d.size) (k : Nat) : (swp d i j)[k]! = if k = j then d[i]! else if k = i then d[j]! else d[k]! := swp_get d hi hj k

/-- One ahead of a sorted row: behind those that are less. -/
theorem left_one {a i b : Nat} {d d' : Array Int} (h : Halves key a (a + 1) b d) (hi : a + 1 ≤ i) (hib : i ≤ b)
    (hlo : ∀ t, a + 1 ≤ t → t < i → ltK key d[t]! d[a]! = true) (hhi : ∀ t, i ≤ t → t < b → ltK key d[t]! d[a]! = false)
    (e : ∀ t, d'[t]! = if a ≤ t ∧ t + 1 < i then d[t + 1]! else if t + 1 = i then d[a]! else d[t]!) : SortedIn (ltK key) a b d' := by
  intro p q hp hpq hq
  have r := h.r
  have e1 : ∀ t, a ≤ t → t + 1 < i → d'[t]! = d[t + 1]! := fun t h1 h2 => by rw [e t, if_pos ⟨h1, h2⟩]
  have e2 : ∀ t, t + 1 = i → d'[t]! = d[a]! := fun t h1 => by rw [e t, if_neg (by omega), if_pos h1]
  have e3 : ∀ t, i ≤ t → d'[t]! = d[t]! := fun t h1 => by rw [e t, if_neg (by omega), if_neg (by omega)]
  by_cases c1 : p + 1 < i
  · rw [e1 p hp c1]
    by_cases c2 : q + 1 < i
    · rw [e1 q (by omega) c2]; exact r _ _ (by omega) (by omega) (by omega)
    · by_cases c3 : q + 1 = i
      · rw [e2 q c3]; exact ltK_as (hlo _ (by omega) c1)
      · rw [e3 q (by omega)]; exact r _ _ (by omega) (by omega) hq
  · rw [e3 q (by omega)]
    by_cases c3 : p + 1 = i
    · rw [e2 p c3]; exact hhi _ (by omega) hq
    · rw [e3 p (by omega)]; exact r _ _ (by omega) hpq hq
/-- One behind a sorted row: ahead of those that are more. -/
theorem right_one {a i m : Nat} {d d' : Array Int} (h : Halves key a m (m + 1) d) (hi : a ≤ i) (hib : i ≤ m)
    (hlo : ∀ t, a ≤ t → t < i → ltK key d[m]! d[t]! = false) (hhi : ∀ t, i ≤ t → t < m → ltK key d[m]! d[t]! = true)
    (e : ∀ t, d'[t]! = if i < t ∧ t ≤ m then d[t - 1]! else if t = i then d[m]! else d[t]!) : SortedIn (ltK key) a (m + 1) d' := by
  intro p q hp hpq hq
  have l := h.l
  have e1 : ∀ t, i < t → t ≤ m → d'[t]! = d[t - 1]! := fun t h1 h2 => by rw [e t, if_pos ⟨h1, h2⟩]
  have e2 : ∀ t, t = i → d'[t]! = d[m]! := fun t h1 => by rw [e t, if_neg (by omega), if_pos h1]
  have e3 : ∀ t, t < i → d'[t]! = d[t]! := fun t h1 => by rw [e t, if_neg (by omega), if_neg (by omega)]
  by_cases c1 : i < p
  · rw [e1 p c1 (by omega), e1 q (by omega) (by omega)]; exact l _ _ (by omega) (by omega) (by omega)
  · by_cases c2 : i < q
    · rw [e1 q c2 (by omega)]
      by_cases c3 : p = i
      · rw [e2 p c3]; exact ltK_as (hhi _ (by omega) (by omega))
      · rw [e3 p (by omega)]; exact l _ _ hp (by omega) (by omega)
    · rw [e3 p (by omega)]
      by_cases c3 : q = i
      · rw [e2 q c3]; exact hlo _ hp (by omega)
      · rw [e3 q (by omega)]; exact l _ _ hp hpq (by omega)

/-- What two parts of one length make of a row when they change places. -/
def swapF (a b n : Nat) (d : Nat → Int) (t : Nat) : Int := if a ≤ t ∧ t < a + n then d (t + (b - a)) else if b ≤ t ∧ t < b + n then d (t - (b - a)) else d t
/-- .. and two neighbours. -/
def rotF (a m b : Nat) (d : Nat → Int) (t : Nat) : Int := if a ≤ t ∧ t < a + (b - m) then d (t + (m - a)) else if a + (b - m) ≤ t ∧ t < b then d (t - (b - m)) else d t
theorem rot_more {m i j : Nat} (hij : j < i) (hi : i ≤ m) (d e : Nat → Int) (he : ∀ t, e t = swapF (m - i) m j d t) (t : Nat) : rotF (m - (i - j)) m (m + j) e t = rotF (m - i) m (m + j) d t := by
  unfold rotF
  simp only [he]
  unfold swapF
  by_cases c1 : m - i ≤ t ∧ t < m - i + j
  · rw [if_neg (by omega), if_neg (by omega), if_pos c1, if_pos (by omega)] <;> (congr 1; omega)
  · by_cases c2 : m - i + j ≤ t ∧ t < m + j
    · rw [if_neg (show ¬ (m - i ≤ t ∧ t < m - i + (m + j - m)) by omega), if_pos (show m - i + (m + j - m) ≤ t ∧ t < m + j by omega)]
      by_cases c3 : t < m - (i - j) + j
      · rw [if_pos (show m - (i - j) ≤ t ∧ t < m - (i - j) + (m + j - m) by omega), if_neg (by omega), if_pos (by omega)] <;> (congr 1; omega)
      · rw [if_neg (show ¬ (m - (i - j) ≤ t ∧ t < m - (i - j) + (m + j - m)) by omega), if_pos (show m - (i - j) + (m + j - m) ≤ t ∧ t < m + j by omega), if_neg (by omega), if_neg (by omega)]
    · rw [if_neg (by omega), if_neg (by omega), if_neg (by omega), if_neg (by omega), if_neg (by omega), if_neg (by omega)]
theorem rot_less {m i j : Nat} (hij : i < j) (hi : i ≤ m) (d e : Nat → Int) (he : ∀ t, e t = swapF (m - i) (m + j - i) i d t) (t : Nat) : rotF (m - i) m (m + (j - i)) e t = rotF (m - i) m (m + j) d t := by
  unfold rotF
  simp only [he]
  unfold swapF
  by_cases c1 : m - i ≤ t ∧ t < m - i + j
  · rw [if_pos (show m - i ≤ t ∧ t < m - i + (m + j - m) by omega)]
    by_cases c2 : t < m - i + (j - i)
    · rw [if_pos (show m - i ≤ t ∧ t < m - i + (m + (j - i) - m) by omega), if_neg (by omega), if_neg (by omega)]
    · rw [if_neg (show ¬ (m - i ≤ t ∧ t < m - i + (m + (j - i) - m)) by omega), if_pos (show m - i + (m + (j - i) - m) ≤ t ∧ t < m + (j - i) by omega), if_pos (by omega)] <;> (congr 1; omega)
  · by_cases c2 : m - i + j ≤ t ∧ t < m + j
    · rw [if_neg (by omega), if_neg (by omega), if_neg (by omega), if_pos (by omega), if_neg (by omega), if_pos (by omega)] <;> (congr 1; omega)
    · rw [if_neg (by omega), if_neg (by omega), if_neg (by omega), if_neg (by omega), if_neg (by omega), if_neg (by omega)]
theorem rot_even {m i : Nat} (hi : i ≤ m) (d : Nat → Int) (t : Nat) : swapF (m - i) m i d t = rotF (m - i) m (m + i) d t := by
  unfold rotF swapF
  by_cases c1 : m - i ≤ t ∧ t < m - i + i
  · rw [if_pos c1, if_pos (show m - i ≤ t ∧ t < m - i + (m + i - m) by omega)]
  · rw [if_neg c1, if_neg (show ¬ (m - i ≤ t ∧ t < m - i + (m + i - m)) by omega)]
    by_cases c2 : m ≤ t ∧ t < m + i
    · rw [if_pos c2, if_pos (show m - i + (m + i - m) ≤ t ∧ t < m + i by omega)] <;> (congr 1; omega)
    · rw [if_neg c2, if_neg (show ¬ (m - i + (m + i - m) ≤ t ∧ t < m + i) by omega)]
theorem rot_none {a m b : Nat} (h : a = m ∨ b = m) (d : Nat → Int) (t : Nat) : rotF a m b d t = d t := by
  unfold rotF
  rcases h with rfl | rfl
  · split
    · congr 1; omega
    · split
      · omega
      · rfl
  · split
    · omega
    · split
      · congr 1; omega
      · rfl

/-- The middle step of a merge: what is less than the middle ahead of it. -/
theorem sym_split {a m b mid s e s0 r0 : Nat} {d d1 : Array Int} (h : Halves key a m b d) (ham : a < m) (hmb : m < b) (hmid : mid = (a + b) / 2) (he : e = mid + m - s)
    (h0 : (mid < m ∧ s0 = mid + m - b ∧ r0 = mid) ∨ (m ≤ mid ∧ s0 = a ∧ r0 = m)) (hs : s0 ≤ s) (hr : s ≤ r0)
    (hlo : s = s0 ∨ ltK key d[mid + m - s]! d[s - 1]! = false) (hhi : s = r0 ∨ ltK key d[mid + m - 1 - s]! d[s]! = true)
    (hd : ∀ t, d1[t]! = rotF s m e (fun k => d[k]!) t) :
    Halves key a s mid d1 ∧ Halves key mid e b d1 ∧ ∀ p q, a ≤ p → p < mid → mid ≤ q → q < b → ltK key d1[q]! d1[p]! = false := by
  have l := h.l
  have r := h.r
  have x := h.x
  have has : a ≤ s := by omega
  have hsm : s ≤ m := by omega
  have hme : m ≤ e := by omega
  have heb : e ≤ b := by omega
  have hsmid : s ≤ mid := by omega
  have hmide : mid ≤ e := by omega
  -- the four parts
  have g1 : ∀ t, t < s → d1[t]! = d[t]! := fun t ht => by rw [hd]; unfold rotF; rw [if_neg (by omega), if_neg (by omega)]
  have g2 : ∀ t, s ≤ t → t < mid → d1[t]! = d[t + (m - s)]! := fun t h1 h2 => by rw [hd]; unfold rotF; rw [if_pos (by omega)]
  have g3 : ∀ t, mid ≤ t → t < e → d1[t]! = d[t - (e - m)]! := fun t h1 h2 => by rw [hd]; unfold rotF; rw [if_neg (by omega), if_pos (by omega)]
  have g4 : ∀ t, e ≤ t → d1[t]! = d[t]! := fun t h1 => by rw [hd]; unfold rotF; rw [if_neg (by omega), if_neg (by omega)]
  refine ⟨⟨?_, ?_, ?_⟩, ⟨?_, ?_, ?_⟩, ?_⟩
  · intro p q hp hpq hq; rw [g1 p (by omega), g1 q hq]; exact l p q hp hpq (by omega)
  · intro p q hp hpq hq; rw [g2 p hp (by omega), g2 q (by omega) hq]; exact r _ _ (by omega) (by omega) (by omega)
  · intro p q hp hps hq hqm; rw [g1 p hps, g2 q hq hqm]; exact x _ _ hp (by omega) (by omega) (by omega)
  · intro p q hp hpq hq; rw [g3 p hp (by omega), g3 q (by omega) hq]; exact l _ _ (by omega) (by omega) (by omega)
  · intro p q hp hpq hq; rw [g4 p hp, g4 q (by omega)]; exact r p q (by omega) hpq hq
  · intro p q hp hps hq hqm; rw [g3 p hp hps, g4 q hq]; exact x _ _ (by omega) (by omega) (by omega) (by omega)
  · -- all ahead of the middle are less than all behind it
    have NT := fun u v w => (swo_ltK (key := key)).ntrans u v w
    have key1 : ∀ i j, a ≤ i → i < s → e ≤ j → j < b → ltK key d[j]! d[i]! = false := fun i j h1 h2 h3 h4 => by
      have hlo' : ltK key d[mid + m - s]! d[s - 1]! = false := hlo.resolve_left (by omega)
      rw [← he] at hlo'
      have c1 : ltK key d[j]! d[e]! = false := by
        by_cases c : j = e
        · subst c; exact (swo_ltK (key := key)).irrefl _
        · exact r e j hme (by omega) h4
      have c2 : ltK key d[s - 1]! d[i]! = false := by
        by_cases c : i = s - 1
        · subst c; exact (swo_ltK (key := key)).irrefl _
        · exact l i (s - 1) h1 (by omega) (by omega)
      exact NT _ _ _ c1 (NT _ _ _ hlo' c2)
    have key2 : ∀ i j, s ≤ i → i < m → m ≤ j → j < e → ltK key d[i]! d[j]! = false := fun i j h1 h2 h3 h4 => by
      have hhi' : ltK key d[mid + m - 1 - s]! d[s]! = true := hhi.resolve_left (by omega)
      have e1 : mid + m - 1 - s = e - 1 := by omega
      rw [e1] at hhi'
      have c1 : ltK key d[e - 1]! d[j]! = false := by
        by_cases c : j = e - 1
        · subst c; exact (swo_ltK (key := key)).irrefl _
        · exact r j (e - 1) h3 (by omega) (by omega)
      have c2 : ltK key d[i]! d[s]! = false := by
        by_cases c : i = s
        · subst c; exact (swo_ltK (key := key)).irrefl _
        · exact l s i (by omega) (by omega) h2
      exact NT _ _ _ c2 (NT _ _ _ (ltK_as hhi') c1)
    intro p q hp hpm hq hqb
    by_cases c1 : p < s
    · rw [g1 p c1]
      by_cases c2 : q < e
      · rw [g3 q hq c2]; exact l _ _ hp (by omega) (by omega)
      · rw [g4 q (by omega)]; exact key1 _ _ hp c1 (by omega) hqb
    · rw [g2 p (by omega) hpm]
      by_cases c2 : q < e
      · rw [g3 q hq c2]; exact key2 _ _ (by omega) (by omega) (by omega) (by omega)
      · rw [g4 q (by omega)]; exact r _ _ (by omega) (by omega) hqb
/-- Two merged halves, all of the one ahead of all of the other. -/
theorem sym_join {a mid b : Nat} {d1 d2 d3 : Array Int} (ha : a ≤ mid) (hb : mid ≤ b) (hsz : b ≤ d1.size)
    (x : ∀ p q, a ≤ p → p < mid → mid ≤ q → q < b → ltK key d1[q]! d1[p]! = false) (h2 : Merged key a mid d1 d2) (h3 : Merged key mid b d2 d3) : Merged key a b d1 d3 := by
  have s2 : d2.size = d1.size := h2.1.1
  have s3 : d3.size = d2.size := h3.1.1
  refine ⟨permIn_trans _ _ _ _ _ (permIn_mono _ _ _ _ _ _ (Nat.le_refl a) hb hsz h2.1) (permIn_mono _ _ _ _ _ _ ha (Nat.le_refl b) (by omega) h3.1), ?_⟩
  have k1 : ∀ p q, a ≤ p → p < mid → mid ≤ q → q < b → ltK key d1[q]! d2[p]! = false := fun p q h1 h2' h3' h4 =>
    permIn_all d1 d2 a mid (fun z => ltK key d1[q]! z = false) (by omega) h2.1 (fun i hi hi' => x i q hi hi' h3' h4) p h1 h2'
  have k2 : ∀ p q, a ≤ p → p < mid → mid ≤ q → q < b → ltK key d3[q]! d3[p]! = false := fun p q h1 h2' h3' h4 => by
    rw [h3.1.2.1 p (Or.inl h2')]
    refine permIn_all d2 d3 mid b (fun z => ltK key z d2[p]! = false) (by omega) h3.1 (fun i hi hi' => ?_) q h3' h4
    rw [h2.1.2.1 i (Or.inr hi)]; exact k1 p i h1 h2' hi hi'
  intro p q hp hpq hq
  by_cases c1 : q < mid
  · rw [h3.1.2.1 p (Or.inl (by omega)), h3.1.2.1 q (Or.inl c1)]; exact h2.2 p q hp hpq c1
  · by_cases c2 : p < mid
    · exact k2 p q hp c2 (by omega) hq
    · exact h3.2 p q (by omega) hpq hq
theorem merged_none {a b : Nat} {d : Array Int} (h : SortedIn (ltK key) a b d) : Merged key a b d d := ⟨permIn_refl _ _ _, h⟩
theorem halves_move {a m b : Nat} {d d' : Array Int} (h : Halves key a m b d) (e : ∀ t, a ≤ t → t < b → d'[t]! = d[t]!) (hm : m ≤ b) (ha : a ≤ m) : Halves key a m b d' :=
  ⟨fun p q h1 h2 h3 => by rw [e p h1 (by omega), e q (by omega) (by omega)]; exact h.l p q h1 h2 h3,
    fun p q h1 h2 h3 => by rw [e p (by omega) (by omega), e q (by omega) h3]; exact h.r p q h1 h2 h3,
    fun p q h1 h2 h3 h4 => by rw [e p h1 (by omega), e q (by omega) h4]; exact h.x p q h1 h2 h3 h4⟩
end Go.Proofs.Ytmkmealgoafgdaa
