import Derived.Test.YtmlnpphblicghaaRowNumQ
/- Lines are placed: what holds of all pieces. No program is named here. -/
namespace Go.Proofs.Ytmlnpphblicghaa
open Go Go.RowKit
set_option linter.unusedVariables false
set_option linter.unusedSimpArgs false

theorem sumT_add (g : List Gl) (i : Nat) : ∀ (n j k : Nat), k - j = n → i ≤ j → j ≤ k → k ≤ g.length → sumT g i j + sumT g j k = sumT g i k
  | 0, j, k, hn, h1, h2, h3 => by rw [show j = k by omega, sumT_self]; omega
  | n + 1, j, k, hn, h1, h2, h3 => by
    obtain ⟨q, rfl⟩ : ∃ q, k = q + 1 := ⟨k - 1, by omega⟩
    have h := sumT_add g i n j q (by omega) h1 (by omega) (by omega)
    rw [sumT_succ g j q (by omega) (by omega), sumT_succ g i q (by omega) (by omega)]
    omega
theorem sumT_pos {g : List Gl} (hg : Adv0 g) (i k : Nat) : 0 ≤ sumT g i k := sumA_nonneg _ ((hg.drop i).take (k - i))
/-- A line's pieces, one by one. -/
structure InLine (g : List Gl) (base : Int) (ln to_ i : Nat) (x : Int) (v : Iv) : Prop where
  lo : i ≤ v.lo
  lt : v.lo < v.hi
  hi : v.hi ≤ to_
  ln : v.ln = ln
  base : v.base = base
  x : v.x = x + sumT g i v.lo
  one : ∀ k, v.lo ≤ k → k < v.hi → rnG g k = rnG g v.lo
theorem ivI_mem (g : List Gl) (base : Int) (ln to_ : Nat) (ht : to_ ≤ g.length) : ∀ (n i : Nat) (x : Int), to_ - i ≤ n → ∀ v ∈ ivI g base ln to_ i x, InLine g base ln to_ i x v
  | 0, i, x, hn, v, hv => by rw [ivI_end g base ln to_ i x (by omega)] at hv; simp at hv
  | n + 1, i, x, hn, v, hv => by
    rcases Nat.lt_or_ge i to_ with h | h
    · obtain ⟨e1, e2, e3, e4⟩ := grpE_spec g i to_ h ht
      rw [ivI_step g base ln to_ i x h ht, List.mem_cons] at hv
      rcases hv with rfl | hv
      · exact ⟨Nat.le_refl _, e1, e2, rfl, rfl, by show x = x + sumT g i i; rw [sumT_self]; omega, e3⟩
      · have := ivI_mem g base ln to_ ht n _ _ (by omega) v hv
        refine ⟨by have := this.lo; omega, this.lt, this.hi, this.ln, this.base, ?_, this.one⟩
        have h1 := this.lo
        have h2 := this.lt
        have h3 := this.hi
        rw [this.x, ← sumT_add g i _ (grpE g i to_) v.lo rfl (by omega) h1 (by omega)]
        omega
    · rw [ivI_end g base ln to_ i x h] at hv; simp at hv
/-- Neighbours. -/
def adj {α : Type} (R : α → α → Prop) : List α → Prop
  | [] => True
  | [_] => True
  | a :: b :: l => R a b ∧ adj R (b :: l)
theorem adj_get {α : Type} {R : α → α → Prop} : ∀ (l : List α) (h : adj R l) (k : Nat) (hk : k + 1 < l.length), R l[k] l[k + 1]
  | a :: b :: l, h, 0, hk => h.1
  | a :: b :: l, h, k + 1, hk => adj_get (b :: l) h.2 k (by simpa using hk)
theorem adj_cons {α : Type} {R : α → α → Prop} (a : α) : ∀ (l : List α), adj R l → (∀ b ∈ l.head?, R a b) → adj R (a :: l)
  | [], h, hb => trivial
  | b :: l, h, hb => ⟨hb b rfl, h⟩
theorem adj_append {α : Type} {R : α → α → Prop} : ∀ (a b : List α), adj R a → adj R b → (∀ x ∈ a, ∀ y ∈ b, R x y) → adj R (a ++ b)
  | [], b, ha, hb, h => hb
  | [x], b, ha, hb, h => adj_cons x b hb (fun y hy => h x (by simp) y (List.mem_of_head? hy))
  | x :: y :: a, b, ha, hb, h => ⟨ha.1, adj_append (y :: a) b ha.2 hb (fun z hz => h z (by simp [List.mem_cons.1 hz]))⟩
/-- Side by side in a line, or a line further down. -/
def Beside2 (g : List Gl) (v w : Iv) : Prop :=
  (w.ln = v.ln ∧ w.lo = v.hi ∧ w.base = v.base ∧ w.x = v.x + sumT g v.lo v.hi) ∨ (v.ln < w.ln ∧ v.hi < w.lo ∧ v.base ≤ w.base)
theorem ivI_head (g : List Gl) (base : Int) (ln to_ i : Nat) (x : Int) (ht : to_ ≤ g.length) : ∀ v ∈ (ivI g base ln to_ i x).head?, v.lo = i ∧ v.x = x ∧ v.base = base ∧ v.ln = ln := by
  intro v hv
  rcases Nat.lt_or_ge i to_ with h | h
  · rw [ivI_step g base ln to_ i x h ht] at hv
    simp at hv
    subst hv
    exact ⟨rfl, rfl, rfl, rfl⟩
  · rw [ivI_end g base ln to_ i x h] at hv; simp at hv
theorem ivI_adj (g : List Gl) (base : Int) (ln to_ : Nat) (ht : to_ ≤ g.length) : ∀ (n i : Nat) (x : Int), to_ - i ≤ n → adj (Beside2 g) (ivI g base ln to_ i x)
  | 0, i, x, hn => by rw [ivI_end g base ln to_ i x (by omega)]; trivial
  | n + 1, i, x, hn => by
    rcases Nat.lt_or_ge i to_ with h | h
    · obtain ⟨e1, e2, e3, e4⟩ := grpE_spec g i to_ h ht
      rw [ivI_step g base ln to_ i x h ht]
      refine adj_cons _ _ (ivI_adj g base ln to_ ht n _ _ (by omega)) fun b hb => ?_
      obtain ⟨h1, h2, h3, h4⟩ := ivI_head g base ln to_ _ _ ht b hb
      exact .inl ⟨h4, h1, h3, h2⟩
    · rw [ivI_end g base ln to_ i x h]; trivial
/-- What holds of a piece of lines that begin at glyph i: line n at y, all of it ends at H. -/
structure InPlace (rs : List Rn) (g : List Gl) (avail strut align : Int) (i n : Nat) (y H : Int) (v : Iv) : Prop where
  mk' ::
  line : ∃ (s t : Nat) (w y0 : Int), s < g.length ∧ LineAt avail g s t w ∧ t ≤ g.length ∧ i ≤ s ∧ InLine g (y0 + upI rs g (upZ strut) s t) v.ln t s (startX avail w align) v ∧ y ≤ y0 ∧ y + ((v.ln : Int) - n) * strut ≤ y0 ∧ y0 + upI rs g (upZ strut) s t + dnI rs g (strut - upZ strut) s t ≤ H
  ln : n ≤ v.ln
section
variable (rs : List Rn) (g : List Gl) (avail strut align : Int)
theorem place_step (i n : Nat) (y : Int) (h : i < g.length) : ∃ (t : Nat) (w : Int), LineAt avail g i t w ∧ i ≤ t ∧ t ≤ g.length ∧ linesI avail g i = ⟨i, t, w⟩ :: linesI avail g (t + 1) ∧
    placeL rs g avail strut align n y (linesI avail g i) = (ivI g (y + upI rs g (upZ strut) i t) n t i (startX avail w align) ++ (placeL rs g avail strut align (n + 1) (y + upI rs g (upZ strut) i t + dnI rs g (strut - upZ strut) i t) (linesI avail g (t + 1))).1,
      (placeL rs g avail strut align (n + 1) (y + upI rs g (upZ strut) i t + dnI rs g (strut - upZ strut) i t) (linesI avail g (t + 1))).2) := by
  have h1 := lineAt avail g i
  rw [linesI_step avail g i h]
  generalize endL avail (g.drop i) i 0 none = p at *
  obtain ⟨t, w⟩ := p
  exact ⟨t, w, h1, h1.le, h1.len h, rfl, rfl⟩
theorem place_end (i n : Nat) (y : Int) (h : g.length ≤ i) : placeL rs g avail strut align n y (linesI avail g i) = ([], y) := by rw [linesI_end avail g i h]; rfl
theorem strut_two (hs : 0 ≤ strut) (s t : Nat) : 0 ≤ upI rs g (upZ strut) s t ∧ 0 ≤ dnI rs g (strut - upZ strut) s t ∧ strut ≤ upI rs g (upZ strut) s t + dnI rs g (strut - upZ strut) s t := by
  have h1 := (upI_max rs g (upZ strut) s t).1
  have h2 := (dnI_max rs g (strut - upZ strut) s t).1
  have h3 := upZ_bd strut hs
  omega
theorem place_high (hs : 0 ≤ strut) : ∀ (f i n : Nat) (y : Int), g.length - i ≤ f → y + (linesI avail g i).length * strut ≤ (placeL rs g avail strut align n y (linesI avail g i)).2
  | 0, i, n, y, hf => by rw [place_end rs g avail strut align i n y (by omega), linesI_end avail g i (by omega)]; simp
  | f + 1, i, n, y, hf => by
    rcases Nat.lt_or_ge i g.length with h | h
    · obtain ⟨t, w, hl, h1, h2, h3, h4⟩ := place_step rs g avail strut align i n y h
      rw [h4, h3]
      have := place_high hs f (t + 1) (n + 1) (y + upI rs g (upZ strut) i t + dnI rs g (strut - upZ strut) i t) (by omega)
      have h5 := strut_two rs g strut hs i t
      rw [List.length_cons]
      have e : ((((linesI avail g (t + 1)).length + 1 : Nat) : Int)) * strut = ((linesI avail g (t + 1)).length : Int) * strut + strut := by rw [Int.natCast_add, Int.add_mul]; simp
      rw [e]
      simp only
      omega
    · rw [place_end rs g avail strut align i n y h, linesI_end avail g i h]; simp
theorem place_mem (hs : 0 ≤ strut) : ∀ (f i n : Nat) (y : Int), g.length - i ≤ f → ∀ v ∈ (placeL rs g avail strut align n y (linesI avail g i)).1, InPlace rs g avail strut align i n y (placeL rs g avail strut align n y (linesI avail g i)).2 v ∧ v.ln < n + (linesI avail g i).length
  | 0, i, n, y, hf, v, hv => by rw [place_end rs g avail strut align i n y (by omega)] at hv; simp at hv
  | f + 1, i, n, y, hf, v, hv => by
    rcases Nat.lt_or_ge i g.length with h | h
    · obtain ⟨t, w, hl, h1, h2, h3, h4⟩ := place_step rs g avail strut align i n y h
      have h5 := strut_two rs g strut hs i t
      have h6 := place_high rs g avail strut align hs g.length (t + 1) (n + 1) (y + upI rs g (upZ strut) i t + dnI rs g (strut - upZ strut) i t) (by omega)
      have h7 : 0 ≤ ((linesI avail g (t + 1)).length : Int) * strut := Int.mul_nonneg (by omega) hs
      rw [h4] at hv ⊢
      rw [h3]
      simp only [List.mem_append, List.length_cons] at hv ⊢
      rcases hv with hv | hv
      · have h8 := ivI_mem g _ n t h2 t i _ (by omega) v hv
        have h9 := h8.ln
        refine ⟨⟨⟨i, t, w, y, h, hl, h2, Nat.le_refl _, by rw [h9]; exact h8, Int.le_refl _, by rw [h9, Int.sub_self, Int.zero_mul]; omega, by omega⟩, by omega⟩, by omega⟩
      · obtain ⟨⟨⟨s, t', w', y0, q1, q2, q3, q4, q5, q6, q7, q8⟩, q9⟩, q10⟩ := place_mem hs f (t + 1) (n + 1) _ (by omega) v hv
        refine ⟨⟨⟨s, t', w', y0, q1, q2, q3, by omega, q5, by omega, ?_, q8⟩, by omega⟩, by omega⟩
        have e : ((v.ln : Int) - n) * strut = ((v.ln : Int) - (n + 1 : Nat)) * strut + strut := by rw [show (v.ln : Int) - n = ((v.ln : Int) - (n + 1 : Nat)) + 1 by omega, Int.add_mul, Int.one_mul]
        rw [e]
        omega
    · rw [place_end rs g avail strut align i n y h] at hv; simp at hv
theorem place_adj (hs : 0 ≤ strut) : ∀ (f i n : Nat) (y : Int), g.length - i ≤ f → adj (Beside2 g) (placeL rs g avail strut align n y (linesI avail g i)).1
  | 0, i, n, y, hf => by rw [place_end rs g avail strut align i n y (by omega)]; trivial
  | f + 1, i, n, y, hf => by
    rcases Nat.lt_or_ge i g.length with h | h
    · obtain ⟨t, w, hl, h1, h2, h3, h4⟩ := place_step rs g avail strut align i n y h
      have h5 := strut_two rs g strut hs i t
      rw [h4]
      refine adj_append _ _ (ivI_adj g _ n t h2 t i _ (by omega)) (place_adj hs f (t + 1) (n + 1) _ (by omega)) fun a ha b hb => .inr ?_
      have k1 := ivI_mem g _ n t h2 t i _ (by omega) a ha
      obtain ⟨⟨⟨s, t', w', y0, q1, q2, q3, q4, q5, q6, q7, q8⟩, q9⟩, q10⟩ := place_mem rs g avail strut align hs g.length (t + 1) (n + 1) _ (by omega) b hb
      have h6 := strut_two rs g strut hs s t'
      have k2 := k1.ln
      have k3 := k1.hi
      have k4 := q5.lo
      have k5 := k1.base
      have k6 := q5.base
      refine ⟨by omega, by omega, by omega⟩
    · rw [place_end rs g avail strut align i n y h]; trivial
end
end Go.Proofs.Ytmlnpphblicghaa
