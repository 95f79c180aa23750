import Derived.Test.YtmlnpphblicghaaRowLawQ
import Derived.Test.YtmlnpphblicghaaZQ
/- Lines are placed: where lines end to the right; which glyphs a piece has; within what room. No program is named here. -/
namespace Go.Proofs.Ytmlnpphblicghaa
open Go Go.RowKit
set_option linter.unusedVariables false
set_option linter.unusedSimpArgs false

section
variable (rs : List Rn) (g : List Gl) (avail strut align : Int)
theorem ivI_last (base : Int) (ln to_ : Nat) (ht : to_ ≤ g.length) : ∀ (n i : Nat) (x : Int), to_ - i ≤ n → i < to_ → ∃ u ∈ ivI g base ln to_ i x, u.hi = to_
  | 0, i, x, hn, h => by omega
  | n + 1, i, x, hn, h => by
    obtain ⟨e1, e2, e3, e4⟩ := grpE_spec g i to_ h ht
    rw [ivI_step g base ln to_ i x h ht]
    rcases Nat.lt_or_ge (grpE g i to_) to_ with h2 | h2
    · obtain ⟨u, hu, hh⟩ := ivI_last base ln to_ ht n _ (x + sumT g i (grpE g i to_)) (by omega) h2
      exact ⟨u, List.mem_cons_of_mem _ hu, hh⟩
    · exact ⟨_, List.mem_cons_self, by show grpE g i to_ = to_; omega⟩
theorem ivI_cover (base : Int) (ln to_ : Nat) (ht : to_ ≤ g.length) : ∀ (n i : Nat) (x : Int), to_ - i ≤ n → ∀ k, i ≤ k → k < to_ → ∃ u ∈ ivI g base ln to_ i x, u.lo ≤ k ∧ k < u.hi
  | 0, i, x, hn, k, h1, h2 => by omega
  | n + 1, i, x, hn, k, h1, h2 => by
    obtain ⟨e1, e2, e3, e4⟩ := grpE_spec g i to_ (by omega) ht
    rw [ivI_step g base ln to_ i x (by omega) ht]
    rcases Nat.lt_or_ge k (grpE g i to_) with h3 | h3
    · exact ⟨_, List.mem_cons_self, h1, h3⟩
    · obtain ⟨u, hu, hh⟩ := ivI_cover base ln to_ ht n _ (x + sumT g i (grpE g i to_)) (by omega) k h3 h2
      exact ⟨u, List.mem_cons_of_mem _ hu, hh⟩
theorem place_ln : ∀ (f i n : Nat) (y : Int), g.length - i ≤ f → ∀ v ∈ (placeL rs g avail strut align n y (linesI avail g i)).1, n ≤ v.ln
  | 0, i, n, y, hf, v, hv => by rw [place_end rs g avail strut align i n y (by omega)] at hv; simp at hv
  | f + 1, i, n, y, hf, v, hv => by
    rcases Nat.lt_or_ge i g.length with hi | hi
    · obtain ⟨t, w, hL, q1, q2, q3, q4⟩ := place_step rs g avail strut align i n y hi
      rw [q4] at hv
      simp only [List.mem_append] at hv
      rcases hv with hv | hv
      · have := (ivI_mem g _ n t q2 t i _ (by omega) v hv).ln; omega
      · have := place_ln f (t + 1) (n + 1) _ (by omega) v hv; omega
    · rw [place_end rs g avail strut align i n y hi] at hv; simp at hv
/-- Where a line ends, aligned to the left: no piece goes further than it is wide, one goes as far. -/
theorem place_ends (hg : Adv0 g) : ∀ (f i n : Nat) (y : Int), g.length - i ≤ f → ∀ v ∈ (placeL rs g avail strut 0 n y (linesI avail g i)).1,
    v.x + sumT g v.lo v.hi ≤ wdL (linesI avail g i) (v.ln - n) ∧ 0 ≤ v.x ∧ ∃ u ∈ (placeL rs g avail strut 0 n y (linesI avail g i)).1, u.ln = v.ln ∧ u.x + sumT g u.lo u.hi = wdL (linesI avail g i) (v.ln - n)
  | 0, i, n, y, hf, v, hv => by rw [place_end rs g avail strut 0 i n y (by omega)] at hv; simp at hv
  | f + 1, i, n, y, hf, v, hv => by
    rcases Nat.lt_or_ge i g.length with hi | hi
    · obtain ⟨t, w, hL, q1, q2, q3, q4⟩ := place_step rs g avail strut 0 i n y hi
      have e0 : startX avail w 0 = 0 := by simp [startX]
      rw [q4] at hv ⊢
      rw [q3]
      simp only [List.mem_append] at hv ⊢
      rcases hv with hv | hv
      · have k := ivI_mem g _ n t q2 t i _ (by omega) v hv
        have k1 := k.lo
        have k2 := k.lt
        have k3 := k.hi
        have hw := hL.sum
        have key : ∀ u, InLine g (y + upI rs g (upZ strut) i t) n t i (startX avail w 0) u → u.x + sumT g u.lo u.hi = sumT g i u.hi := fun u hu => by
          have h1 := hu.lo
          have h2 := hu.lt
          have h3 := hu.hi
          rw [hu.x, e0, ← sumT_add g i _ u.lo u.hi rfl h1 (by omega) (by omega)]
          omega
        rw [k.ln, Nat.sub_self, wdL_zero]
        refine ⟨?_, by rw [k.x, e0]; have := sumT_pos hg i v.lo; omega, ?_⟩
        · rw [key v k]
          show sumT g i v.hi ≤ w
          rw [hw, ← sumT_add g i _ v.hi t rfl (by omega) k3 q2]
          have := sumT_pos hg v.hi t
          omega
        · obtain ⟨u, hu, hh⟩ := ivI_last g (y + upI rs g (upZ strut) i t) n t q2 t i (startX avail w 0) (by omega) (by omega)
          have ku := ivI_mem g _ n t q2 t i _ (by omega) u hu
          exact ⟨u, .inl hu, ku.ln, by rw [key u ku, hh]; exact hw.symm⟩
      · have h3 := place_ln rs g avail strut 0 g.length (t + 1) (n + 1) _ (by omega) v hv
        obtain ⟨k1, k2, u, hu, hul, huw⟩ := place_ends hg f (t + 1) (n + 1) _ (by omega) v hv
        rw [show v.ln - n = (v.ln - (n + 1)) + 1 by omega, wdL_succ]
        exact ⟨k1, k2, u, .inr hu, hul, huw⟩
    · rw [place_end rs g avail strut 0 i n y hi] at hv; simp at hv
/-- A glyph that is in no piece ends a line. -/
theorem place_cover : ∀ (f i n : Nat) (y : Int), g.length - i ≤ f → ∀ k, i ≤ k → k < g.length → (∃ u ∈ (placeL rs g avail strut align n y (linesI avail g i)).1, u.lo ≤ k ∧ k < u.hi) ∨ kd g k = 2 ∨ kd g k = 4
  | 0, i, n, y, hf, k, h1, h2 => by omega
  | f + 1, i, n, y, hf, k, h1, h2 => by
    obtain ⟨t, w, hL, q1, q2, q3, q4⟩ := place_step rs g avail strut align i n y (by omega)
    rw [q4]
    simp only [List.mem_append]
    rcases Nat.lt_trichotomy k t with h | h | h
    · obtain ⟨u, hu, hh⟩ := ivI_cover g (y + upI rs g (upZ strut) i t) n t q2 t i (startX avail w align) (by omega) k h1 h
      exact .inl ⟨u, .inl hu, hh⟩
    · rw [h]; exact .inr hL.ends
    · rcases place_cover f (t + 1) (n + 1) (y + upI rs g (upZ strut) i t + dnI rs g (strut - upZ strut) i t) (by omega) k (by omega) h2 with ⟨u, hu, hh⟩ | hk
      · exact .inl ⟨u, .inr hu, hh⟩
      · exact .inr hk
end
/- As many glyphs as pieces have. -/
def covB (T : List Iv) (k : Nat) : Bool := T.any fun v => decide (v.lo ≤ k) && decide (k < v.hi)
def cntV (T : List Iv) (k : Nat) : Int := (T.map fun v => (min k v.hi : Int) - min k v.lo).sum
def Apart2 (T : List Iv) : Prop := T.Pairwise fun v w => v.hi ≤ w.lo
theorem cov_none {T : List Iv} {k : Nat} (h : ∀ w ∈ T, k < w.lo) : covB T k = false := by
  unfold covB
  rw [List.any_eq_false]
  intro v hv
  have := h v hv
  simp; omega
theorem cntV_step : ∀ (T : List Iv) (k : Nat), Apart2 T → (∀ v ∈ T, v.lo < v.hi) → cntV T (k + 1) = cntV T k + if covB T k then 1 else 0
  | [], k, h, hl => by simp [cntV, covB]
  | v :: T, k, h, hl => by
    have hp := List.pairwise_cons.1 h
    have ih := cntV_step T k hp.2 (fun w hw => hl w (by simp [hw]))
    have hv := hl v (by simp)
    have e1 : ∀ q, cntV (v :: T) q = ((min q v.hi : Int) - min q v.lo) + cntV T q := fun q => by simp [cntV]
    have e2 : covB (v :: T) k = ((decide (v.lo ≤ k) && decide (k < v.hi)) || covB T k) := by simp [covB]
    rw [e1, e1, ih, e2]
    by_cases h1 : v.lo ≤ k
    · by_cases h2 : k < v.hi
      · have h3 : covB T k = false := cov_none fun w hw => by have := hp.1 w hw; omega
        rw [h3]
        simp [h1, h2]
        omega
      · simp [h2]
        split <;> omega
    · have h3 : covB T k = false := cov_none fun w hw => by have := hp.1 w hw; omega
      rw [h3]
      simp [h1]
      omega
theorem cntV_zero (T : List Iv) : cntV T 0 = 0 := by
  unfold cntV
  induction T with
  | nil => rfl
  | cons v T ih => simp only [List.map_cons, List.sum_cons, ih]; omega
theorem cntV_all (T : List Iv) (k : Nat) (h : ∀ v ∈ T, v.lo ≤ k ∧ v.hi ≤ k) : cntV T k = (T.map fun v => (v.hi : Int) - v.lo).sum := by
  unfold cntV
  congr 1
  refine List.map_congr_left fun v hv => ?_
  have := h v hv
  omega
theorem adj_pair : ∀ (T : List Iv), adj (fun v w => v.hi ≤ w.lo) T → (∀ v ∈ T, v.lo < v.hi) → Apart2 T
  | [], h, hl => List.Pairwise.nil
  | [v], h, hl => List.pairwise_singleton _ _
  | v :: w :: T, h, hl => by
    have ih := adj_pair (w :: T) h.2 (fun u hu => hl u (by simp [List.mem_cons.1 hu]))
    refine List.pairwise_cons.2 ⟨fun u hu => ?_, ih⟩
    rcases List.mem_cons.1 hu with rfl | hu
    · exact h.1
    · have h1 := (List.pairwise_cons.1 ih).1 u hu
      have h2 := hl w (by simp)
      have h3 : v.hi ≤ w.lo := h.1
      omega
theorem adj_imp {α : Type} {R S : α → α → Prop} (hRS : ∀ a b, R a b → S a b) : ∀ (l : List α), adj R l → adj S l
  | [], h => trivial
  | [_], h => trivial
  | a :: b :: l, h => ⟨hRS a b h.1, adj_imp hRS (b :: l) h.2⟩
/- Which glyphs are of a piece, by run and place. -/
theorem ahead_trans {a b c : Gl} (h : Ahead a b) (k : Ahead b c) : Ahead a c := by unfold Ahead at *; omega
theorem ahead_far {g : List Gl} (ho : ∀ (i : Nat) (h : i + 1 < g.length), Ahead g[i] g[i + 1]) : ∀ (n i j : Nat) (hi : i < g.length) (hj : j < g.length), j = i + 1 + n → Ahead g[i] g[j]
  | 0, i, j, hi, hj, hn => by subst hn; exact ho i hj
  | n + 1, i, j, hi, hj, hn => by
    have h1 := ahead_far ho n i (j - 1) hi (by omega) (by omega)
    have h2 := ho (j - 1) (by omega)
    simp only [show j - 1 + 1 = j by omega] at h2
    exact ahead_trans h1 h2
theorem inPiece {g : List Gl} (ho : ∀ (i : Nat) (h : i + 1 < g.length), Ahead g[i] g[i + 1]) {lo hi k : Nat} (h1 : lo < hi) (h2 : hi ≤ g.length) (hk : k < g.length) (hone : ∀ j, lo ≤ j → j < hi → rnG g j = rnG g lo) :
    (g[k].run = rnG g lo ∧ atG g lo ≤ g[k].at_ ∧ g[k].at_ < atG g (hi - 1) + 1) ↔ (lo ≤ k ∧ k < hi) := by
  rw [rnG_at g lo (by omega), atG_at g lo (by omega), atG_at g (hi - 1) (by omega)]
  have hl := hone (hi - 1) (by omega) (by omega)
  rw [rnG_at g lo (by omega), rnG_at g (hi - 1) (by omega)] at hl
  constructor
  · rintro ⟨e1, e2, e3⟩
    refine ⟨?_, ?_⟩
    · rcases Nat.lt_or_ge k lo with h | h
      · have := ahead_far ho (lo - k - 1) k lo hk (by omega) (by omega)
        unfold Ahead at this; omega
      · exact h
    · rcases Nat.lt_or_ge k hi with h | h
      · exact h
      · have := ahead_far ho (k - (hi - 1) - 1) (hi - 1) k (by omega) hk (by omega)
        unfold Ahead at this; omega
  · rintro ⟨e1, e2⟩
    have hr := hone k e1 e2
    rw [rnG_at g lo (by omega), rnG_at g k hk] at hr
    refine ⟨hr, ?_, ?_⟩
    · rcases Nat.eq_or_lt_of_le e1 with h | h
      · subst h; exact Int.le_refl _
      · have := ahead_far ho (k - lo - 1) lo k (by omega) hk (by omega)
        unfold Ahead at this; omega
    · rcases Nat.eq_or_lt_of_le (show k ≤ hi - 1 by omega) with h | h
      · subst h; omega
      · have := ahead_far ho (hi - 1 - k - 1) k (hi - 1) hk (by omega) (by omega)
        unfold Ahead at this; omega
/- Within what room. -/
theorem startX_bd {avail w : Int} (align : Int) (h : w ≤ avail) : 0 ≤ startX avail w align ∧ startX avail w align + w ≤ avail := by
  unfold startX
  split
  · omega
  · split <;> omega
theorem place_stands (rs : List Rn) (g : List Gl) (avail strut align : Int) (hg : Adv0 g) (hs : 0 ≤ strut) (ha : leastL g ≤ avail) (n : Nat) (y : Int) (v : Iv) (hv : v ∈ (placeL rs g avail strut align n y (linesI avail g 0)).1) :
    v.lo < v.hi ∧ v.hi ≤ g.length ∧ 0 ≤ v.x ∧ v.x + sumT g v.lo v.hi ≤ avail ∧ y ≤ v.base - upZ (hRun rs (rnG g v.lo)) ∧ v.base - upZ (hRun rs (rnG g v.lo)) + hRun rs (rnG g v.lo) ≤ (placeL rs g avail strut align n y (linesI avail g 0)).2 := by
  obtain ⟨⟨⟨s, t, w, y0, q1, q2, q3, q4, q5, q6, q7, q8⟩, q9⟩, q10⟩ := place_mem rs g avail strut align hs g.length 0 n y (by omega) v hv
  have h1 := q5.lo
  have h2 := q5.lt
  have h3 := q5.hi
  have hw : w ≤ avail := by
    rcases q2.fits with h | h
    · exact h
    · have := leastL_part hg s t q2.le q3 (fun q h4 h5 => ⟨q2.noBreak q h4 h5, h q h4 h5⟩)
      rw [q2.sum]; omega
  obtain ⟨b1, b2⟩ := startX_bd align hw
  have h4 := sumT_pos hg s v.lo
  have h5 := sumT_pos hg v.hi t
  have h6 := sumT_add g s _ v.lo v.hi rfl h1 (by omega) (by omega)
  have h7 := sumT_add g s _ v.hi t rfl (by omega) h3 q3
  have h8 := q2.sum
  have h9 := q5.x
  have k1 := (upI_max rs g (upZ strut) s t).2.1 v.lo (by omega) h1 (by omega)
  have k2 := (dnI_max rs g (strut - upZ strut) s t).2.1 v.lo (by omega) h1 (by omega)
  rw [← rnG_at g v.lo (by omega)] at k1 k2
  have k3 := q5.base
  refine ⟨h2, by omega, by omega, by omega, by omega, by omega⟩
end Go.Proofs.Ytmlnpphblicghaa
