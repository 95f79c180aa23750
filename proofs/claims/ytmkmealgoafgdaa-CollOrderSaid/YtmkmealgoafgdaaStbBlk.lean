import Derived.Test.YtmkmealgoafgdaaStbStep
/- Parts of one length, put in order and merged two by two. No program is named here. -/
namespace Go.Proofs.Ytmkmealgoafgdaa
open Go Go.Sort
set_option linter.unusedVariables false
set_option linter.unusedSimpArgs false
variable {key : Int → Int}

theorem mul_next {p q k : Nat} (h : p * k < q * k + k) : p ≤ q := by
  have h1 : p * k < (q + 1) * k := by rw [Nat.succ_mul]; exact h
  have := Nat.lt_of_mul_lt_mul_right h1
  omega
theorem mul_room {p q : Nat} (k : Nat) (h : p < q) : p * k + k ≤ q * k := by
  have := Nat.mul_le_mul_right k (show p + 1 ≤ q by omega)
  rwa [Nat.succ_mul] at this
theorem permIn_out {a b lo hi : Nat} {d d' : Array Int} (h : PermIn a b d d') (hx : hi ≤ a ∨ b ≤ lo) : ∀ t, lo ≤ t → t < hi → d'[t]! = d[t]! := fun t h1 h2 => h.2.1 t (by omega)

/-- The first parts in order, the rest as it was laid. -/
structure Fst (key : Int → Int) (q n : Nat) (d : Array Int) : Prop where
  done : ∀ p, p < q → Blk key (p * 20) (p * 20 + 20) d
  rest : ∀ t, q * 20 ≤ t → t < n → d[t]! = (t : Int)
theorem Fst.step {q n : Nat} {d d' : Array Int} (h : Fst key q n d) (hn : q * 20 + 20 ≤ n) (hs : n ≤ d.size) (m : Merged key (q * 20) (q * 20 + 20) d d') : Fst key (q + 1) n d' :=
  ⟨fun p hp => by
    by_cases c : p = q
    · subst c
      exact blk_of m.1 m.2 (by omega) fun k h1 h2 => by have := h.rest k h1 (by omega); omega
    · exact blk_move (h.done p (by omega)) (permIn_out m.1 (.inl (by omega))), fun t h1 h2 => by rw [m.1.2.1 t (.inr (by omega))]; exact h.rest t (by omega) h2⟩
theorem Fst.fin {q n : Nat} {d d' : Array Int} (h : Fst key q n d) (hn : n < q * 20 + 20) (hq : q * 20 ≤ n) (hs : n ≤ d.size) (m : Merged key (q * 20) n d d') : Blks key 20 n d' := by
  intro p hp
  by_cases c : p = q
  · subst c
    rw [show min (p * 20 + 20) n = n by omega]
    exact blk_of m.1 m.2 hs fun k h1 h2 => by have := h.rest k h1 (by omega); omega
  · rw [show min (p * 20 + 20) n = p * 20 + 20 by omega]
    exact blk_move (h.done p (by omega)) (permIn_out m.1 (.inl (by omega)))

/-- Two by two merged up to A. -/
structure Mrg (key : Int → Int) (bs q A n : Nat) (d : Array Int) : Prop where
  at_ : A = q * (2 * bs)
  done : ∀ p, p < q → Blk key (p * (2 * bs)) (p * (2 * bs) + 2 * bs) d
  rest : ∀ p, q * 2 ≤ p → p * bs < n → Blk key (p * bs) (min (p * bs + bs) n) d
theorem Mrg.start {bs n : Nat} {d : Array Int} (h : Blks key bs n d) : Mrg key bs 0 0 n d := ⟨by omega, fun p hp => absurd hp (by omega), fun p _ h2 => h p h2⟩
theorem Mrg.one {bs q A n : Nat} {d : Array Int} (h : Mrg key bs q A n d) (hn : A < n) : Blk key A (min (A + bs) n) d := by
  have e : q * 2 * bs = A := by rw [h.at_, Nat.mul_assoc]
  have := h.rest (q * 2) (Nat.le_refl _) (by omega)
  rwa [e] at this
theorem Mrg.two {bs q A n : Nat} {d : Array Int} (h : Mrg key bs q A n d) (hn : A + bs < n) : Blk key (A + bs) (min (A + bs + bs) n) d := by
  have e : (q * 2 + 1) * bs = A + bs := by rw [Nat.succ_mul, h.at_, Nat.mul_assoc]
  have := h.rest (q * 2 + 1) (by omega) (by omega)
  rwa [e] at this
theorem Mrg.step {bs q A n : Nat} {d d' : Array Int} (h : Mrg key bs q A n d) (hb : 0 < bs) (hn : A + 2 * bs ≤ n) (hs : n ≤ d.size) (m : Merged key A (A + 2 * bs) d d') : Mrg key bs (q + 1) (A + 2 * bs) n d' := by
  have h1 := h.one (by omega)
  have h2 := h.two (by omega)
  rw [show min (A + bs) n = A + bs by omega] at h1
  rw [show min (A + bs + bs) n = A + 2 * bs by omega] at h2
  have hm := blk_merge h1 h2 (by omega) (by omega) (by omega) m
  refine ⟨by rw [show (q + 1) * (2 * bs) = q * (2 * bs) + 2 * bs from Nat.succ_mul q (2 * bs), ← h.at_], fun p hp => ?_, fun p hp hp2 => ?_⟩
  · by_cases c : p = q
    · subst c; rw [← h.at_]; exact hm
    · have hr := mul_room (2 * bs) (show p < q by omega)
      rw [← h.at_] at hr
      exact blk_move (h.done p (by omega)) (permIn_out m.1 (.inl (by omega)))
  · have hr := Nat.mul_le_mul_right bs hp
    have e : (q + 1) * 2 * bs = A + 2 * bs := by rw [Nat.mul_assoc, show (q + 1) * (2 * bs) = q * (2 * bs) + 2 * bs from Nat.succ_mul q (2 * bs), ← h.at_]
    rw [e] at hr
    exact blk_move (h.rest p (by omega) hp2) (permIn_out m.1 (.inr (by omega)))
theorem Mrg.fin {bs q A n : Nat} {d d' : Array Int} (h : Mrg key bs q A n d) (hb : 0 < bs) (hn : n < A + 2 * bs) (hq : A ≤ n) (hs : n ≤ d.size) (m : A + bs < n → Merged key A n d d') (m' : n ≤ A + bs → d' = d) : Blks key (2 * bs) n d' := by
  intro p hp
  have hpq : p ≤ q := mul_next (k := 2 * bs) (by rw [← h.at_]; omega)
  by_cases c1 : A + bs < n
  · have m := m c1
    by_cases c : p = q
    · subst c
      rw [← h.at_, show min (A + 2 * bs) n = n by omega]
      have h1 := h.one (by omega)
      have h2 := h.two (by omega)
      rw [show min (A + bs) n = A + bs by omega] at h1
      rw [show min (A + bs + bs) n = n by omega] at h2
      exact blk_merge h1 h2 (by omega) (by omega) hs m
    · have hr := mul_room (2 * bs) (show p < q by omega)
      rw [← h.at_] at hr
      rw [show min (p * (2 * bs) + 2 * bs) n = p * (2 * bs) + 2 * bs by omega]
      exact blk_move (h.done p (by omega)) (permIn_out m.1 (.inl (by omega)))
  · have m' := m' (by omega)
    subst m'
    by_cases c : p = q
    · subst c
      rw [← h.at_] at hp ⊢
      rw [show min (A + 2 * bs) n = n by omega]
      have h1 := h.one hp
      rwa [show min (A + bs) n = n by omega] at h1
    · have hr := mul_room (2 * bs) (show p < q by omega)
      rw [← h.at_] at hr
      rw [show min (p * (2 * bs) + 2 * bs) n = p * (2 * bs) + 2 * bs by omega]
      exact h.done p (by omega)
end Go.Proofs.Ytmkmealgoafgdaa
