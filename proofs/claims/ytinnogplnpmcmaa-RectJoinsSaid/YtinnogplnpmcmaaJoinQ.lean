import Derived.Test.YtinnogplnpmcmaaMeetQ
/- What a join is: the least about all. -/
namespace Go.Proofs.Ytinnogplnpmcmaa
set_option linter.unusedVariables false
set_option linter.unusedSimpArgs false
set_option linter.unusedVariables false

structure IsJoin (qs : List Q) (J : Q) : Prop where
  about : ∀ q ∈ qs, J.x ≤ q.x ∧ J.y ≤ q.y ∧ q.x + q.a ≤ J.x + J.a ∧ q.y + q.b ≤ J.y + J.b
  left : ∃ q ∈ qs, q.x = J.x
  top : ∃ q ∈ qs, q.y = J.y
  right : ∃ q ∈ qs, q.x + q.a = J.x + J.a
  low : ∃ q ∈ qs, q.y + q.b = J.y + J.b
theorem IsJoin.one (q : Q) : IsJoin [q] q := ⟨fun p hp => by simp at hp; subst hp; omega, ⟨q, by simp, rfl⟩, ⟨q, by simp, rfl⟩, ⟨q, by simp, rfl⟩, ⟨q, by simp, rfl⟩⟩
theorem IsJoin.both {us vs : List Q} {p q : Q} (hp : IsJoin us p) (hq : IsJoin vs q) : IsJoin (us ++ vs) (ar p q) := by
  obtain ⟨a0, ⟨l, hl, el⟩, ⟨t, ht, et⟩, ⟨r, hr, er⟩, ⟨b, hb, eb⟩⟩ := hp
  obtain ⟨a0', ⟨l', hl', el'⟩, ⟨t', ht', et'⟩, ⟨r', hr', er'⟩, ⟨b', hb', eb'⟩⟩ := hq
  refine ⟨fun x hx => ?_, ?_, ?_, ?_, ?_⟩
  · simp only [ar]
    rcases List.mem_append.1 hx with h | h
    · have := a0 x h; omega
    · have := a0' x h; omega
  · rcases Int.le_total p.x q.x with h | h
    · exact ⟨l, by simp [hl], by simp only [ar]; omega⟩
    · exact ⟨l', by simp [hl'], by simp only [ar]; omega⟩
  · rcases Int.le_total p.y q.y with h | h
    · exact ⟨t, by simp [ht], by simp only [ar]; omega⟩
    · exact ⟨t', by simp [ht'], by simp only [ar]; omega⟩
  · rcases Int.le_total (p.x + p.a) (q.x + q.a) with h | h
    · exact ⟨r', by simp [hr'], by simp only [ar]; omega⟩
    · exact ⟨r, by simp [hr], by simp only [ar]; omega⟩
  · rcases Int.le_total (p.y + p.b) (q.y + q.b) with h | h
    · exact ⟨b', by simp [hb'], by simp only [ar]; omega⟩
    · exact ⟨b, by simp [hb], by simp only [ar]; omega⟩
theorem IsJoin.uniq {us vs : List Q} {p q : Q} (hp : IsJoin us p) (hq : IsJoin vs q) (h : ∀ x, x ∈ us ↔ x ∈ vs) : p = q := by
  obtain ⟨a0, ⟨l, hl, el⟩, ⟨t, ht, et⟩, ⟨r, hr, er⟩, ⟨b, hb, eb⟩⟩ := hp
  obtain ⟨a0', ⟨l', hl', el'⟩, ⟨t', ht', et'⟩, ⟨r', hr', er'⟩, ⟨b', hb', eb'⟩⟩ := hq
  have h1 := a0 l' ((h _).2 hl')
  have h2 := a0' l ((h _).1 hl)
  have h3 := a0 t' ((h _).2 ht')
  have h4 := a0' t ((h _).1 ht)
  have h5 := a0 r' ((h _).2 hr')
  have h6 := a0' r ((h _).1 hr)
  have h7 := a0 b' ((h _).2 hb')
  have h8 := a0' b ((h _).1 hb)
  obtain ⟨px, py, pa, pb⟩ := p
  obtain ⟨qx, qy, qa, qb⟩ := q
  simp only [Q.mk.injEq] at *
  omega
theorem joinQ_is : ∀ (qs : List Q), 0 < qs.length → IsJoin qs (joinQ qs)
  | [], h => by simp at h
  | q :: r, _ => by
    have key : ∀ (r : List Q) (us : List Q) (q : Q), IsJoin us q → IsJoin (us ++ r) (r.foldl ar q) := by
      intro r
      induction r with
      | nil => intro us q h; simpa using h
      | cons p r ih =>
        intro us q h
        have := ih (us ++ [p]) (ar q p) (h.both (IsJoin.one p))
        simpa using this
    have := key r [q] q (IsJoin.one q)
    simpa [joinQ] using this
/-- However it is parted. -/
theorem joinQ_parted (qs : List Q) (k : Nat) (hk : k < qs.length) : ar (joinQ (qs.take (k + 1))) (joinQ (qs.drop k ++ [qs[0]])) = joinQ qs := by
  refine IsJoin.uniq ((joinQ_is (qs.take (k + 1)) (by simp; omega)).both (joinQ_is (qs.drop k ++ [qs[0]]) (by simp))) (joinQ_is qs (by omega)) fun x => ?_
  constructor
  · intro h
    rcases List.mem_append.1 h with h | h
    · exact List.mem_of_mem_take h
    · rcases List.mem_append.1 h with h | h
      · exact List.mem_of_mem_drop h
      · simp at h; subst h; exact List.getElem_mem _
  · intro h
    rw [← List.take_append_drop k qs] at h
    rcases List.mem_append.1 h with h | h
    · refine List.mem_append_left _ ?_
      have e : qs.take k = (qs.take (k + 1)).take k := by rw [List.take_take, Nat.min_eq_left (by omega)]
      rw [e] at h
      exact List.mem_of_mem_take h
    · exact List.mem_append_right _ (List.mem_append_left _ h)
theorem meet_in (J q : Q) (h : J.x ≤ q.x ∧ J.y ≤ q.y ∧ q.x + q.a ≤ J.x + J.a ∧ q.y + q.b ≤ J.y + J.b) (h2 : 0 ≤ q.a ∧ 0 ≤ q.b) : meetB J q = true ∧ meetQ J q = q := by
  have e : meetB J q = true := by
    refine decide_eq_true ?_
    omega
  refine ⟨e, ?_⟩
  obtain ⟨qx, qy, qa, qb⟩ := q
  simp only [meetQ, e, if_true, Q.mk.injEq] at h h2 ⊢
  omega
def leftB (J : Q) (l : List Q) : Bool := l.any fun q => q.x == J.x
def topB' (J : Q) (l : List Q) : Bool := l.any fun q => q.y == J.y
def rightB (J : Q) (l : List Q) : Bool := l.any fun q => q.x + q.a == J.x + J.a
def lowB (J : Q) (l : List Q) : Bool := l.any fun q => q.y + q.b == J.y + J.b
theorem any_take_succ {α : Type} (f : α → Bool) (l : List α) (k : Nat) (h : k < l.length) : (l.take (k + 1)).any f = ((l.take k).any f || f l[k]) := by
  rw [List.take_succ_eq_append_getElem h, List.any_append]; simp
theorem all_sides {qs : List Q} {J : Q} (h : IsJoin qs J) : leftB J qs = true ∧ topB' J qs = true ∧ rightB J qs = true ∧ lowB J qs = true := by
  obtain ⟨_, ⟨l, hl, el⟩, ⟨t, ht, et⟩, ⟨r, hr, er⟩, ⟨b, hb, eb⟩⟩ := h
  exact ⟨List.any_eq_true.2 ⟨l, hl, by simpa using el⟩, List.any_eq_true.2 ⟨t, ht, by simpa using et⟩, List.any_eq_true.2 ⟨r, hr, by simpa using er⟩, List.any_eq_true.2 ⟨b, hb, by simpa using eb⟩⟩
end Go.Proofs.Ytinnogplnpmcmaa
