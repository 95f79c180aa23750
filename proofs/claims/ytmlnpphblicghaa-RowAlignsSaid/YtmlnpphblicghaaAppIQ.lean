import Derived.Test.YtmlnpphblicghaaPlaceNumQ
/- A line's pieces, glyph by glyph. No program is named here. -/
namespace Go.Proofs.Ytmlnpphblicghaa
open Go Go.RowKit
set_option linter.unusedVariables false
set_option linter.unusedSimpArgs false

/-- Behind k glyphs: the pieces till here, the last of them begun at i. -/
def AppI (rs : List Rn) (p : List Gl) (k : Nat) (cur : List Pc) : Prop :=
  (k = 0 ∧ cur = []) ∨ ∃ (i : Nat) (done : List Pc), i < k ∧ k ≤ p.length ∧ (∀ j, i ≤ j → j < k → rnG p j = rnG p i) ∧ cur = done ++ [rawOf rs p ⟨i, k, 0, sumT p 0 i, 0⟩] ∧ done ++ (ivI p 0 0 p.length i (sumT p 0 i)).map (rawOf rs p) = rawL rs p
def grown (q : Pc) (a v : Int) : Pc := { q with to_ := a + 1, w := q.w + v }
section
variable {rs : List Rn} {p : List Gl} {k : Nat} {cur : List Pc}
theorem AppI.close (h : ∃ (i : Nat) (done : List Pc), i < k ∧ k ≤ p.length ∧ (∀ j, i ≤ j → j < k → rnG p j = rnG p i) ∧ cur = done ++ [rawOf rs p ⟨i, k, 0, sumT p 0 i, 0⟩] ∧ done ++ (ivI p 0 0 p.length i (sumT p 0 i)).map (rawOf rs p) = rawL rs p)
    (hk : k < p.length → rnG p k ≠ rnG p (k - 1)) : cur ++ (ivI p 0 0 p.length k (sumT p 0 k)).map (rawOf rs p) = rawL rs p := by
  obtain ⟨i, done, h1, h2, h3, rfl, h5⟩ := h
  have e := grpE_is p i p.length k (by omega) (Nat.le_refl _) (by omega) h2 h3 (fun hlt => by
    have := hk hlt
    rw [h3 (k - 1) (by omega) (by omega)] at this
    exact this)
  rw [ivI_step p 0 0 p.length i _ (by omega) (Nat.le_refl _), ← e, sumT_add p 0 _ i k rfl (by omega) (by omega) h2, List.map_cons] at h5
  rw [← h5]
  simp
theorem AppI.done (h : AppI rs p p.length cur) : cur = rawL rs p := by
  rcases h with ⟨h1, rfl⟩ | h
  · unfold rawL
    rw [ivI_end _ _ _ _ _ _ (by omega)]; rfl
  · have := AppI.close h (fun h => absurd h (Nat.lt_irrefl _))
    rwa [ivI_end _ _ _ _ _ _ (Nat.le_refl _), List.map_nil, List.append_nil] at this
theorem AppI.new (h : AppI rs p k cur) (hk : k < p.length) (hn : k = 0 ∨ rnG p k ≠ rnG p (k - 1)) :
    AppI rs p (k + 1) (cur ++ [grown ⟨nRun rs p[k].run, sumT p 0 k, 0, 0, hRun rs p[k].run, p[k].at_, 0, 0⟩ p[k].at_ p[k].adv]) := by
  refine .inr ⟨k, cur, by omega, by omega, fun j h1 h2 => by rw [show j = k by omega], ?_, ?_⟩
  · congr 2
    unfold rawOf grown
    simp only [Nat.add_sub_cancel]
    rw [rnG_at p k hk, atG_at p k hk, sumT_succ p k k (Nat.le_refl _) hk, sumT_self]
  · rcases h with ⟨rfl, rfl⟩ | h
    · rw [sumT_self]; rfl
    · have hne : 0 < k := by obtain ⟨i, _, h1, _⟩ := h; omega
      exact AppI.close h (fun _ => by
        rcases hn with h0 | h0
        · omega
        · exact h0)
theorem AppI.same (h : AppI rs p k cur) (hk : k < p.length) (h0 : 0 < k) (hn : rnG p k = rnG p (k - 1)) :
    ∃ (init : List Pc) (q : Pc) (i : Nat), cur = init ++ [q] ∧ i ≤ k ∧ q.w = sumT p i k ∧ AppI rs p (k + 1) (init ++ [grown q p[k].at_ p[k].adv]) := by
  rcases h with ⟨h1, _⟩ | ⟨i, done, h1, h2, h3, rfl, h5⟩
  · omega
  · refine ⟨done, _, i, rfl, by omega, rfl, .inr ⟨i, done, by omega, by omega, fun j h6 h7 => ?_, ?_, h5⟩⟩
    · rcases Nat.lt_or_ge j k with h8 | h8
      · exact h3 j h6 h8
      · rw [show j = k by omega, hn, h3 (k - 1) (by omega) (by omega)]
    · congr 2
      unfold rawOf grown
      simp only [Nat.add_sub_cancel]
      rw [atG_at p k hk, sumT_succ p i k (by omega) hk]
theorem rawL_length' (rs : List Rn) (p : List Gl) : ∀ (n i : Nat) (x : Int), p.length - i ≤ n → (ivI p 0 0 p.length i x).length ≤ p.length - i
  | 0, i, x, hn => by rw [ivI_end _ _ _ _ _ _ (by omega)]; simp
  | n + 1, i, x, hn => by
    rcases Nat.lt_or_ge i p.length with hi | hi
    · obtain ⟨e1, e2, -, -⟩ := grpE_spec p i p.length hi (Nat.le_refl _)
      rw [ivI_step p 0 0 p.length i x hi (Nat.le_refl _), List.length_cons]
      have := rawL_length' rs p n (grpE p i p.length) (x + sumT p i (grpE p i p.length)) (by omega)
      omega
    · rw [ivI_end _ _ _ _ _ _ hi]; simp
theorem rawL_length (rs : List Rn) (p : List Gl) : (rawL rs p).length ≤ p.length := by
  have := rawL_length' rs p p.length 0 0 (by omega)
  unfold rawL
  rw [List.length_map]
  omega
/-- What a raw piece has: its place in the line, its height. -/
theorem rawL_mem (rs : List Rn) (p : List Gl) (q : Pc) (hq : q ∈ rawL rs p) : ∃ i, i ≤ p.length ∧ q.x = sumT p 0 i ∧ 0 ≤ q.h ∧ q.h ≤ 1073741824 := by
  unfold rawL at hq
  obtain ⟨v, hv, rfl⟩ := List.mem_map.1 hq
  have h := ivI_mem p 0 0 p.length (Nat.le_refl _) p.length 0 0 (by omega) v hv
  have h1 := h.lt
  have h2 := h.hi
  have h3 := h.x
  have h4 := hRun_bd rs (rnG p v.lo)
  exact ⟨v.lo, by omega, by show v.x = _; omega, h4.1, h4.2⟩
end
end Go.Proofs.Ytmlnpphblicghaa
