import Derived.Test.YtmlnpphblicghaaEndsQ
/- The lines up to a break, one by one. -/
namespace Go.Proofs.Ytmlnpphblicghaa
open Go Go.RowKit
set_option linter.unusedVariables false
set_option linter.unusedSimpArgs false

theorem endsS_bd {g : List Gl} (hg : FineG g) : ∀ (q i : Nat) (s : Int), i + q ≤ g.length → BdS s i → BdS (s + sumA ((g.drop i).take q)) (i + q)
  | 0, i, s, h, hb => by simpa [sumA] using hb
  | q + 1, i, s, h, hb => by
    have hi : i < g.length := by omega
    have := endsS_bd hg q (i + 1) (s + g[i].adv) (by omega) (hg.bd i hi hb)
    rw [List.drop_eq_getElem_cons hi, List.take_succ_cons, sumA_cons]
    rw [show s + (g[i].adv + sumA ((g.drop (i + 1)).take q)) = s + g[i].adv + sumA ((g.drop (i + 1)).take q) by omega, show i + (q + 1) = i + 1 + q by omega]
    exact this
structure AInv (a : Int) (g : List Gl) (F : List Sp) (z : Nat) (L : List Sp) (i : Nat) (s : Int) (es : List (Nat × Int)) : Prop where
  sum : L ++ linesI a g i = F
  bd : BdS s i
  st : (i ≤ g.length ∧ es = endsS (g.drop i) i s ∧ lastAt es = z) ∨ (es = [] ∧ i = z + 1)
  zl : z ≤ g.length
section
variable {a : Int} {g : List Gl} {F L : List Sp} {z i : Nat} {s : Int} {es r : List (Nat × Int)} {e : Nat × Int}
theorem AInv.le (h : AInv a g F z L i s es) : i ≤ g.length + 1 := by have := h.zl; rcases h.st with ⟨h1, _⟩ | ⟨_, h1⟩ <;> omega
theorem AInv.iz (h : AInv a g F z L i s es) : i ≤ z + 1 := by
  rcases h.st with ⟨h1, h2, h3⟩ | ⟨h1, h2⟩
  · obtain ⟨e, r, he⟩ := endsS_ne (g.drop i) i s
    obtain ⟨q, k1, k2, _⟩ := endsS_at (g.drop i) i s ((endsS (g.drop i) i s).length - 1) (by rw [he]; simp)
    have := lastAt_get (endsS (g.drop i) i s) ((endsS (g.drop i) i s).length - 1) (by rw [he]; simp)
    rw [k1, ← h2, h3] at this
    omega
  · omega
theorem AInv.done (h : AInv a g F z L i s es) (hd : es = [] ∨ g.length ≤ i) : L ++ linesI a g (z + 1) = F := by
  rcases h.st with ⟨h1, h2, h3⟩ | ⟨h1, h2⟩
  · obtain ⟨e, r, he⟩ := endsS_ne (g.drop i) i s
    have hi : g.length ≤ i := by
      rcases hd with hd | hd
      · rw [h2, he] at hd; cases hd
      · exact hd
    have hs := h.sum
    rw [linesI_end a g i hi] at hs
    rw [List.drop_eq_nil_of_le hi] at h2
    have hz : z = i := by rw [← h3, h2]; rfl
    rw [linesI_end a g (z + 1) (by omega)]
    exact hs
  · rw [← h2]; exact h.sum
theorem AInv.step (hg : FineG g) (h : AInv a g F z L i s (e :: r)) (hi : i < g.length) :
    ∃ (t : Nat) (w : Int), fitN (s + a) r < (e :: r).length ∧ (e :: r)[fitN (s + a) r]? = some (t, w) ∧ i ≤ t ∧ t ≤ g.length ∧ BdS w t ∧ I64 (w - s) ∧
      ∀ s' : Int, (∀ h : t < g.length, s' = w + g[t].adv) → (¬ t < g.length → s' = s) → AInv a g F z (L ++ [⟨i, t, w - s⟩]) (t + 1) s' ((e :: r).drop (fitN (s + a) r + 1)) := by
  rcases h.st with ⟨h1, h2, h3⟩ | ⟨h1, _⟩
  · obtain ⟨hj, hp⟩ := line_pick a s (g.drop i) i e r h2.symm
    obtain ⟨q, k1, k2, k3, k4⟩ := endsS_at (g.drop i) i s (fitN (s + a) r) (by rw [← h2]; exact hj)
    have hx : (e :: r)[fitN (s + a) r]? = some (i + q, s + sumA ((g.drop i).take q)) := by
      rw [h2, List.getElem?_eq_getElem (by rw [← h2]; exact hj), ← k1, ← k3]
    have hxe : (e :: r)[fitN (s + a) r] = (i + q, s + sumA ((g.drop i).take q)) := by
      rw [List.getElem?_eq_getElem hj] at hx; injection hx
    rw [List.length_drop] at k2
    have hb := endsS_bd hg q i s (by omega) h.bd
    have hb0 := endsS_bd hg q 0 0 (by omega) (by unfold BdS; omega)
    have hbq : BdS (sumA ((g.drop i).take q)) q := by
      have : ∀ (q i : Nat), i + q ≤ g.length → BdS (sumA ((g.drop i).take q)) q := fun q => by
        induction q with
        | zero => intro i _; simp [sumA, BdS]
        | succ q ih =>
          intro i hq
          have hi : i < g.length := by omega
          have h1 := ih (i + 1) (by omega)
          have h2 := hg.2 _ (List.getElem_mem hi)
          rw [List.drop_eq_getElem_cons hi, List.take_succ_cons, sumA_cons]
          obtain ⟨h3, h4⟩ := h1
          unfold BdS
          omega
      exact this q i (by omega)
    have hl := hg.1
    refine ⟨i + q, s + sumA ((g.drop i).take q), hj, hx, by omega, by omega, hb, ?_, fun s' e1 e2 => ?_⟩
    · obtain ⟨b1, b2⟩ := hbq; clear k1 k3 k4 hp hx hxe; unfold I64; omega
    · rw [hxe] at hp
      simp only at hp
      have hstep := linesI_step a g i hi
      rw [hp] at hstep
      refine ⟨?_, ?_, ?_, h.zl⟩
      · rw [List.append_assoc, ← h.sum, hstep]
        rfl
      · by_cases ht : i + q < g.length
        · rw [e1 ht]; exact hg.bd _ ht hb
        · rw [e2 ht]; obtain ⟨b1, b2⟩ := h.bd; unfold BdS; omega
      · rcases k4 with ⟨h', -, k5⟩ | k4
        · have ht : i + q < g.length := Nat.lt_sub_iff_add_lt'.1 (Nat.lt_of_lt_of_eq h' List.length_drop)
          refine .inl ⟨by omega, ?_, ?_⟩
          · rw [h2, k5, e1 ht, List.drop_drop, List.getElem_drop, show i + (q + 1) = i + q + 1 by omega]
          · rw [lastAt_drop _ _ (by
              have hne := endsS_ne ((g.drop i).drop (q + 1)) (i + q + 1) (s + sumA ((g.drop i).take q) + (g.drop i)[q].adv)
              obtain ⟨e', r', he'⟩ := hne
              rw [he', ← h2] at k5
              have : ((e :: r).drop (fitN (s + a) r + 1)).length = r'.length + 1 := by rw [k5]; rfl
              rw [List.length_drop] at this
              omega)]
            exact h3
        · refine .inr ⟨List.drop_eq_nil_of_le (by rw [← h2] at k4; omega), ?_⟩
          rw [← h3, lastAt_get (e :: r) _ (by rw [← h2] at k4; exact k4), hxe]
  · cases h1
theorem AInv.start (hg : FineG g) (L : List Sp) (hi : i < g.length) : AInv a g (L ++ linesI a g i) (lastAt (endsS (g.drop i) i 0)) L i 0 (endsS (g.drop i) i 0) := by
  refine ⟨rfl, by unfold BdS; omega, .inl ⟨by omega, rfl, rfl⟩, ?_⟩
  obtain ⟨e, r, he⟩ := endsS_ne (g.drop i) i 0
  obtain ⟨q, k1, k2, _⟩ := endsS_at (g.drop i) i 0 ((endsS (g.drop i) i 0).length - 1) (by rw [he]; simp)
  rw [lastAt_get _ ((endsS (g.drop i) i 0).length - 1) (by rw [he]; simp), k1]
  rw [List.length_drop] at k2
  omega
end
end Go.Proofs.Ytmlnpphblicghaa
