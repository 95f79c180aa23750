import Derived.Test.YtpnpmellohacoaaDoorPoolNum
/- Handles that were told, and whether each is there: PoolUnlike in plain words. No program is named here. -/
namespace Go.Proofs.YtpnpmellohacoaaDoor
set_option linter.unusedVariables false
set_option linter.unusedSimpArgs false

theorem hasP_at {pl : Pl} {p : Nat} (t : Int) (h : p < pl.length) : hasP pl p t = (takenOf pl p && decide (turnOf pl p = t)) := by unfold hasP; simp [h]
structure Unl (pl : Pl) (hs : List (Int × Int)) (fl : List Bool) : Prop where
  len : fl.length = hs.length
  told : ∀ k (h : k < hs.length), ∃ p : Nat, hs[k].1 = p ∧ p < pl.length ∧ 1 ≤ hs[k].2 ∧ hs[k].2 ≤ turnOf pl p
  flag : ∀ k (h : k < hs.length), fl[k]? = some (hasP pl hs[k].1 hs[k].2)
  nodup : ∀ i j (hi : i < hs.length) (hj : j < hs.length), hs[i] = hs[j] → i = j
theorem unl_nil : Unl [] [] [] := ⟨rfl, fun k h => by simp at h, fun k h => by simp at h, fun i j hi => by simp at hi⟩
theorem length_take_ge (pl : Pl) : pl.length ≤ (takeP pl).length := by rw [length_take]; split <;> omega
theorem least_lt_take (pl : Pl) : leastF pl < (takeP pl).length := by have := leastF_le pl; rw [length_take]; split <;> omega
theorem Unl.fresh {pl : Pl} {hs : List (Int × Int)} {fl : List Bool} (h : Unl pl hs fl) {k : Nat} (hk : k < hs.length) : ¬ (hs[k].1 = leastF pl ∧ hs[k].2 = turnOf pl (leastF pl) + 1) := by
  rintro ⟨e1, e2⟩
  obtain ⟨p, h1, h2, h3, h4⟩ := h.told k hk
  have : p = leastF pl := by omega
  subst this
  omega
theorem app_at {α : Type} {l : List α} {x : α} : (l ++ [x])[l.length]? = some x := by simp
theorem Unl.take {pl : Pl} {hs : List (Int × Int)} {fl : List Bool} (h : Unl pl hs fl) (tn : ∀ i, 0 ≤ turnOf pl i) : Unl (takeP pl) (hs ++ [((leastF pl : Int), turnOf pl (leastF pl) + 1)]) (fl ++ [true]) := by
  have hge := length_take_ge pl
  have hll := least_lt_take pl
  have key : ∀ k (hk : k < (hs ++ [((leastF pl : Int), turnOf pl (leastF pl) + 1)]).length), (∃ hk' : k < hs.length, (hs ++ [((leastF pl : Int), turnOf pl (leastF pl) + 1)])[k] = hs[k]) ∨ k = hs.length ∧ (hs ++ [((leastF pl : Int), turnOf pl (leastF pl) + 1)])[k] = ((leastF pl : Int), turnOf pl (leastF pl) + 1) := fun k hk => by
    by_cases hk' : k < hs.length
    · exact .inl ⟨hk', List.getElem_append_left hk'⟩
    · have hk2 : k = hs.length := by simp at hk; omega
      subst hk2
      exact .inr ⟨rfl, by simp⟩
  refine ⟨by simp [h.len], fun k hk => ?_, fun k hk => ?_, fun i j hi hj e => ?_⟩
  · rcases key k hk with ⟨hk', e⟩ | ⟨rfl, e⟩
    · obtain ⟨p, h1, h2, h3, h4⟩ := h.told k hk'
      refine ⟨p, by rw [e]; exact h1, by omega, by rw [e]; exact h3, ?_⟩
      rw [e, turnOf_take]
      split <;> omega
    · have := tn (leastF pl)
      rw [e]
      exact ⟨leastF pl, rfl, hll, by simp; omega, by rw [turnOf_take, if_pos rfl]; exact Int.le_refl _⟩
  · rcases key k hk with ⟨hk', e⟩ | ⟨rfl, e⟩
    · obtain ⟨p, h1, h2, h3, h4⟩ := h.told k hk'
      rw [e, List.getElem?_append_left (by rw [h.len]; exact hk'), h.flag k hk', h1, hasP_at _ h2, hasP_at _ (by omega), takenOf_take, turnOf_take]
      by_cases e2 : p = leastF pl
      · subst e2
        rw [leastF_free, if_pos rfl, if_pos rfl, show decide (turnOf pl (leastF pl) + 1 = hs[k].2) = false by simp; omega]
        rfl
      · rw [if_neg e2, if_neg e2]
    · rw [e, ← h.len, app_at, hasP_at _ hll, takenOf_take, turnOf_take, if_pos rfl, if_pos rfl]
      simp
  · rcases key i hi with ⟨hi', e1⟩ | ⟨rfl, e1⟩ <;> rcases key j hj with ⟨hj', e2⟩ | ⟨rfl, e2⟩
    · rw [e1, e2] at e; exact h.nodup i j hi' hj' e
    · rw [e1, e2] at e; exact absurd ⟨by rw [e], by rw [e]⟩ (h.fresh hi')
    · rw [e1, e2] at e; exact absurd ⟨by rw [← e], by rw [← e]⟩ (h.fresh hj')
    · rfl
theorem Unl.there {pl : Pl} {hs : List (Int × Int)} {fl : List Bool} (h : Unl pl hs fl) {k : Nat} (hk : k < hs.length) (hf : fl[k]? = some true) : ∃ p : Nat, hs[k].1 = p ∧ takenOf pl p = true ∧ turnOf pl p = hs[k].2 := by
  obtain ⟨p, h1, h2, h3, h4⟩ := h.told k hk
  have h5 := h.flag k hk
  rw [hf, h1, hasP_at _ h2] at h5
  injection h5 with h5
  have h6 := h5.symm
  simp only [Bool.and_eq_true, decide_eq_true_eq] at h6
  exact ⟨p, h1, h6.1, h6.2⟩
theorem Unl.free {pl : Pl} {hs : List (Int × Int)} {fl : List Bool} (h : Unl pl hs fl) {k p : Nat} (hk : k < hs.length) (hp : hs[k].1 = p) (ht : takenOf pl p = true) (hu : turnOf pl p = hs[k].2) : Unl (freeP pl p) hs (fl.set k false) := by
  have hpl := taken_lt ht
  refine ⟨by simp [h.len], fun j hj => ?_, fun j hj => ?_, h.nodup⟩
  · obtain ⟨q, h1, h2, h3, h4⟩ := h.told j hj
    exact ⟨q, h1, by rw [length_free]; exact h2, h3, by rw [turnOf_free hpl]; exact h4⟩
  · obtain ⟨q, h1, h2, h3, h4⟩ := h.told j hj
    rw [h1, hasP_at _ (by rw [length_free]; exact h2), takenOf_free hpl, turnOf_free hpl, List.getElem?_set]
    by_cases e : k = j
    · subst e
      have : q = p := by omega
      subst this
      rw [if_pos rfl, if_pos rfl, if_pos (by rw [h.len]; exact hj)]
      rfl
    · rw [if_neg e, h.flag j hj, h1, hasP_at _ h2]
      by_cases e2 : q = p
      · subst e2
        rw [if_pos rfl, ht]
        have : ¬ turnOf pl q = hs[j].2 := fun e3 => e (h.nodup k j hk hj (Prod.ext (by rw [hp, h1]) (by rw [← hu, e3])))
        simp [this]
      · rw [if_neg e2]
theorem Unl.gone {pl : Pl} {hs : List (Int × Int)} {fl : List Bool} (h : Unl pl hs fl) {k : Nat} (hk : k < hs.length) (hf : fl[k]? = some false) : hasP pl hs[k].1 hs[k].2 = false := by
  have := h.flag k hk
  rw [hf] at this
  injection this with this
  exact this.symm
end Go.Proofs.YtpnpmellohacoaaDoor
