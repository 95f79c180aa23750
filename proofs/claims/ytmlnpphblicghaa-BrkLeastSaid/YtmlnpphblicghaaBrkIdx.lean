import Derived.Test.YtmlnpphblicghaaRet
/- slices.Index, slices.Contains: numbers. -/
namespace Go.Proofs.Ytmlnpphblicghaa
open Go Go.RowKit
set_option linter.unusedVariables false
set_option linter.unusedSimpArgs false
set_option maxRecDepth 20000
set_option maxHeartbeats 4000000

def idxZ (v : Int) (l : List Int) : Int := match l.findIdx? (· == v) with | none => -1 | some k => k
theorem idxZ_in (v : Int) (l : List Int) : decide (0 ≤ idxZ v l) = l.contains v := by
  unfold idxZ
  cases h : l.findIdx? (· == v) with
  | none =>
    rw [List.findIdx?_eq_none_iff] at h
    have : l.contains v = false := by
      rw [Bool.eq_false_iff]; intro hc
      rw [List.contains_iff_mem] at hc
      have := h v hc
      simp at this
    rw [this]; rfl
  | some k =>
    rw [List.findIdx?_eq_some_iff_getElem] at h
    obtain ⟨h1, h2, _⟩ := h
    have : l.contains v = true := by
      rw [List.contains_iff_mem]
      have e : l[k] = v := by simpa using h2
      rw [← e]; exact List.getElem_mem h1
    rw [this]; simp
theorem idxZ_at (v : Int) (l : List Int) (k : Nat) (hk : k < l.length) (h0 : ∀ j (h : j < l.length), j < k → (v == l[j]) = false) (h : (v == l[k]) = true) : idxZ v l = k := by
  have : l.findIdx? (· == v) = some k := by
    rw [List.findIdx?_eq_some_iff_getElem]
    refine ⟨hk, by rw [beq_iff_eq] at h ⊢; exact h.symm, fun j hj => ?_⟩
    have := h0 j (by omega) hj
    rw [beq_eq_false_iff_ne] at this
    simpa using fun e => this e.symm
  unfold idxZ; rw [this]
theorem idxZ_none (v : Int) (l : List Int) (h0 : ∀ j (h : j < l.length), (v == l[j]) = false) : idxZ v l = -1 := by
  have : l.findIdx? (· == v) = none := by
    rw [List.findIdx?_eq_none_iff]
    intro x hx
    obtain ⟨j, hj, rfl⟩ := List.getElem_of_mem hx
    have := h0 j hj
    rw [beq_eq_false_iff_ne] at this
    simpa using fun e => this e.symm
  unfold idxZ; rw [this]
end Go.Proofs.Ytmlnpphblicghaa
