import Derived.Test.YtmkmealgoafgdaaStbStep
/- The order of places by keys, as a list. No program is named here. -/
namespace Go.Proofs.Ytmkmealgoafgdaa
open Go Go.Sort
set_option linter.unusedVariables false
set_option linter.unusedSimpArgs false

def keyL (L : List Int) (z : Int) : Int := L.getD z.toNat 0
def idL (n : Nat) : List Int := (List.range n).map (fun (k : Nat) => (k : Int))
/-- xs are the places of L by rising key, those of one key by place. -/
structure Ord (L xs : List Int) : Prop where
  perm : xs.Perm (idL L.length)
  ord : xs.Pairwise (fun a b => ltK (keyL L) b a = false)
theorem Ord.unique {L xs ys : List Int} (h : Ord L xs) (k : Ord L ys) : xs = ys :=
  List.Perm.eq_of_pairwise (fun a b _ _ h1 h2 => ltK_anti h2 h1) h.ord k.ord (h.perm.trans k.perm.symm)
theorem idL_len (n : Nat) : (idL n).length = n := by simp [idL]
theorem idL_at {n i : Nat} (h : i < n) : (idL n)[i]? = some (i : Int) := by simp [idL, h]
theorem Ord.len {L xs : List Int} (h : Ord L xs) : xs.length = L.length := by rw [h.perm.length_eq, idL_len]
theorem mem_idL {n : Nat} {z : Int} : z ∈ idL n ↔ 0 ≤ z ∧ z < (n : Int) := by
  unfold idL
  rw [List.mem_map]
  constructor
  · rintro ⟨k, hk, rfl⟩; rw [List.mem_range] at hk; omega
  · intro h; exact ⟨z.toNat, by rw [List.mem_range]; omega, by omega⟩
theorem Ord.mem {L xs : List Int} (h : Ord L xs) {z : Int} (hz : z ∈ xs) : 0 ≤ z ∧ z < (L.length : Int) := mem_idL.1 (h.perm.mem_iff.1 hz)
theorem get_toList (d : Array Int) {i : Nat} (h : i < d.toList.length) : d.toList[i] = d[i]! := by
  have : i < d.size := by simpa using h
  simp [getElem!_def, this]
theorem ord_of {L : List Int} {d d' : Array Int} (hid : ∀ t, t < d.size → d[t]! = (t : Int)) (hs : d.size = L.length) (hs' : d'.size = d.size) (h : Merged (keyL L) 0 d.size d d') : Ord L d'.toList := by
  refine ⟨?_, ?_⟩
  · have hp := h.1.2.2
    have e : (d'.extract 0 d.size) = d' := by rw [← hs']; simp
    have e2 : (d.extract 0 d.size) = d := by simp
    rw [e, e2] at hp
    have e3 : d.toList = idL L.length := by
      apply List.ext_getElem
      · rw [idL_len]; simpa using hs
      · intro i h1 h2
        rw [get_toList, hid i (by simpa using h1)]
        simp [idL]
    rwa [e3] at hp
  · rw [List.pairwise_iff_getElem]
    intro i j hi hj hij
    rw [get_toList, get_toList]
    exact h.2 i j (Nat.zero_le _) hij (by rw [← hs']; simpa using hj)
end Go.Proofs.Ytmkmealgoafgdaa
