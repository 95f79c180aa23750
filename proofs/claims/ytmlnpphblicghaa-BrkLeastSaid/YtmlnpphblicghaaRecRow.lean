import Derived.Test.YtmlnpphblicghaaMem
/- Rows of records of some cells each, of any kinds. No program is named here. -/
namespace Go.Proofs.Ytmlnpphblicghaa
open Go Go.RowKit
set_option linter.unusedVariables false
set_option linter.unusedSimpArgs false

section
variable {α : Type} {f : α → List Value} {k : Nat}
theorem rec_len (hf : ∀ x, (f x).length = k) : ∀ (l : List α), (l.flatMap f).length = l.length * k
  | [] => by simp
  | x :: l => by rw [List.flatMap_cons, List.length_append, hf, rec_len hf l, List.length_cons, Nat.succ_mul]; omega
theorem rec_get (hf : ∀ x, (f x).length = k) : ∀ (l : List α) (i : Nat) (h : i < l.length) (j : Nat), j < k → (l.flatMap f)[i * k + j]? = (f l[i])[j]?
  | x :: l, 0, h, j, hj => by
    rw [List.flatMap_cons, Nat.zero_mul, Nat.zero_add, List.getElem?_append_left (by rw [hf]; exact hj)]; rfl
  | x :: l, i + 1, h, j, hj => by
    have := rec_get hf l i (by simpa using h) j hj
    rw [List.flatMap_cons, List.getElem?_append_right (by rw [hf, Nat.succ_mul]; omega), hf, show (i + 1) * k + j - k = i * k + j by rw [Nat.succ_mul]; omega, this]
    rfl
theorem rec_at (ad : Addr) (m j : Nat) (h : 0 < j) : (⟨(ad.add m).block, (ad.add m).off + j, none⟩ : Addr) = ad.add (m + j) := by
  have : (ad.add m).add j = ad.add (m + j) := by unfold Addr.add; split <;> split <;> simp_all [Nat.add_assoc]
  rw [← this]
  generalize ad.add m = b
  unfold Addr.add
  rw [if_neg (by omega)]
/-- The cells of the i-th record, as a walk reads them. -/
theorem Row.rc {w : World} {B : Nat} {A : Option Addr} {l : List α} (hf : ∀ x, (f x).length = k) (h : Row w B A (l.flatMap f)) (hk : 0 < k) {i : Nat} (hi : i < l.length) :
    ∃ ad, A = some ad ∧ ad.block < B ∧ (∀ v, (f l[i])[0]? = some v → w.cell? (ad.add (i * k)) = some v) ∧
      ∀ j v, 0 < j → (f l[i])[j]? = some v → w.cell? ⟨(ad.add (i * k)).block, (ad.add (i * k)).off + j, none⟩ = some v := by
  have hlen : i * k + k ≤ (l.flatMap f).length := by
    rw [rec_len hf]
    have : (i + 1) * k ≤ l.length * k := Nat.mul_le_mul_right k hi
    rw [Nat.succ_mul] at this
    exact this
  obtain ⟨ad, e, hb, hc⟩ := h (by omega)
  have at_ : ∀ j v, (f l[i])[j]? = some v → w.cell? (ad.add (i * k + j)) = some v := fun j v hv => by
    have hj : j < k := by
      have := (List.getElem?_eq_some_iff.1 hv).1
      rwa [hf] at this
    have hg := rec_get hf l i hi j hj
    rw [hv] at hg
    obtain ⟨q, e⟩ := List.getElem?_eq_some_iff.1 hg
    rw [hc _ q, e]
  refine ⟨ad, e, hb, fun v hv => at_ 0 v hv, fun j v h0 hv => ?_⟩
  rw [rec_at ad _ j h0]
  exact at_ j v hv
theorem rec_one {l : List α} (h : ∀ x, ∀ v ∈ f x, v.oneCell' = true) : ∀ v ∈ l.flatMap f, v.oneCell' = true := fun v hv => by
  obtain ⟨x, _, hx⟩ := List.mem_flatMap.1 hv
  exact h x v hx
theorem rec_drop (hf : ∀ x, (f x).length = k) : ∀ (l : List α) (j : Nat), (l.flatMap f).drop (j * k) = (l.drop j).flatMap f
  | [], j => by simp
  | x :: l, 0 => by simp
  | x :: l, j + 1 => by
    rw [List.flatMap_cons, List.drop_succ_cons, ← rec_drop hf l j, Nat.succ_mul, Nat.add_comm, ← List.drop_drop, List.drop_left' (hf x)]
end
end Go.Proofs.Ytmlnpphblicghaa
