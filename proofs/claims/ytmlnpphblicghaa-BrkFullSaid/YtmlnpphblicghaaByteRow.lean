import Derived.WalkKit
import Derived.Lib.Hide
/- Rows of bytes of one sort. No program is named here. -/
namespace Go.Proofs.Ytmlnpphblicghaa
set_option linter.unusedVariables false
set_option linter.unusedSimpArgs false
open Go.RowKit

def bytesOf (s : ByteArray) : List UInt8 := s.data.toList
theorem bytesOf_length (s : ByteArray) : (bytesOf s).length = s.size := by simp [bytesOf]
theorem bytesOf_get (s : ByteArray) (k : Nat) (h : k < s.size) : (bytesOf s)[k]'(by rw [bytesOf_length]; exact h) = s[k] := rfl
/-- How many bytes of one sort stand from a place on. -/
def rowN (f : UInt8 → Bool) (l : List UInt8) (at_ : Nat) : Nat := ((l.drop at_).takeWhile f).length
theorem takeWhile_step {f : UInt8 → Bool} : ∀ (l : List UInt8) (k : Nat), k ≤ (l.takeWhile f).length →
    (∀ h : k < l.length, f l[k] = true → k + 1 ≤ (l.takeWhile f).length) ∧ (∀ h : k < l.length, f l[k] = false → k = (l.takeWhile f).length) ∧ (l.length ≤ k → k = (l.takeWhile f).length) ∧ (l.takeWhile f).length ≤ l.length
  | [], k, h => by simp at h ⊢; omega
  | c :: r, k, h => by
    by_cases hc : f c = true
    · rw [List.takeWhile_cons_of_pos hc] at h ⊢
      cases k with
      | zero =>
        have := takeWhile_step (f := f) r 0 (Nat.zero_le _)
        refine ⟨fun _ _ => by simp, fun _ h1 => by simp [hc] at h1, fun h1 => by simp at h1, by simp; exact this.2.2.2⟩
      | succ k =>
        obtain ⟨h1, h2, h3, h4⟩ := takeWhile_step r k (by simpa using h)
        refine ⟨fun h hf => ?_, fun h hf => ?_, fun h => ?_, by simpa using h4⟩
        · have := h1 (by simpa using h) (by simpa using hf); simp; omega
        · have := h2 (by simpa using h) (by simpa using hf); simp; omega
        · have := h3 (by simpa using h); simp; omega
    · rw [List.takeWhile_cons_of_neg hc] at h ⊢
      have hk : k = 0 := by simpa using h
      subst hk
      refine ⟨fun _ h1 => by simp at h1; exact absurd h1 hc, fun _ _ => by simp, fun _ => by simp, by simp⟩
section
variable {f : UInt8 → Bool} {l : List UInt8} {a k : Nat}
theorem rowN_le (f : UInt8 → Bool) (l : List UInt8) (a : Nat) (h : a ≤ l.length) : a + rowN f l a ≤ l.length := by
  have := (takeWhile_step (f := f) (l.drop a) 0 (Nat.zero_le _)).2.2.2
  unfold rowN
  simp at this
  omega
theorem rowN_more (hk : k ≤ rowN f l a) (h : a + k < l.length) (hf : f l[a + k] = true) : k + 1 ≤ rowN f l a := by
  have := (takeWhile_step (f := f) (l.drop a) k hk).1 (by simp; omega)
  simp only [List.getElem_drop] at this
  exact this hf
theorem rowN_stop (hk : k ≤ rowN f l a) (h : a + k < l.length) (hf : f l[a + k] = false) : k = rowN f l a := by
  have := (takeWhile_step (f := f) (l.drop a) k hk).2.1 (by simp; omega)
  simp only [List.getElem_drop] at this
  exact this hf
theorem rowN_end (hk : k ≤ rowN f l a) (h : l.length ≤ a + k) : k = rowN f l a :=
  (takeWhile_step (f := f) (l.drop a) k hk).2.2.1 (by simp; omega)
theorem takeWhile_all : ∀ (l : List UInt8) (k : Nat) (h : k < (l.takeWhile f).length), ∃ h' : k < l.length, f l[k] = true
  | [], k, h => by simp at h
  | c :: r, k, h => by
    by_cases hc : f c = true
    · rw [List.takeWhile_cons_of_pos hc] at h
      cases k with
      | zero => exact ⟨by simp, hc⟩
      | succ k =>
        obtain ⟨h1, h2⟩ := takeWhile_all r k (by simpa using h)
        exact ⟨by simp; omega, by simpa using h2⟩
    · rw [List.takeWhile_cons_of_neg hc] at h
      simp at h
theorem rowN_all (h : k < rowN f l a) : ∃ h' : a + k < l.length, f l[a + k] = true := by
  obtain ⟨h1, h2⟩ := takeWhile_all (f := f) (l.drop a) k h
  simp at h1
  refine ⟨by omega, ?_⟩
  simpa only [List.getElem_drop] using h2
end
def isDig (c : UInt8) : Bool := decide (48 ≤ (c.toNat : Int) ∧ (c.toNat : Int) ≤ 57)
def blankB (c : UInt8) : Bool := decide ((c.toNat : Int) = 32 ∨ (c.toNat : Int) = 9 ∨ (c.toNat : Int) = 10)
def nameB (c : UInt8) : Bool := decide ((97 ≤ (c.toNat : Int) ∧ (c.toNat : Int) ≤ 122) ∨ (c.toNat : Int) = 45)
def valB (c : UInt8) : Bool := decide (((97 ≤ (c.toNat : Int) ∧ (c.toNat : Int) ≤ 122) ∨ (c.toNat : Int) = 45) ∨ (48 ≤ (c.toNat : Int) ∧ (c.toNat : Int) ≤ 57) ∨ (c.toNat : Int) = 46 ∨ (c.toNat : Int) = 37)
end Go.Proofs.Ytmlnpphblicghaa
