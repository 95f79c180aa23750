import Derived.Test.YtfmcabgcckllcaaByteRow
/- Numbers in texts. No program is named here. -/
namespace Go.Proofs.Ytfmcabgcckllcaa
set_option linter.unusedVariables false
set_option linter.unusedSimpArgs false
open Go.RowKit

/-- The value of k digits from a place on, behind a value. -/
def digV (l : List UInt8) (a : Nat) (v : Int) : Nat → Int
  | 0 => v
  | k + 1 => 10 * digV l a v k + (((l.getD (a + k) 48).toNat : Int) - 48)
def negB (l : List UInt8) : Bool := l.head? == some 45
def signZ (ng : Bool) (v : Int) : Int := match ng with | true => -v | false => v
/-- A number of at most ah digits, and bh behind the point, in its last digits; where the rest begins. -/
def numZ (l : List UInt8) (ah bh : Nat) : Option (Int × Nat) :=
  let a := (negB l).toNat
  let n := rowN isDig l a
  if n < 1 ∨ ah < n then none
  else if l[a + n]? = some 46 then
    let k := rowN isDig l (a + n + 1)
    if k < 1 ∨ bh < k then none
    else some (signZ (negB l) (digV l (a + n + 1) (digV l a 0 n) k * 10 ^ (bh - k)), a + n + 1 + k)
  else some (signZ (negB l) (digV l a 0 n * 10 ^ bh), a + n)
theorem digV_bd (l : List UInt8) (a : Nat) (v M : Int) (h0 : 0 ≤ v) (h1 : v < M) : ∀ k, k ≤ rowN isDig l a → 0 ≤ digV l a v k ∧ digV l a v k < M * 10 ^ k
  | 0, _ => by simp [digV]; exact ⟨h0, h1⟩
  | k + 1, hk => by
    obtain ⟨h2, h3⟩ := digV_bd l a v M h0 h1 k (by omega)
    obtain ⟨h4, h5⟩ := rowN_all (f := isDig) (l := l) (a := a) (k := k) (by omega)
    have h6 := of_decide_eq_true h5
    have e : l.getD (a + k) 48 = l[a + k] := by simp [List.getD, h4]
    have e2 : M * 10 ^ (k + 1) = 10 * (M * 10 ^ k) := by rw [Int.pow_succ, ← Int.mul_assoc, Int.mul_comm]
    rw [e2]
    generalize M * 10 ^ k = X at *
    simp only [digV, e]
    omega
theorem pow5 (j : Nat) (h : j ≤ 5) : (1 : Int) ≤ 10 ^ j ∧ (10 : Int) ^ j ≤ 100000 := by
  rcases (show j = 0 ∨ j = 1 ∨ j = 2 ∨ j = 3 ∨ j = 4 ∨ j = 5 by omega) with rfl | rfl | rfl | rfl | rfl | rfl <;> decide
theorem digV_first (l : List UInt8) (a j : Nat) (h5 : j ≤ 5) (h : j ≤ rowN isDig l a) : 0 ≤ digV l a 0 j ∧ digV l a 0 j ≤ 99999 := by
  have h1 := digV_bd l a 0 1 (by omega) (by omega) j h
  have h2 := pow5 j h5
  omega
theorem digV_next (l : List UInt8) (a j : Nat) (v : Int) (h0 : 0 ≤ v) (h1 : v ≤ 99999) (h3 : j ≤ 3) (h : j ≤ rowN isDig l a) : 0 ≤ digV l a v j ∧ digV l a v j ≤ 99999999 := by
  have h2 := digV_bd l a v 100000 (by omega) (by omega) j h
  rcases (show j = 0 ∨ j = 1 ∨ j = 2 ∨ j = 3 by omega) with rfl | rfl | rfl | rfl <;> omega
theorem digV_get (s : ByteArray) (a : Nat) (v : Int) (j : Nat) (h : a + j < s.size) : digV (bytesOf s) a v (j + 1) = 10 * digV (bytesOf s) a v j + ((s[a + j].toNat : Int) - 48) := by
  have h' : a + j < (bytesOf s).length := by rw [bytesOf_length]; exact h
  have e : (bytesOf s).getD (a + j) 48 = s[a + j] := by simp only [List.getD, List.getElem?_eq_getElem h', Option.getD_some]; rfl
  show 10 * digV (bytesOf s) a v j + ((((bytesOf s).getD (a + j) 48).toNat : Int) - 48) = _
  rw [e]; rfl
theorem dig_at (s : ByteArray) (a j : Nat) (h : j < rowN isDig (bytesOf s) a) : ∃ h' : a + j < s.size, 48 ≤ (s[a + j].toNat : Int) ∧ (s[a + j].toNat : Int) ≤ 57 := by
  obtain ⟨h1, h2⟩ := rowN_all h
  exact ⟨by rw [← bytesOf_length]; exact h1, of_decide_eq_true h2⟩
theorem u8_eq {c : UInt8} {n : Nat} (h : (c.toNat : Int) = n) (hn : n < 256) : c = UInt8.ofNat n := by
  apply UInt8.toNat_inj.1
  have : c.toNat = n := by omega
  simp [this]; omega
theorem byte_at (s : ByteArray) (i : Nat) (n : Nat) (hn : n < 256) : ((bytesOf s)[i]? = some (UInt8.ofNat n)) ↔ ∃ h : i < s.size, (s[i].toNat : Int) = n := by
  constructor
  · intro h
    obtain ⟨h1, h2⟩ := List.getElem?_eq_some_iff.1 h
    refine ⟨by rw [← bytesOf_length]; exact h1, ?_⟩
    have h3 : s[i]'(by rw [← bytesOf_length]; exact h1) = UInt8.ofNat n := h2
    rw [h3]
    simp
    omega
  · rintro ⟨h, e⟩
    have h1 : i < (bytesOf s).length := by rw [bytesOf_length]; exact h
    rw [List.getElem?_eq_getElem h1]
    exact congrArg some (u8_eq e hn)
theorem neg_le (l : List UInt8) : (negB l).toNat ≤ l.length := by
  cases l with
  | nil => simp [negB]
  | cons c r => have := Bool.toNat_le (negB (c :: r)); simp; omega
end Go.Proofs.Ytfmcabgcckllcaa
