import Derived.Test.YtmlnpphblicghaaByteRow
import Derived.Test.YtmlnpphblicghaaFlatMem
/- How wide a text is, by numbers. -/
namespace Go.Proofs.Ytmlnpphblicghaa
open Go Go.RowKit
set_option linter.unusedVariables false
set_option linter.unusedSimpArgs false

def advZ (n : Int) : Int := max 0 (min n 65536)
def atZ (zs : List Int) (b : UInt8) : Int := advZ (zs.getD b.toNat 0)
def wideL (zs : List Int) (l : List UInt8) : Int := (l.map (atZ zs)).sum
def wideZ (zs : List Int) (s : ByteArray) : Int := wideL zs (bytesOf s)
def upZ (n : Int) : Int := if n < 0 then 0 else (n + 1) / 2
def okZ (zs : List Int) : Bool := zs.all fun z => decide (0 ≤ z ∧ z ≤ 65536)
theorem advZ_bd (n : Int) : 0 ≤ advZ n ∧ advZ n ≤ 65536 := by unfold advZ; omega
theorem wideL_bd (zs : List Int) : ∀ l : List UInt8, 0 ≤ wideL zs l ∧ wideL zs l ≤ 65536 * l.length
  | [] => by simp [wideL]
  | b :: r => by
    obtain ⟨h1, h2⟩ := wideL_bd zs r
    obtain ⟨h3, h4⟩ := advZ_bd (zs.getD b.toNat 0)
    have e : wideL zs (b :: r) = atZ zs b + wideL zs r := by simp [wideL]
    have e2 : atZ zs b = advZ (zs.getD b.toNat 0) := rfl
    rw [e, List.length_cons]
    omega
theorem wideL_append (zs : List Int) (l r : List UInt8) : wideL zs (l ++ r) = wideL zs l + wideL zs r := by simp [wideL, List.sum_append]
theorem wideL_take (zs : List Int) (s : ByteArray) (k : Nat) (h : k < s.size) : wideL zs ((bytesOf s).take (k + 1)) = wideL zs ((bytesOf s).take k) + advZ (zs.getD s[k].toNat 0) := by
  have hl : k < (bytesOf s).length := by rw [bytesOf_length]; exact h
  rw [List.take_succ_eq_append_getElem hl, wideL_append]
  simp [wideL, atZ, bytesOf_get s k h]
theorem wideL_all (zs : List Int) (s : ByteArray) : wideL zs ((bytesOf s).take s.size) = wideZ zs s := by
  rw [List.take_of_length_le (by rw [bytesOf_length]; omega)]; rfl
theorem wideZ_bd (zs : List Int) (s : ByteArray) : 0 ≤ wideZ zs s ∧ wideZ zs s ≤ 65536 * s.size := by
  have := wideL_bd zs (bytesOf s)
  rw [bytesOf_length] at this
  exact this
def tm1 (z : Int) : Int := z % 18446744073709551616 % 65537
def tmF (small : Bool) (z : Int) : Int := if small then tm1 z % 16 else tm1 z
def midL (zs : List Int) (small : Bool) (k : Nat) : List Int := (zs.take k).map (tmF small) ++ zs.drop k
def boostL (r : List Int) : List Int := (((r.set 97 (r.getD 97 0 + 64)).set 98 (r.getD 98 0 + 100)).set 99 (r.getD 99 0 + 640)).set 32 (r.getD 32 0 + 32)
def tameM (zs : List Int) (small : Bool) : List Int := if small then boostL (zs.map (tmF true)) else zs.map (tmF false)
theorem tm1_bd (z : Int) : 0 ≤ tm1 z ∧ tm1 z ≤ 65536 := by unfold tm1; omega
theorem tmF_bd (b : Bool) (z : Int) : 0 ≤ tmF b z ∧ tmF b z ≤ 65536 := by have := tm1_bd z; unfold tmF; cases b <;> simp <;> omega
theorem boostL_length (r : List Int) : (boostL r).length = r.length := by simp [boostL]
theorem tameM_length (zs : List Int) (b : Bool) (h : zs.length = 256) : (tameM zs b).length = 256 := by unfold tameM; cases b <;> simp [boostL_length, h]
theorem midL_length (zs : List Int) (b : Bool) (k : Nat) : (midL zs b k).length = zs.length := by
  unfold midL; rw [List.length_append, List.length_map, List.length_take, List.length_drop]; omega
theorem midL_zero (zs : List Int) (b : Bool) : midL zs b 0 = zs := by simp [midL]
theorem midL_all (zs : List Int) (b : Bool) (n : Nat) (h : zs.length = n) : midL zs b n = zs.map (tmF b) := by simp [midL, List.take_of_length_le (show zs.length ≤ n by omega), List.drop_of_length_le (show zs.length ≤ n by omega)]
theorem midL_get (zs : List Int) (b : Bool) (k : Nat) (h : k < zs.length) : (midL zs b k).getD k 0 = zs.getD k 0 := by
  simp [midL, List.getD, List.getElem?_append, List.getElem?_drop, Nat.min_eq_left (Nat.le_of_lt h)]
theorem midL_step (zs : List Int) (b : Bool) (k : Nat) (h : k < zs.length) : (midL zs b k).set k (tmF b (zs.getD k 0)) = midL zs b (k + 1) := by
  have hl : ((zs.take k).map (tmF b)).length = k := by rw [List.length_map, List.length_take]; omega
  unfold midL
  rw [List.set_append_right _ _ (by omega), hl, Nat.sub_self, List.drop_eq_getElem_cons h, List.set_cons_zero, List.take_succ_eq_append_getElem h, List.map_append]
  simp [List.getD, List.getElem?_eq_getElem h]
theorem map_getD (f : Int → Int) (zs : List Int) (i : Nat) (h : i < zs.length) : (zs.map f).getD i 0 = f (zs.getD i 0) := by simp [List.getD, List.getElem?_eq_getElem h]
theorem tm1_code (z : Int) : wrap64 ((IntKind.u64.wrap z).tmod 65537) = tm1 z := by
  have h : IntKind.u64.wrap z = z % 18446744073709551616 := by simp [IntKind.wrap, IntKind.bits, IntKind.signed]
  have h1 : 0 ≤ z % 18446744073709551616 := by omega
  rw [h, Int.tmod_eq_emod_of_nonneg h1]
  unfold wrap64 tm1
  omega
theorem tameM_in (zs : List Int) (i : Nat) (h : i < zs.length) : 0 ≤ (tameM zs false).getD i 0 ∧ (tameM zs false).getD i 0 ≤ 65536 := by
  have := tmF_bd false zs[i]
  simpa [tameM, List.getD, List.getElem?_eq_getElem h] using this
theorem bytesOf_append (a b : ByteArray) : bytesOf (a ++ b) = bytesOf a ++ bytesOf b := by simp [bytesOf]
theorem bytesOf_extract (s : ByteArray) (i j : Nat) : bytesOf (s.extract i j) = ((bytesOf s).drop i).take (j - i) := by
  simp [bytesOf, List.drop_take]
theorem bytesOf_one (s : ByteArray) (k : Nat) (h : k < s.size) : bytesOf (s.extract k (k + 1)) = [s[k]] := by
  have hl : k < (bytesOf s).length := by rw [bytesOf_length]; exact h
  rw [bytesOf_extract, show k + 1 - k = 1 by omega, List.drop_eq_getElem_cons hl, List.take_succ_cons, List.take_zero, bytesOf_get s k h]
theorem wideL_reverse (zs : List Int) (l : List UInt8) : wideL zs l.reverse = wideL zs l := by
  simp [wideL, List.map_reverse, List.sum_reverse]
theorem wideZ_append (zs : List Int) (a b : ByteArray) : wideZ zs (a ++ b) = wideZ zs a + wideZ zs b := by
  unfold wideZ; rw [bytesOf_append, wideL_append]
theorem wideZ_halves (zs : List Int) (s : ByteArray) (k : Nat) (h : k ≤ s.size) : wideZ zs s = wideZ zs (s.extract 0 k) + wideZ zs (s.extract k s.size) := by
  unfold wideZ
  rw [bytesOf_extract, bytesOf_extract, ← wideL_append]
  congr 1
  have hl := bytesOf_length s
  rw [List.drop_zero, Nat.sub_zero, List.take_of_length_le (l := (bytesOf s).drop k) (by rw [List.length_drop]; omega), List.take_append_drop]
theorem wideZ_empty (zs : List Int) : wideZ zs ⟨#[]⟩ = 0 := by rfl
theorem wideZ_one (zs : List Int) (s : ByteArray) (k : Nat) (h : k < s.size) : wideZ zs (s.extract k (k + 1)) = advZ (zs.getD s[k].toNat 0) := by
  unfold wideZ; rw [bytesOf_one s k h]; simp [wideL, atZ]
theorem pow30_code (z : Int) : wrap64 ((IntKind.u64.wrap z).tmod 1073741824) = z % 1073741824 := by
  have h : IntKind.u64.wrap z = z % 18446744073709551616 := by simp [IntKind.wrap, IntKind.bits, IntKind.signed]
  have h1 : 0 ≤ z % 18446744073709551616 := by omega
  rw [h, Int.tmod_eq_emod_of_nonneg h1]
  unfold wrap64
  omega
theorem upZ_half (n : Int) (h : 0 ≤ n) : 0 ≤ 2 * upZ n - n ∧ 2 * upZ n - n ≤ 1 := by unfold upZ; rw [if_neg (by omega)]; omega
end Go.Proofs.Ytmlnpphblicghaa
