import Derived.Test.YthneapnijfmpmaaMem
/- Items across a line, as numbers. No program is named here. -/
namespace Go.Proofs.Ythneapnijfmpmaa
open Go Go.RowKit
set_option linter.unusedVariables false
set_option linter.unusedSimpArgs false

def selfZ (items self : Int) : Int := if self = 0 then items else wrap64 (self - 1)
def fillZ (line around least most : Int) : Int := max (max 0 least) (if 0 ≤ most then min (line - around) most else line - around)
def offZ (line outer : Int) (before after : Bool) (self : Int) (rev : Bool) : Int :=
  if before || after then (if line - outer ≤ 0 ∨ before = false then 0 else if after then (line - outer) / 2 else line - outer)
  else if self = 2 then (line - outer) / 2 else if decide (self = 1) != rev then line - outer else 0
/-- Where the k-th line begins. -/
def begZ (l : List Int) (whole : Int) (rev : Bool) (k : Nat) : Int := if rev then whole - (l.take k).sum - l.getD k 0 else (l.take k).sum
def begsZ (l : List Int) (whole : Int) (rev : Bool) : List Int := (List.range l.length).map (begZ l whole rev)
theorem begsZ_len (l : List Int) (whole : Int) (rev : Bool) : (begsZ l whole rev).length = l.length := by simp [begsZ]
theorem begsZ_at {l : List Int} {whole : Int} {rev : Bool} {P : List Int} (hP : begsZ l whole rev = P) {k : Nat} (h : k < l.length) (h' : k < P.length) : P[k] = if rev then whole - (l.take k).sum - l[k] else (l.take k).sum := by
  subst hP
  have e : (begsZ l whole rev)[k]? = some (begZ l whole rev k) := by simp [begsZ, h]
  rw [List.getElem?_eq_getElem h'] at e
  injection e with e
  rw [e]
  unfold begZ
  simp [List.getD, h]
theorem begsZ_take (l : List Int) (whole : Int) (rev : Bool) {k : Nat} (h : k < l.length) : (begsZ l whole rev).take (k + 1) = (begsZ l whole rev).take k ++ [if rev then whole - (l.take k).sum - l[k] else (l.take k).sum] := by
  have h' : k < (begsZ l whole rev).length := by rw [begsZ_len]; exact h
  rw [List.take_succ_eq_append_getElem h', begsZ_at rfl h h']
theorem sumC_take (l : List Int) {k : Nat} (h : k < l.length) : (l.take (k + 1)).sum = (l.take k).sum + l[k] := by
  rw [List.take_succ_eq_append_getElem h, List.sum_append]; simp
theorem sumC_bd {c : Int} (hc : 0 ≤ c) : ∀ (l : List Int), (∀ z ∈ l, -c ≤ z ∧ z ≤ c) → -(c * (l.length : Int)) ≤ l.sum ∧ l.sum ≤ c * (l.length : Int)
  | [], _ => by simp
  | z :: l, h => by
    have h1 := h z (List.mem_cons_self ..)
    have h2 := sumC_bd hc l fun y hy => h y (List.mem_cons_of_mem _ hy)
    rw [List.sum_cons, List.length_cons, Int.natCast_succ, Int.mul_add, Int.mul_one]; omega
theorem sumC_nn : ∀ (l : List Int), (∀ z ∈ l, 0 ≤ z) → 0 ≤ l.sum
  | [], _ => by simp
  | z :: l, h => by
    have h1 := h z (List.mem_cons_self ..)
    have h2 := sumC_nn l fun y hy => h y (List.mem_cons_of_mem _ hy)
    rw [List.sum_cons]; omega
theorem sumC_takebd {c : Int} (hc : 0 ≤ c) (l : List Int) (h : ∀ z ∈ l, -c ≤ z ∧ z ≤ c) (hl : l.length ≤ 60) (k : Nat) : -(c * 60) ≤ (l.take k).sum ∧ (l.take k).sum ≤ c * 60 := by
  have h1 := sumC_bd hc (l.take k) fun z hz => h z (List.mem_of_mem_take hz)
  have h2 : (l.take k).length ≤ 60 := by rw [List.length_take]; omega
  have h3 : c * ((l.take k).length : Int) ≤ c * 60 := Int.mul_le_mul_of_nonneg_left (by omega) hc
  omega
end Go.Proofs.Ythneapnijfmpmaa
