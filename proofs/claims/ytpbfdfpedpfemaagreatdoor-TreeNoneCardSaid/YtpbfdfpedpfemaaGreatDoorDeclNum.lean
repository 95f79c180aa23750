import Derived.Test.YtpbfdfpedpfemaaGreatDoorNear
/- Declarations and styles as plain numbers. No program is named here. -/
set_option linter.unusedSimpArgs false
namespace Go.Proofs.YtpbfdfpedpfemaaGreatDoor
open Go.RowKit
set_option linter.unusedVariables false

/-- How many words a Prop has. -/
def wordsN (p : Int) : Int :=
  if p = 1 ∨ p = 20 ∨ p = 27 then 4 else if p = 21 ∨ p = 29 ∨ p = 30 then 3 else if p = 26 ∨ p = 28 then 5 else if p = 32 then 2 else 0
/-- Could a text tell a declaration of Prop p, Word w, Len (k, n)? -/
def mayP (p w k n : Int) : Prop :=
  if p < 1 ∨ 32 < p then False
  else if 0 < wordsN p then 0 ≤ w ∧ w < wordsN p ∧ k = 0 ∧ n = 0
  else if p = 23 ∨ p = 24 then 0 ≤ w ∧ w ≤ 100 ∧ k = 0 ∧ n = 0
  else if p = 25 then -1000 ≤ w ∧ w ≤ 1000 ∧ k = 0 ∧ n = 0
  else if (12 ≤ p ∧ p ≤ 19) ∨ p = 31 then w = 0 ∧ k = 1 ∧ 0 ≤ n ∧ n ≤ 6400000
  else if 8 ≤ p ∧ p ≤ 11 then w = 0 ∧ ((k = 1 ∧ -6400000 ≤ n ∧ n ≤ 6400000) ∨ (k = 2 ∧ -999999 ≤ n ∧ n ≤ 999999) ∨ (k = 0 ∧ n = 0))
  else if p = 4 ∨ p = 5 then w = 0 ∧ ((k = 1 ∧ 0 ≤ n ∧ n ≤ 6400000) ∨ (k = 2 ∧ 0 ≤ n ∧ n ≤ 999999))
  else w = 0 ∧ ((k = 1 ∧ 0 ≤ n ∧ n ≤ 6400000) ∨ (k = 2 ∧ 0 ≤ n ∧ n ≤ 999999) ∨ (k = 0 ∧ n = 0))
instance (p w k n : Int) : Decidable (mayP p w k n) := by unfold mayP; infer_instance
def mayZ (p w k n : Int) : Bool := decide (mayP p w k n)
/-- Where a Prop's cells begin, of a style's 43. -/
def offZ (p : Int) : Nat :=
  if p = 1 then 0 else if p = 20 then 1 else if p = 21 then 2 else if p = 26 then 3 else if p = 27 then 4 else if p = 28 then 5 else if p = 29 then 6 else if p = 30 then 7 else if p = 32 then 8
  else if p = 22 then 21 else if p < 8 then (2 * p + 5).toNat else if p < 12 then (2 * p + 7).toNat else if p < 20 then (p + 19).toNat else if p = 31 then 42 else (p + 16).toNat
/-- A style's cells with a declaration laid over. -/
def laidZ (zs : List Int) (p w k n : Int) : List Int :=
  if p < 1 ∨ 32 < p then zs
  else if 0 < wordsN p ∨ (23 ≤ p ∧ p ≤ 25) then zs.set (offZ p) w
  else if (12 ≤ p ∧ p ≤ 19) ∨ p = 31 then zs.set (offZ p) n
  else (zs.set (offZ p) k).set (offZ p + 1) n
theorem laidZ_length (zs : List Int) (p w k n : Int) : (laidZ zs p w k n).length = zs.length := by
  unfold laidZ; split <;> try split <;> try split
  all_goals simp
/-- What is initial. -/
def initZ : List Int := [1, 0, 0, 0, 3, 0, 0, 0, 0,  0, 0, 0, 0, 1, 0, 1, 0, 0, 0, 0, 0, 0, 0,  1, 0, 1, 0, 1, 0, 1, 0,  0, 0, 0, 0,  0, 0, 0, 0,  0, 1, 0,  1280]
structure Dc where
  p : Int
  w : Int
  k : Int
  n : Int
def dCells : List Dc → List Int
  | [] => []
  | d :: r => d.p :: d.w :: d.k :: d.n :: dCells r
/-- A style with each of a row laid over. -/
def styleZ (zs : List Int) : List Dc → List Int
  | [] => zs
  | d :: r => styleZ (if mayZ d.p d.w d.k d.n = true then laidZ zs d.p d.w d.k d.n else zs) r
theorem dCells_length (l : List Dc) : (dCells l).length = l.length * 4 := by
  induction l with
  | nil => rfl
  | cons d r ih => simp [dCells, ih]; omega
theorem dCells_append (a b : List Dc) : dCells (a ++ b) = dCells a ++ dCells b := by
  induction a with
  | nil => rfl
  | cons d r ih => simp [dCells, ih]
theorem dCells_get (l : List Dc) : ∀ k (h : k < l.length), (dCells l)[k * 4]? = some l[k].p ∧ (dCells l)[k * 4 + 1]? = some l[k].w ∧ (dCells l)[k * 4 + 2]? = some l[k].k ∧ (dCells l)[k * 4 + 3]? = some l[k].n := by
  induction l with
  | nil => intro k h; simp at h
  | cons d r ih =>
    intro k h
    cases k with
    | zero => exact ⟨rfl, rfl, rfl, rfl⟩
    | succ k =>
      have := ih k (by simpa using h)
      rw [show (k + 1) * 4 = k * 4 + 1 + 1 + 1 + 1 by omega]
      simpa [dCells] using this
theorem styleZ_append (a b : List Dc) : ∀ zs, styleZ zs (a ++ b) = styleZ (styleZ zs a) b := by
  induction a with
  | nil => intro zs; rfl
  | cons d r ih => intro zs; simp [styleZ, ih]
theorem styleZ_length (l : List Dc) : ∀ zs, (styleZ zs l).length = zs.length := by
  induction l with
  | nil => intro zs; rfl
  | cons d r ih => intro zs; rw [styleZ, ih]; split <;> simp [laidZ_length]
theorem styleZ_take (zs : List Int) (l : List Dc) (k : Nat) (h : k < l.length) :
    styleZ zs (l.take (k + 1)) = if mayZ l[k].p l[k].w l[k].k l[k].n = true then laidZ (styleZ zs (l.take k)) l[k].p l[k].w l[k].k l[k].n else styleZ zs (l.take k) := by
  rw [List.take_succ_eq_append_getElem h, styleZ_append]; rfl

def pxB (w k n : Int) : Bool := decide (w = 0 ∧ k = 1 ∧ -6400000 ≤ n ∧ n ≤ 6400000)
def pctB (w k n : Int) : Bool := decide (w = 0 ∧ k = 2 ∧ -999999 ≤ n ∧ n ≤ 999999)
def autoB (w k n : Int) : Bool := decide (w = 0 ∧ k = 0 ∧ n = 0)
section
variable {p w k n : Int}
theorem wordsN_none (h : ¬ (p = 1 ∨ p = 20 ∨ p = 21 ∨ p = 26 ∨ p = 27 ∨ p = 28 ∨ p = 29 ∨ p = 30 ∨ p = 32)) : wordsN p = 0 := by
  unfold wordsN
  rw [if_neg (by omega), if_neg (by omega), if_neg (by omega), if_neg (by omega)]
theorem wordsN_pos (h : p = 1 ∨ p = 20 ∨ p = 21 ∨ p = 26 ∨ p = 27 ∨ p = 28 ∨ p = 29 ∨ p = 30 ∨ p = 32) : 0 < wordsN p ∧ wordsN p ≤ 5 := by
  rcases h with rfl | rfl | rfl | rfl | rfl | rfl | rfl | rfl | rfl <;> decide
theorem wordsN_le (p : Int) : 0 ≤ wordsN p ∧ wordsN p ≤ 5 := by
  by_cases h : p = 1 ∨ p = 20 ∨ p = 21 ∨ p = 26 ∨ p = 27 ∨ p = 28 ∨ p = 29 ∨ p = 30 ∨ p = 32
  · have := wordsN_pos h; omega
  · rw [wordsN_none h]; decide
theorem may_iff : (mayZ p w k n = true) ↔ mayP p w k n := by unfold mayZ; exact decide_eq_true_iff
theorem may_out (h : p < 1 ∨ 32 < p) : mayZ p w k n = false := by
  rw [Bool.eq_false_iff]; intro h1; rw [may_iff] at h1; unfold mayP at h1; rw [if_pos h] at h1; exact h1
theorem may_words (h : p = 1 ∨ p = 20 ∨ p = 21 ∨ p = 26 ∨ p = 27 ∨ p = 28 ∨ p = 29 ∨ p = 30 ∨ p = 32) : mayZ p w k n = decide (0 ≤ w ∧ w < wordsN p ∧ k = 0 ∧ n = 0) := by
  have h1 := wordsN_pos h
  rw [Bool.eq_iff_iff, may_iff, decide_eq_true_iff]; unfold mayP
  rw [if_neg (by omega), if_pos h1.1]
theorem may_whole (h : p = 23 ∨ p = 24) : mayZ p w k n = decide (0 ≤ w ∧ w ≤ 100 ∧ k = 0 ∧ n = 0) := by
  have h1 := wordsN_none (p := p) (by omega)
  rw [Bool.eq_iff_iff, may_iff, decide_eq_true_iff]; unfold mayP
  rw [if_neg (by omega), if_neg (by omega), if_pos h]
theorem may_order (h : p = 25) : mayZ p w k n = decide (-1000 ≤ w ∧ w ≤ 1000 ∧ k = 0 ∧ n = 0) := by
  have h1 := wordsN_none (p := p) (by omega)
  rw [Bool.eq_iff_iff, may_iff, decide_eq_true_iff]; unfold mayP
  rw [if_neg (by omega), if_neg (by omega), if_neg (by omega), if_pos h]
theorem may_px (h : (12 ≤ p ∧ p ≤ 19) ∨ p = 31) : mayZ p w k n = (pxB w k n && decide (0 ≤ n)) := by
  have h1 := wordsN_none (p := p) (by omega)
  rw [Bool.eq_iff_iff, may_iff]; unfold mayP pxB
  rw [if_neg (by omega), if_neg (by omega), if_neg (by omega), if_neg (by omega), if_pos h]
  simp only [Bool.and_eq_true, Bool.or_eq_true, decide_eq_true_iff]
  omega
theorem may_margin (h : 8 ≤ p ∧ p ≤ 11) : mayZ p w k n = (pxB w k n || pctB w k n || autoB w k n) := by
  have h1 := wordsN_none (p := p) (by omega)
  rw [Bool.eq_iff_iff, may_iff]; unfold mayP pxB pctB autoB
  rw [if_neg (by omega), if_neg (by omega), if_neg (by omega), if_neg (by omega), if_neg (by omega), if_pos h]
  simp only [Bool.and_eq_true, Bool.or_eq_true, decide_eq_true_iff]
  omega
theorem may_min (h : p = 4 ∨ p = 5) : mayZ p w k n = ((pxB w k n || pctB w k n) && decide (0 ≤ n)) := by
  have h1 := wordsN_none (p := p) (by omega)
  rw [Bool.eq_iff_iff, may_iff]; unfold mayP pxB pctB
  rw [if_neg (by omega), if_neg (by omega), if_neg (by omega), if_neg (by omega), if_neg (by omega), if_neg (by omega), if_pos h]
  simp only [Bool.and_eq_true, Bool.or_eq_true, decide_eq_true_iff]
  omega
theorem may_rest (h : p = 2 ∨ p = 3 ∨ p = 6 ∨ p = 7 ∨ p = 22) : mayZ p w k n = (((pxB w k n || pctB w k n) && decide (0 ≤ n)) || autoB w k n) := by
  have h1 := wordsN_none (p := p) (by omega)
  rw [Bool.eq_iff_iff, may_iff]; unfold mayP pxB pctB autoB
  rw [if_neg (by omega), if_neg (by omega), if_neg (by omega), if_neg (by omega), if_neg (by omega), if_neg (by omega), if_neg (by omega)]
  simp only [Bool.and_eq_true, Bool.or_eq_true, decide_eq_true_iff]
  omega
end
end Go.Proofs.YtpbfdfpedpfemaaGreatDoor
