import Derived.Test.YteaenomfighaoaaShareNum
/- Free space among items, as numbers: Resolve's answer, what each round keeps. No program is named here. -/
namespace Go.Proofs.Yteaenomfighaoaa
open Go.RowKit
set_option linter.unusedVariables false
set_option linter.unusedSimpArgs false

structure Fx where
  base : Int
  mn : Int
  mx : Int
  grow : Int
  shrink : Int
  around : Int
/-- At most mx (where that is 0 or more), then at least mn, and at least 0. -/
def clF (x : Fx) (n : Int) : Int := max (max 0 x.mn) (if 0 ≤ x.mx then min n x.mx else n)
def hypF (x : Fx) : Int := clF x x.base
def facF (g : Bool) (x : Fx) : Int := if g then x.grow else x.shrink
def wtF (g : Bool) (x : Fx) : Int := if g then x.grow else x.base * x.shrink
def botF (x : Fx) : Int := max 0 x.mn
/-- The greatest that it can be (where mx is 0 or more). -/
def topF (x : Fx) : Int := max (max 0 x.mn) x.mx
structure It where
  x : Fx
  s : Int
  fz : Bool
def startI (g : Bool) (x : Fx) : It := ⟨x, hypF x, if g then decide (x.grow = 0) || decide (hypF x < x.base) else decide (x.shrink = 0) || decide (x.base < hypF x)⟩
/-- What of the room an item has taken. -/
def tkI (i : It) : Int := i.x.around + if i.fz then i.s else i.x.base
def freeI (inner : Int) (l : List It) : Int := inner - (l.map tkI).sum
def leftI (g : Bool) (inner : Int) (l : List It) : Int := if g then max (freeI inner l) 0 else min (freeI inner l) 0
def wtsI (g : Bool) (l : List It) : List Int := (l.filter (fun i => !i.fz)).map (fun i => wtF g i.x)
/-- Each of the others with its part: the item as it comes, and what it wanted. -/
def putI : List It → List Int → List (It × Int)
  | [], _ => []
  | i :: r, ps => if i.fz then (i, i.s) :: putI r ps else (⟨i.x, clF i.x (i.x.base + ps.headD 0), false⟩, i.x.base + ps.headD 0) :: putI r ps.tail
def overI (q : List (It × Int)) : Int := (q.map (fun p => p.1.s - p.2)).sum
def stopI (over : Int) (p : It × Int) : It := ⟨p.1.x, p.1.s, p.1.fz || decide (over = 0) || (decide (0 < over) && decide (0 < p.1.s - p.2)) || (decide (over < 0) && decide (p.1.s - p.2 < 0))⟩
def roundI (g : Bool) (inner : Int) (l : List It) : List It :=
  let q := putI l (shareZ (leftI g inner l) (wtsI g l))
  q.map (stopI (overI q))
def openI (l : List It) : Nat := (l.filter (fun i => !i.fz)).length
def runI (g : Bool) (inner : Int) : Nat → List It → List It
  | 0, l => l
  | k + 1, l => if openI l = 0 then l else runI g inner k (roundI g inner l)
def growsF (inner : Int) (l : List Fx) : Bool := decide ((l.map (fun x => hypF x + x.around)).sum < inner)
def sizesF (inner : Int) (l : List Fx) : List Int := (runI (growsF inner l) inner l.length (l.map (startI (growsF inner l)))).map It.s
structure FxOk (x : Fx) : Prop where
  b0 : 0 ≤ x.base
  b1 : x.base ≤ 8796093022208
  m0 : 0 ≤ x.mn
  m1 : x.mn ≤ 8796093022208
  x0 : -1 ≤ x.mx
  x1 : x.mx ≤ 8796093022208
  g0 : 0 ≤ x.grow
  g1 : x.grow ≤ 100
  s0 : 0 ≤ x.shrink
  s1 : x.shrink ≤ 100
  a0 : -8796093022208 ≤ x.around
  a1 : x.around ≤ 8796093022208

/-! ### Clamping -/
theorem clF_mono (x : Fx) {a b : Int} (h : a ≤ b) : clF x a ≤ clF x b := by unfold clF; split <;> omega
theorem clF_bot (x : Fx) (n : Int) : botF x ≤ clF x n := by unfold clF botF; omega
theorem clF_top (x : Fx) (n : Int) (h : 0 ≤ x.mx) : clF x n ≤ topF x := by unfold clF topF; rw [if_pos h]; omega
/-- What is more than was wanted is the least. -/
theorem clF_more (x : Fx) (n : Int) (h : n < clF x n) : clF x n = botF x := by unfold clF botF at *; split at h <;> rename_i h1 <;> simp only [h1, if_true, if_false] <;> omega
/-- What is less than was wanted is the most. -/
theorem clF_less (x : Fx) (n : Int) (h : clF x n < n) : 0 ≤ x.mx ∧ clF x n = topF x := by
  unfold clF topF at *
  split at h
  · rename_i h1; exact ⟨h1, by rw [if_pos h1]; omega⟩
  · omega

/-! ### A round keeps the items, and freezes what it freezes -/
theorem putI_len (l : List It) : ∀ ps, (putI l ps).length = l.length := by
  induction l with
  | nil => intro ps; rfl
  | cons i r ih => intro ps; unfold putI; split <;> simp [ih]
theorem roundI_len (g : Bool) (inner : Int) (l : List It) : (roundI g inner l).length = l.length := by unfold roundI; simp [putI_len]
theorem putI_x (l : List It) : ∀ ps, (putI l ps).map (fun p => p.1.x) = l.map It.x := by
  induction l with
  | nil => intro ps; rfl
  | cons i r ih => intro ps; unfold putI; split <;> simp [ih]
theorem roundI_x (g : Bool) (inner : Int) (l : List It) : (roundI g inner l).map It.x = l.map It.x := by
  unfold roundI
  rw [List.map_map]
  exact putI_x l _
theorem runI_x (g : Bool) (inner : Int) : ∀ (k : Nat) (l : List It), (runI g inner k l).map It.x = l.map It.x
  | 0, l => rfl
  | k + 1, l => by
    unfold runI
    split
    · rfl
    · rw [runI_x g inner k, roundI_x]
theorem runI_len (g : Bool) (inner : Int) (k : Nat) (l : List It) : (runI g inner k l).length = l.length := by
  have := congrArg List.length (runI_x g inner k l)
  simpa using this
theorem sizesF_len (inner : Int) (l : List Fx) : (sizesF inner l).length = l.length := by unfold sizesF; rw [List.length_map, runI_len, List.length_map]

/-- What a part of a round is like: frozen as it was, or its base and its part, clamped. -/
theorem putI_cases (l : List It) : ∀ ps, ∀ p ∈ putI l ps, (p.1.fz = true ∧ p.1 ∈ l ∧ p.2 = p.1.s) ∨ (p.1.fz = false ∧ p.1.s = clF p.1.x p.2 ∧ ∃ i ∈ l, i.fz = false ∧ i.x = p.1.x) := by
  induction l with
  | nil => intro ps p hp; simp [putI] at hp
  | cons i r ih =>
    intro ps p hp
    unfold putI at hp
    by_cases hf : i.fz = true
    · rw [if_pos hf, List.mem_cons] at hp
      rcases hp with rfl | hp
      · exact .inl ⟨hf, by simp, rfl⟩
      · rcases ih _ _ hp with ⟨a, b, c⟩ | ⟨a, b, j, hj, c⟩
        · exact .inl ⟨a, by simp [b], c⟩
        · exact .inr ⟨a, b, j, by simp [hj], c⟩
    · rw [if_neg hf, List.mem_cons] at hp
      rcases hp with rfl | hp
      · exact .inr ⟨rfl, rfl, i, by simp, by simpa using hf, rfl⟩
      · rcases ih _ _ hp with ⟨a, b, c⟩ | ⟨a, b, j, hj, c⟩
        · exact .inl ⟨a, by simp [b], c⟩
        · exact .inr ⟨a, b, j, by simp [hj], c⟩
/-- Some of the others are frozen in each round. -/
theorem sum_pos_ex (q : List (It × Int)) (h : 0 < overI q) : ∃ p ∈ q, 0 < p.1.s - p.2 := by
  induction q with
  | nil => simp [overI] at h
  | cons p r ih =>
    unfold overI at h ih
    simp only [List.map_cons, List.sum_cons] at h
    by_cases c : 0 < p.1.s - p.2
    · exact ⟨p, by simp, c⟩
    · obtain ⟨p', h1, h2⟩ := ih (by omega)
      exact ⟨p', by simp [h1], h2⟩
theorem sum_neg_ex (q : List (It × Int)) (h : overI q < 0) : ∃ p ∈ q, p.1.s - p.2 < 0 := by
  induction q with
  | nil => simp [overI] at h
  | cons p r ih =>
    unfold overI at h ih
    simp only [List.map_cons, List.sum_cons] at h
    by_cases c : p.1.s - p.2 < 0
    · exact ⟨p, by simp, c⟩
    · obtain ⟨p', h1, h2⟩ := ih (by omega)
      exact ⟨p', by simp [h1], h2⟩
end Go.Proofs.Yteaenomfighaoaa
