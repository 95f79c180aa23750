import Derived.Test.YtnhhalhaefeoeaaFoldNum
/- Boxes below each other: where they stand, and what they come to. No program is named here. -/
namespace Go.Proofs.Ytnhhalhaefeoeaa
set_option linter.unusedVariables false
set_option linter.unusedSimpArgs false

structure Ld where
  h : Int
  t : Fd
  b : Fd
  th : Bool
/-- What the boxes ahead come to: where the last one ends, the margins since then, whether all are still at the top, what went out there. -/
structure Sk where
  y : Int
  f : Fd
  a : Bool
  t : Fd
structure Sd where
  t : Fd
  b : Fd
  th : Bool
  h : Int
def zF : Fd := ⟨0, 0⟩
def posS (s : Sk) (f : Fd) : Int := if s.a then s.y else s.y + (f.p + f.q)
def atZ (s : Sk) (x : Ld) : Int := posS s (joinS s.f x.t)
def putS (s : Sk) (x : Ld) : Sk :=
  if x.th then ⟨s.y, joinS (joinS s.f x.t) x.b, s.a, s.t⟩ else ⟨atZ s x + x.h, x.b, false, if s.a then joinS s.f x.t else s.t⟩
def runS (s : Sk) (l : List Ld) : Sk := l.foldl putS s
def atL : Sk → List Ld → List Int
  | _, [] => []
  | s, x :: l => atZ s x :: atL (putS s x) l
def startS (top : Bool) : Sk := ⟨0, zF, top, zF⟩
def endS (s : Sk) (b : Bool) : Sd := if s.a then ⟨s.f, zF, b, 0⟩ else if b then ⟨s.t, s.f, false, max s.y 0⟩ else ⟨s.t, zF, false, max (s.y + (s.f.p + s.f.q)) 0⟩

theorem runS_snoc (s : Sk) (l : List Ld) (x : Ld) : runS s (l ++ [x]) = putS (runS s l) x := by unfold runS; rw [List.foldl_append]; rfl
theorem runS_append (s : Sk) (l m : List Ld) : runS s (l ++ m) = runS (runS s l) m := by unfold runS; rw [List.foldl_append]
theorem runS_take (s : Sk) (l : List Ld) (k : Nat) (h : k < l.length) : runS s (l.take (k + 1)) = putS (runS s (l.take k)) l[k] := by
  rw [List.take_succ_eq_append_getElem h, runS_snoc]
theorem atL_length : ∀ (s : Sk) (l : List Ld), (atL s l).length = l.length
  | _, [] => rfl
  | s, x :: l => by rw [atL, List.length_cons, List.length_cons, atL_length]
theorem atL_append : ∀ (s : Sk) (l m : List Ld), atL s (l ++ m) = atL s l ++ atL (runS s l) m
  | _, [], _ => rfl
  | s, x :: l, m => by rw [List.cons_append, atL, atL, atL_append, List.cons_append]; rfl
theorem atL_take (s : Sk) (l : List Ld) (k : Nat) (h : k < l.length) : atL s (l.take (k + 1)) = atL s (l.take k) ++ [atZ (runS s (l.take k)) l[k]] := by
  rw [List.take_succ_eq_append_getElem h, atL_append]; rfl
theorem atL_get : ∀ (s : Sk) (l : List Ld) (k : Nat) (h : k < (atL s l).length), (atL s l)[k] = atZ (runS s (l.take k)) (l[k]'(by rw [← atL_length s l]; exact h))
  | _, [], k, h => by simp [atL] at h
  | s, x :: l, 0, h => rfl
  | s, x :: l, k + 1, h => by
    simp only [atL, List.getElem_cons_succ, List.take_succ_cons]
    rw [atL_get]; rfl

/-- A box that may be. -/
structure LdOk (x : Ld) : Prop where
  h0 : 0 ≤ x.h
  h1 : x.h < 68719476736
  tp : 0 ≤ x.t.p
  tP : x.t.p < 4294967296
  tq : x.t.q ≤ 0
  tQ : -4294967296 < x.t.q
  bp : 0 ≤ x.b.p
  bP : x.b.p < 4294967296
  bq : x.b.q ≤ 0
  bQ : -4294967296 < x.b.q
  th : x.th = true → x.h = 0
structure StOk (k : Nat) (s : Sk) : Prop where
  fp : 0 ≤ s.f.p
  fP : s.f.p < 4294967296
  fq : s.f.q ≤ 0
  fQ : -4294967296 < s.f.q
  tp : 0 ≤ s.t.p
  tP : s.t.p < 4294967296
  tq : s.t.q ≤ 0
  tQ : -4294967296 < s.t.q
  yl : -137438953472 * (k : Int) ≤ s.y
  yh : s.y ≤ 137438953472 * (k : Int)
  top : s.a = true → s.y = 0
theorem startS_ok (top : Bool) : StOk 0 (startS top) := by
  cases top <;> exact ⟨by decide, by decide, by decide, by decide, by decide, by decide, by decide, by decide, by decide, by decide, fun _ => rfl⟩
theorem putS_ok {k : Nat} {s : Sk} {x : Ld} (h : StOk k s) (hx : LdOk x) : StOk (k + 1) (putS s x) ∧ -137438953472 * ((k : Int) + 1) ≤ atZ s x ∧ atZ s x ≤ 137438953472 * ((k : Int) + 1) := by
  obtain ⟨a1, a2, a3, a4, a5, a6, a7, a8, a9, a10, a11⟩ := h
  obtain ⟨b1, b2, b3, b4, b5, b6, b7, b8, b9, b10, b11⟩ := hx
  have hat : (s.a = true → atZ s x = 0) ∧ -137438953472 * (k : Int) - 4294967296 ≤ atZ s x ∧ atZ s x ≤ 137438953472 * (k : Int) + 4294967296 := by
    unfold atZ posS
    cases ha : s.a
    · simp only [Bool.false_eq_true, if_false, false_implies, true_and, joinS]; omega
    · simp only [if_true]; have := a11 ha; omega
  refine ⟨?_, by omega, by omega⟩
  unfold putS
  cases ht : x.th
  · simp only [Bool.false_eq_true, if_false]
    refine ⟨b7, b8, b9, b10, ?_, ?_, ?_, ?_, ?_, ?_, by simp⟩
    all_goals first | (simp only; split <;> first | assumption | (simp only [joinS]; omega)) | (simp only [Int.natCast_add, Int.natCast_one]; omega)
  · simp only [if_true]
    exact ⟨by simp only [joinS]; omega, by simp only [joinS]; omega, by simp only [joinS]; omega, by simp only [joinS]; omega, a5, a6, a7, a8, by simp only [Int.natCast_add, Int.natCast_one]; omega, by simp only [Int.natCast_add, Int.natCast_one]; omega, a11⟩
theorem runS_ok : ∀ (l : List Ld) {k : Nat} {s : Sk}, StOk k s → (∀ x ∈ l, LdOk x) → StOk (k + l.length) (runS s l)
  | [], k, s, h, _ => h
  | x :: l, k, s, h, hl => by
    have := runS_ok l (putS_ok h (hl x List.mem_cons_self)).1 fun z hz => hl z (List.mem_cons_of_mem _ hz)
    rw [List.length_cons, show k + (l.length + 1) = k + 1 + l.length by omega]
    exact this
theorem take_ok {l : List Ld} (hl : ∀ x ∈ l, LdOk x) (top : Bool) (k : Nat) (hk : k ≤ l.length) : StOk k (runS (startS top) (l.take k)) := by
  have := runS_ok (l.take k) (startS_ok top) fun x hx => hl x (List.mem_of_mem_take hx)
  rwa [Nat.zero_add, List.length_take, Nat.min_eq_left hk] at this
end Go.Proofs.Ytnhhalhaefeoeaa
