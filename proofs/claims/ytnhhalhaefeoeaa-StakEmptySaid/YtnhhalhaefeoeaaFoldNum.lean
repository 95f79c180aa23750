/- Margins that meet: sets as two numbers, a row of them joined. No program is named here. -/
namespace Go.Proofs.Ytnhhalhaefeoeaa
set_option linter.unusedVariables false
set_option linter.unusedSimpArgs false

structure Fd where
  p : Int
  q : Int
def joinS (a f : Fd) : Fd := ⟨max a.p f.p, min a.q f.q⟩
def foldF (l : List Fd) : Fd := l.foldl joinS ⟨0, 0⟩
/-- One margin. -/
def oneF (n : Int) : Fd := ⟨max n 0, min n 0⟩
theorem foldF_take (l : List Fd) (k : Nat) (h : k < l.length) : foldF (l.take (k + 1)) = joinS (foldF (l.take k)) l[k] := by
  unfold foldF
  rw [List.take_succ_eq_append_getElem h, List.foldl_append]; rfl
theorem foldF_snoc (l : List Fd) (f : Fd) : foldF (l ++ [f]) = joinS (foldF l) f := by unfold foldF; rw [List.foldl_append]; rfl
theorem joinS_assoc (a b c : Fd) : joinS (joinS a b) c = joinS a (joinS b c) := by
  unfold joinS; simp only [Fd.mk.injEq]; omega
theorem joinS_comm (a b : Fd) : joinS a b = joinS b a := by unfold joinS; simp only [Fd.mk.injEq]; omega
def Sgn (f : Fd) : Prop := 0 ≤ f.p ∧ f.q ≤ 0
theorem sgn_join {a b : Fd} (h : Sgn a) : Sgn (joinS a b) := by unfold Sgn joinS at *; simp only; omega
theorem foldl_from : ∀ (l : List Fd) (a : Fd), Sgn a → l.foldl joinS a = joinS a (foldF l)
  | [], a, h => by obtain ⟨h1, h2⟩ := h; obtain ⟨p, q⟩ := a; unfold foldF joinS; simp only [List.foldl_nil, Fd.mk.injEq] at *; omega
  | f :: l, a, h => by
    have e1 := foldl_from l (joinS a f) (sgn_join h)
    have e2 := foldl_from l (joinS ⟨0, 0⟩ f) (by unfold Sgn joinS; simp only; omega)
    have e3 : foldF (f :: l) = l.foldl joinS (joinS ⟨0, 0⟩ f) := rfl
    rw [List.foldl_cons, e1, e3, e2, joinS_assoc]
    obtain ⟨h1, h2⟩ := h
    unfold joinS
    simp only [Fd.mk.injEq]
    omega
theorem foldF_sgn (l : List Fd) : Sgn (foldF l) := by
  have : ∀ (l : List Fd) (a : Fd), Sgn a → Sgn (l.foldl joinS a) := fun l => by
    induction l with
    | nil => exact fun a h => h
    | cons f l ih => exact fun a h => ih _ (sgn_join h)
  exact this l _ ⟨Int.le_refl _, Int.le_refl _⟩
theorem foldF_append (a b : List Fd) : foldF (a ++ b) = joinS (foldF a) (foldF b) := by
  have : foldF (a ++ b) = b.foldl joinS (foldF a) := by unfold foldF; rw [List.foldl_append]
  rw [this, foldl_from b _ (foldF_sgn a)]
theorem foldF_two (a b : Fd) (ha : Sgn a) : foldF [a, b] = joinS a b := by
  obtain ⟨h1, h2⟩ := ha
  unfold foldF joinS; simp only [List.foldl_cons, List.foldl_nil, Fd.mk.injEq]; omega
theorem foldF_one (a : Fd) (ha : Sgn a) : foldF [a] = a := by
  obtain ⟨h1, h2⟩ := ha
  obtain ⟨p, q⟩ := a
  unfold foldF; simp only [List.foldl_cons, List.foldl_nil]; unfold joinS; simp only [Fd.mk.injEq] at *; omega
/-- All of them twice, from the last one on. -/
def backF (l : List Fd) : List Fd := l.reverse.flatMap fun f => [f, f]
theorem foldF_perm : ∀ (l : List Fd), foldF (backF l) = foldF l
  | [] => rfl
  | f :: l => by
    have e : backF (f :: l) = backF l ++ [f, f] := by unfold backF; rw [List.reverse_cons, List.flatMap_append]; rfl
    have e2 : foldF (f :: l) = joinS (foldF [f]) (foldF l) := foldF_append [f] l
    have e3 : foldF [f, f] = foldF [f] := by
      unfold foldF; simp only [List.foldl_cons, List.foldl_nil]; unfold joinS; simp only [Fd.mk.injEq]; omega
    rw [e, foldF_append, foldF_perm l, e2, e3, joinS_comm]
/-- Bounds: numbers within B. -/
theorem foldF_bd (B : Int) (hB : 0 ≤ B) : ∀ (l : List Fd), (∀ f ∈ l, f.p ≤ B ∧ -B ≤ f.q) → (foldF l).p ≤ B ∧ -B ≤ (foldF l).q := fun l => by
  have : ∀ (l : List Fd) (a : Fd), (a.p ≤ B ∧ -B ≤ a.q) → (∀ f ∈ l, f.p ≤ B ∧ -B ≤ f.q) → (l.foldl joinS a).p ≤ B ∧ -B ≤ (l.foldl joinS a).q := fun l => by
    induction l with
    | nil => exact fun a h _ => h
    | cons f l ih =>
      intro a h hl
      refine ih _ ?_ fun x hx => hl x (List.mem_cons_of_mem _ hx)
      have := hl f List.mem_cons_self
      unfold joinS; simp only; omega
  exact this l _ ⟨hB, by show -B ≤ (0 : Int); omega⟩
/-- A far margin. -/
def ftameZ (z : Int) : Int := z.tmod 1099511627776
theorem ftameZ_bd (z : Int) : -1099511627776 < ftameZ z ∧ ftameZ z < 1099511627776 := by
  unfold ftameZ
  have h1 := Int.tmod_lt_of_pos z (show (0:Int) < 1099511627776 by decide)
  have h2 : -1099511627776 < z.tmod 1099511627776 := by
    have := Int.tmod_lt_of_pos (-z) (show (0:Int) < 1099511627776 by decide)
    rw [Int.neg_tmod] at this
    omega
  exact ⟨h2, h1⟩
end Go.Proofs.Ytnhhalhaefeoeaa
