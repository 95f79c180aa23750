import Derived.Test.YtodnplllkpgfaaaFreeRow
/- The places of those that are open, and a round over them alone. No program is named here. -/
namespace Go.Proofs.Ytodnplllkpgfaaa
open Go Go.RowKit
set_option linter.unusedVariables false
set_option linter.unusedSimpArgs false

/-- The places of those that are open, from j on. -/
def plcI : Nat → List It → List Nat
  | _, [] => []
  | j, i :: r => if i.fz then plcI (j + 1) r else j :: plcI (j + 1) r
theorem plcI_len : ∀ (l : List It) (j : Nat), (plcI j l).length = openI l
  | [], _ => rfl
  | i :: r, j => by
    rw [plcI, openI_cons]
    by_cases h : i.fz = true
    · rw [if_pos h, if_pos h, plcI_len r]
    · rw [if_neg h, if_neg h, List.length_cons, plcI_len r]
theorem plcI_append : ∀ (l m : List It) (j : Nat), plcI j (l ++ m) = plcI j l ++ plcI (j + l.length) m
  | [], m, j => by simp [plcI]
  | i :: r, m, j => by
    rw [List.cons_append, plcI, plcI, plcI_append r m (j + 1)]
    have e : j + 1 + r.length = j + (i :: r).length := by simp; omega
    rw [e]
    split <;> simp
theorem plcI_take (l : List It) (k : Nat) (h : k < l.length) : plcI 0 (l.take (k + 1)) = plcI 0 (l.take k) ++ (if l[k].fz = true then [] else [k]) := by
  rw [List.take_succ_eq_append_getElem h, plcI_append]
  congr 1
  have e : 0 + (l.take k).length = k := by rw [List.length_take]; omega
  rw [e, plcI, plcI]
/-- The m-th of them. -/
theorem plcI_get : ∀ (l : List It) (j m : Nat) (h : m < (plcI j l).length), ∃ i, ∃ hi : i < l.length, (plcI j l)[m] = j + i ∧ l[i].fz = false ∧ openI (l.take i) = m
  | [], j, m, h => by simp [plcI] at h
  | a :: r, j, m, h => by
    by_cases hf : a.fz = true
    · have e : plcI j (a :: r) = plcI (j + 1) r := by rw [plcI, if_pos hf]
      have h' : m < (plcI (j + 1) r).length := by rw [← e]; exact h
      obtain ⟨i, hi, h1, h2, h3⟩ := plcI_get r (j + 1) m h'
      refine ⟨i + 1, by simp; omega, ?_, by simpa using h2, ?_⟩
      · simp only [e]; omega
      · rw [List.take_succ_cons, openI_cons, if_pos hf]; exact h3
    · have e : plcI j (a :: r) = j :: plcI (j + 1) r := by rw [plcI, if_neg hf]
      cases m with
      | zero => exact ⟨0, by simp, by simp only [e]; rfl, by simpa using hf, rfl⟩
      | succ m =>
        have h' : m < (plcI (j + 1) r).length := by rw [e] at h; simpa using h
        obtain ⟨i, hi, h1, h2, h3⟩ := plcI_get r (j + 1) m h'
        refine ⟨i + 1, by simp; omega, ?_, by simpa using h2, ?_⟩
        · simp only [e, List.getElem_cons_succ]; omega
        · rw [List.take_succ_cons, openI_cons, if_neg hf, h3]
theorem open_mono (l : List It) {a b : Nat} (h : a ≤ b) : openI (l.take a) ≤ openI (l.take b) := by
  have h1 := openI_both (l.take a) ((l.take b).drop a)
  have e : l.take a = (l.take b).take a := by rw [List.take_take, Nat.min_eq_left h]
  rw [e, List.take_append_drop] at h1
  rw [e]; omega
/-- What only those that are open turn stays over the frozen ones. -/
theorem skip_to {α : Type} {F : Nat → α} {l : List It} (hF : ∀ j (h : j < l.length), l[j].fz = true → F (j + 1) = F j) {a : Nat} : ∀ d, a + d ≤ l.length → openI (l.take (a + d)) = openI (l.take a) → F (a + d) = F a
  | 0, _, _ => rfl
  | d + 1, hl, ho => by
    have h1 : a + d < l.length := by omega
    have h2 := openI_take l (a + d) h1
    have h3 := open_mono l (show a ≤ a + d by omega)
    have e : a + (d + 1) = a + d + 1 := by omega
    rw [e] at ho ⊢
    by_cases hf : l[a + d].fz = true
    · rw [if_pos hf] at h2
      rw [hF _ h1 hf]
      exact skip_to hF d (by omega) (by omega)
    · rw [if_neg hf] at h2; omega
theorem skip_eq {α : Type} {F : Nat → α} {l : List It} (hF : ∀ j (h : j < l.length), l[j].fz = true → F (j + 1) = F j) {a b : Nat} (hab : a ≤ b) (hb : b ≤ l.length) (ho : openI (l.take b) = openI (l.take a)) : F b = F a := by
  have := skip_to hF (a := a) (b - a) (by omega) (by rw [show a + (b - a) = b by omega]; exact ho)
  rw [show a + (b - a) = b by omega] at this
  exact this
/-- With as many open ahead of both, the one that is open is the later. -/
theorem open_at {l : List It} {k i : Nat} (hi : i < l.length) (hf : l[i].fz = false) (ho : openI (l.take k) = openI (l.take i)) : k ≤ i := by
  by_cases h : k ≤ i
  · exact h
  · have h1 := open_mono l (show i + 1 ≤ k by omega)
    rw [openI_take l i hi, if_neg (by rw [hf]; simp)] at h1
    omega
/-- Those of a list that are not frozen any more. -/
def opnI (l : List It) : List It := l.filter fun i => !i.fz
theorem opnI_len (l : List It) : (opnI l).length = openI l := rfl
theorem wts_opn (g : Bool) (l : List It) : wtsI g l = (opnI l).map fun i => wtF g i.x := rfl
theorem opn_at {l : List It} {i : Nat} (hi : i < l.length) (hf : l[i].fz = false) : (opnI l)[openI (l.take i)]? = some l[i] := by
  have h1 : l = l.take i ++ l.drop i := (List.take_append_drop i l).symm
  have h2 : opnI l = opnI (l.take i) ++ opnI (l.drop i) := by
    conv => lhs; rw [h1]
    unfold opnI; rw [List.filter_append]
  rw [h2, List.getElem?_append_right (by rw [opnI_len]; exact Nat.le_refl _), opnI_len, Nat.sub_self, List.drop_eq_getElem_cons hi]
  unfold opnI
  rw [List.filter_cons_of_pos (by rw [hf]; rfl)]
  rfl
/-- What items are while they wait: their sizes, or bases; the room for all. -/
def nowV (l : List It) : List Value := l.map fun i => .int .i64 (nowI i)
def plcV (l : List Nat) : List Value := l.map fun (k : Nat) => .int .i64 k
def arS (l : List Fx) : Int := (l.map Fx.around).sum
def roomF (inner : Int) (l : List Fx) : Int := inner - arS l
theorem free_room (inner : Int) (l : List It) : freeI inner l = roomF inner (l.map It.x) - (l.map nowI).sum := by
  have e := sum_add_by (fun i : It => i.x.around) nowI l
  have e2 : (l.map tkI).sum = (l.map (fun i : It => i.x.around + nowI i)).sum := rfl
  have e3 : ((l.map It.x).map Fx.around).sum = (l.map (fun i : It => i.x.around)).sum := by rw [List.map_map]; rfl
  unfold freeI roomF arS
  omega
/-- A try: the size that one would have, what its bounds add to it. -/
def tryV (q : It × Int) : List Value := [.int .i64 q.1.s, .int .i64 (q.1.s - q.2)]
/-- The tries of those that are open. -/
def tryL (q : List (It × Int)) : List (It × Int) := q.filter fun p => !p.1.fz
theorem tryL_len (st : List It) (P : List Int) : (tryL (putI st P)).length = openI st := by
  rw [← put_openI st P]
  unfold tryL openI
  rw [List.filter_map, List.length_map]
  rfl
theorem try_at {st : List It} {P : List Int} {q : List (It × Int)} (hq0 : putI st P = q) {i : Nat} (hi : i < st.length) (hiq : i < q.length) (hf : st[i].fz = false) : (tryL q)[openI (st.take i)]? = some q[i] := by
  have hfq : q[i].1.fz = false := by subst hq0; rw [put_open hi hf hiq]
  have h1 : q = q.take i ++ q.drop i := (List.take_append_drop i q).symm
  have h2 : tryL q = tryL (q.take i) ++ tryL (q.drop i) := by
    conv => lhs; rw [h1]
    unfold tryL; rw [List.filter_append]
  have h3 : (tryL (q.take i)).length = openI (st.take i) := by
    subst hq0
    rw [putI_take]
    exact tryL_len (st.take i) _
  rw [h2, List.getElem?_append_right (by omega), h3, Nat.sub_self, List.drop_eq_getElem_cons hiq]
  unfold tryL
  rw [List.filter_cons_of_pos (by rw [hfq]; rfl)]
  rfl

end Go.Proofs.Ytodnplllkpgfaaa
