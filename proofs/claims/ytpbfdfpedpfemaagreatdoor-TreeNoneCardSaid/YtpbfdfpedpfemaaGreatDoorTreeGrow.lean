import Derived.Test.YtpbfdfpedpfemaaGreatDoorTreeNum
/- A tree of a list: node by node. No program is named here. -/
namespace Go.Proofs.YtpbfdfpedpfemaaGreatDoor
open Go Go.RowKit
set_option linter.unusedVariables false
set_option linter.unusedSimpArgs false

def fitB (n : Nd) : Bool := if n.tx = true then decide (n.dat.size ≤ 1000) && decide (n.sty.length = 0) else decide (n.dat.size = 0) && n.sty.all fun d => mayZ d.p d.w d.k d.n
def takesB (L : List Nd) (last : Int) (n : Nd) : Bool :=
  decide (0 ≤ n.id ∧ n.id ≤ 1000) && !hasZ L n.id && fitB n && belowZ L last n.par && !txZ L n.par && decide (deepZ L n.par < 20)
def growB (most : Nat) : List Nd → Int → List Nd → Bool
  | _, _, [] => true
  | L, last, n :: r => decide (L.length < most) && takesB L last n && growB most (L ++ [n]) n.id r
def mostZ (most : Int) : Nat := (min (max most 1) 500).toNat
def rootB (n : Nd) : Bool := decide (n.id = 0) && decide (n.par = -1) && !n.tx && fitB n
def ofB (most : Int) : List Nd → Bool
  | [] => false
  | r :: R => rootB r && growB (mostZ most) [r] 0 R
theorem mostZ_bd (most : Int) : 1 ≤ mostZ most ∧ mostZ most ≤ 500 := by unfold mostZ; omega
theorem at_append (L : List Nd) (n : Nd) (id : Int) (hn : hasZ L n.id = false) : atZ (L ++ [n]) id = if id = n.id then some n else atZ L id := by
  unfold atZ
  rw [List.find?_append]
  by_cases h : id = n.id
  · subst h
    have : List.find? (fun m => m.id == n.id) L = none := has_no hn
    rw [this]; simp
  · rw [if_neg h]
    cases e : List.find? (fun m => m.id == id) L with
    | some m => simp
    | none => simp; exact fun e => h e.symm
theorem has_append (L : List Nd) (n : Nd) (id : Int) (hn : hasZ L n.id = false) : hasZ (L ++ [n]) id = (decide (id = n.id) || hasZ L id) := by
  unfold hasZ
  rw [at_append L n id hn]
  by_cases h : id = n.id <;> simp [h]
theorem par_append (L : List Nd) (n : Nd) (id : Int) (hn : hasZ L n.id = false) : parZ (L ++ [n]) id = if id = n.id then n.par else parZ L id := by
  unfold parZ
  rw [at_append L n id hn]
  by_cases h : id = n.id <;> simp [h]
theorem tx_append (L : List Nd) (n : Nd) (id : Int) (hn : hasZ L n.id = false) : txZ (L ++ [n]) id = if id = n.id then n.tx else txZ L id := by
  unfold txZ
  rw [at_append L n id hn]
  by_cases h : id = n.id <;> simp [h]
theorem kids_append (L : List Nd) (n : Nd) (id : Int) (h0 : L ≠ []) : kidsZ (L ++ [n]) id = if id = n.par then kidsZ L id ++ [n.id] else kidsZ L id := by
  unfold kidsZ
  cases L with
  | nil => exact absurd rfl h0
  | cons r R =>
    simp only [List.cons_append, List.tail_cons, List.filter_append, List.map_append]
    by_cases h : id = n.par
    · subst h; simp
    · have : ¬ n.par = id := fun e => h e.symm
      simp [h, this]
theorem TreeOk.one {r : Nd} (h : rootB r = true) : TreeOk [r] := by
  unfold rootB at h
  simp only [Bool.and_eq_true, decide_eq_true_eq, Bool.not_eq_true'] at h
  obtain ⟨⟨⟨h1, h2⟩, h3⟩, h4⟩ := h
  refine ⟨by simp, fun n hn => ?_, ⟨r, [], rfl, h1, h2, h3⟩, fun i hi h0 => ?_⟩
  · have : n = r := by simpa using hn
    subst this; omega
  · simp at hi; omega
theorem TreeOk.add {L : List Nd} (h : TreeOk L) {n : Nd} (h1 : 0 ≤ n.id ∧ n.id ≤ 1000) (h2 : hasZ L n.id = false) (h3 : hasZ L n.par = true) : TreeOk (L ++ [n]) := by
  refine ⟨?_, ?_, ?_, ?_⟩
  · rw [List.map_append, List.nodup_append]
    refine ⟨h.nd, by simp, ?_⟩
    intro a ha b hb e
    obtain ⟨m, hm, rfl⟩ := List.mem_map.1 ha
    have : b = n.id := by simpa using hb
    subst this
    exact at_none.1 (has_no h2) m hm e
  · intro m hm
    rcases List.mem_append.1 hm with hm | hm
    · exact h.rng m hm
    · have : m = n := by simpa using hm
      subst this; exact h1
  · obtain ⟨r, R, rfl, e⟩ := h.root
    exact ⟨r, R ++ [n], rfl, e⟩
  · intro i hi h0
    by_cases hl : i < L.length
    · obtain ⟨j, hj, e⟩ := h.up i hl h0
      refine ⟨j, hj, ?_⟩
      rw [List.getElem_append_left (by omega), List.getElem_append_left hl]
      exact e
    · have hi' : i = L.length := by simp at hi; omega
      subst hi'
      obtain ⟨m, hm, em⟩ := has_iff.1 h3
      obtain ⟨j, hj, ej⟩ := List.mem_iff_getElem.1 hm
      refine ⟨j, hj, ?_⟩
      rw [List.getElem_append_left hj, List.getElem_append_right (Nat.le_refl _)]
      simp [ej, em]
theorem takes_facts {L : List Nd} {last : Int} {n : Nd} (h : takesB L last n = true) : (0 ≤ n.id ∧ n.id ≤ 1000) ∧ hasZ L n.id = false ∧ fitB n = true ∧ belowZ L last n.par = true ∧ txZ L n.par = false ∧ deepZ L n.par < 20 ∧ hasZ L n.par = true := by
  unfold takesB at h
  simp only [Bool.and_eq_true, decide_eq_true_eq, Bool.not_eq_true'] at h
  obtain ⟨⟨⟨⟨⟨h1, h2⟩, h3⟩, h4⟩, h5⟩, h6⟩ := h
  refine ⟨h1, h2, h3, h4, h5, h6, ?_⟩
  unfold belowZ at h4
  exact (Bool.and_eq_true _ _ ▸ h4).1
theorem TreeOk.takes {L : List Nd} (h : TreeOk L) {last : Int} {n : Nd} (ht : takesB L last n = true) : TreeOk (L ++ [n]) :=
  h.add (takes_facts ht).1 (takes_facts ht).2.1 (takes_facts ht).2.2.2.2.2.2
/-- What a list's tree is, when all are taken. -/
theorem grow_ok (most : Nat) : ∀ (R : List Nd) (L : List Nd) (last : Int), TreeOk L → growB most L last R = true → TreeOk (L ++ R)
  | [], L, _, h, _ => by rw [List.append_nil]; exact h
  | n :: r, L, last, h, hg => by
    rw [growB, Bool.and_eq_true, Bool.and_eq_true] at hg
    have := grow_ok most r (L ++ [n]) n.id (h.takes hg.1.2) hg.2
    rwa [List.append_assoc] at this
theorem of_ok (most : Int) (l : List Nd) (h : ofB most l = true) : TreeOk l := by
  cases l with
  | nil => cases h
  | cons r R =>
    rw [ofB, Bool.and_eq_true] at h
    exact grow_ok _ R [r] 0 (TreeOk.one h.1) h.2
theorem grow_most (most : Nat) : ∀ (R : List Nd) (L : List Nd) (last : Int), growB most L last R = true → L.length ≤ most → (L ++ R).length ≤ most
  | [], L, _, _, h => by simpa using h
  | n :: r, L, last, hg, h => by
    rw [growB, Bool.and_eq_true, Bool.and_eq_true, decide_eq_true_eq] at hg
    have := grow_most most r (L ++ [n]) n.id hg.2 (by simp; omega)
    rwa [List.append_assoc] at this
theorem of_most (most : Int) (l : List Nd) (h : ofB most l = true) : l.length ≤ mostZ most := by
  cases l with
  | nil => cases h
  | cons r R =>
    rw [ofB, Bool.and_eq_true] at h
    exact grow_most _ R [r] 0 h.2 (by have := mostZ_bd most; simp; omega)
end Go.Proofs.YtpbfdfpedpfemaaGreatDoor
