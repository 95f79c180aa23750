import Derived.Test.YtpbfdfpedpfemaaGreatDoorDeclNum
/- Nodes as a list: each behind its parent. No program is named here. -/
namespace Go.Proofs.YtpbfdfpedpfemaaGreatDoor
open Go Go.RowKit
set_option linter.unusedVariables false
set_option linter.unusedSimpArgs false

structure Nd where
  id : Int
  par : Int
  tx : Bool
  dat : ByteArray
  sty : List Dc
def atZ (L : List Nd) (id : Int) : Option Nd := L.find? (fun n => n.id == id)
def hasZ (L : List Nd) (id : Int) : Bool := (atZ L id).isSome
def parZ (L : List Nd) (id : Int) : Int := match atZ L id with | some n => n.par | none => -1
def txZ (L : List Nd) (id : Int) : Bool := match atZ L id with | some n => n.tx | none => false
/-- The kids of a node, in their order: the root, which is first, is nobody's. -/
def kidsZ (L : List Nd) (id : Int) : List Int := (L.tail.filter (fun n => n.par == id)).map Nd.id
def deepF (L : List Nd) : Nat → Int → Int
  | 0, _ => -1
  | f + 1, id => if hasZ L id = true then 1 + deepF L f (parZ L id) else -1
def deepZ (L : List Nd) (id : Int) : Int := deepF L (L.length + 1) id
def belowF (L : List Nd) : Nat → Int → Int → Bool
  | 0, id, of_ => id == of_
  | f + 1, id, of_ => if id = of_ then true else if hasZ L id = true then belowF L f (parZ L id) of_ else false
def belowZ (L : List Nd) (id of_ : Int) : Bool := hasZ L of_ && belowF L (L.length + 1) id of_
def rkZ (L : List Nd) (id : Int) : Nat := L.findIdx (fun n => n.id == id)
structure TreeOk (L : List Nd) : Prop where
  nd : (L.map Nd.id).Nodup
  rng : ∀ n ∈ L, 0 ≤ n.id ∧ n.id ≤ 1000
  root : ∃ r R, L = r :: R ∧ r.id = 0 ∧ r.par = -1 ∧ r.tx = false
  up : ∀ i (h : i < L.length), 0 < i → ∃ j, ∃ hj : j < i, (L[j]'(by omega)).id = L[i].par
theorem at_some {L : List Nd} {id : Int} {n : Nd} (h : atZ L id = some n) : n ∈ L ∧ n.id = id := by
  unfold atZ at h
  exact ⟨List.mem_of_find?_eq_some h, by simpa using List.find?_some h⟩
theorem at_none {L : List Nd} {id : Int} : atZ L id = none ↔ ∀ n ∈ L, n.id ≠ id := by
  unfold atZ; simp
theorem has_iff {L : List Nd} {id : Int} : hasZ L id = true ↔ ∃ n ∈ L, n.id = id := by
  unfold hasZ
  constructor
  · intro h
    obtain ⟨n, hn⟩ := Option.isSome_iff_exists.1 h
    exact ⟨n, at_some hn⟩
  · rintro ⟨n, hn, e⟩
    cases h : atZ L id with
    | some m => rfl
    | none => exact absurd e (at_none.1 h n hn)
theorem has_no {L : List Nd} {id : Int} (h : hasZ L id = false) : atZ L id = none := by
  unfold hasZ at h
  cases e : atZ L id with
  | none => rfl
  | some n => rw [e] at h; cases h
theorem par_no {L : List Nd} {id : Int} (h : hasZ L id = false) : parZ L id = -1 := by unfold parZ; rw [has_no h]
theorem TreeOk.at_mem {L : List Nd} (h : TreeOk L) {n : Nd} (hn : n ∈ L) : atZ L n.id = some n := by
  cases e : atZ L n.id with
  | none => exact absurd rfl (at_none.1 e n hn)
  | some m =>
    obtain ⟨hm, hid⟩ := at_some e
    obtain ⟨i, hi, ei⟩ := List.mem_iff_getElem.1 hn
    obtain ⟨j, hj, ej⟩ := List.mem_iff_getElem.1 hm
    have h1 : (L.map Nd.id)[i]'(by simpa using hi) = (L.map Nd.id)[j]'(by simpa using hj) := by simp [ei, ej, hid]
    have h2 := (List.getElem_inj h.nd).1 h1
    subst h2
    rw [← ei, ← ej]
theorem TreeOk.not_nobody {L : List Nd} (h : TreeOk L) {id : Int} (hi : id < 0) : hasZ L id = false := by
  rw [Bool.eq_false_iff]; intro hc
  obtain ⟨n, hn, e⟩ := has_iff.1 hc
  have := h.rng n hn
  omega
/-- Where a node stands. -/
theorem TreeOk.rank {L : List Nd} (h : TreeOk L) {i : Nat} (hi : i < L.length) : rkZ L L[i].id = i := by
  unfold rkZ
  refine (List.findIdx_eq hi).2 ⟨by simp, fun j hj => ?_⟩
  have hne : (L.map Nd.id)[j]'(by simp; omega) ≠ (L.map Nd.id)[i]'(by simpa using hi) := fun e => by
    have := (List.getElem_inj h.nd).1 e
    omega
  simp only [List.getElem_map] at hne
  simp [hne]
theorem TreeOk.step {L : List Nd} (h : TreeOk L) {id : Int} (hh : hasZ L id = true) :
    rkZ L id < L.length ∧ ((id = 0 ∧ parZ L id = -1) ∨ (hasZ L (parZ L id) = true ∧ rkZ L (parZ L id) < rkZ L id)) := by
  obtain ⟨n, hn, rfl⟩ := has_iff.1 hh
  obtain ⟨i, hi, rfl⟩ := List.mem_iff_getElem.1 hn
  have e : parZ L L[i].id = L[i].par := by unfold parZ; rw [h.at_mem hn]
  rw [e, h.rank hi]
  refine ⟨hi, ?_⟩
  by_cases h0 : i = 0
  · subst h0
    obtain ⟨r, R, rfl, e1, e2, e3⟩ := h.root
    exact .inl ⟨e1, e2⟩
  · obtain ⟨j, hj, ej⟩ := h.up i hi (by omega)
    rw [← ej, h.rank (show j < L.length by omega)]
    exact .inr ⟨has_iff.2 ⟨_, List.getElem_mem _, rfl⟩, hj⟩
theorem TreeOk.deepF_more {L : List Nd} (h : TreeOk L) : ∀ (f : Nat) (id : Int), (hasZ L id = true → rkZ L id + 1 < f) → 0 < f → deepF L f id = deepF L (f + 1) id
  | 0, _, _, h0 => absurd h0 (by omega)
  | f + 1, id, hr, _ => by
    rw [deepF, deepF]
    by_cases hh : hasZ L id = true
    · rw [if_pos hh, if_pos hh]
      have := hr hh
      rcases (h.step hh).2 with ⟨e1, e2⟩ | ⟨e1, e2⟩
      · rw [e2, h.deepF_more f (-1) (fun hc => by rw [h.not_nobody (by omega)] at hc; cases hc) (by omega)]
      · rw [h.deepF_more f (parZ L id) (fun _ => by omega) (by omega)]
    · rw [if_neg hh, if_neg hh]
theorem TreeOk.deep_has {L : List Nd} (h : TreeOk L) {id : Int} (hh : hasZ L id = true) : deepZ L id = 1 + deepZ L (parZ L id) := by
  unfold deepZ
  rw [deepF, if_pos hh]
  have hs := h.step hh
  have hL : 0 < L.length := by omega
  congr 1
  rcases hs.2 with ⟨e1, e2⟩ | ⟨e1, e2⟩
  · rw [e2, h.deepF_more L.length (-1) (fun hc => by rw [h.not_nobody (by omega)] at hc; cases hc) hL]
  · exact h.deepF_more L.length _ (fun _ => by omega) hL
theorem deep_no {L : List Nd} {id : Int} (hh : hasZ L id = false) : deepZ L id = -1 := by
  unfold deepZ; rw [deepF, if_neg (by rw [hh]; decide)]
theorem TreeOk.belowF_more {L : List Nd} (h : TreeOk L) (of_ : Int) (ho : 0 ≤ of_) : ∀ (f : Nat) (id : Int), (hasZ L id = true → rkZ L id + 1 < f) → 0 < f → belowF L f id of_ = belowF L (f + 1) id of_
  | 0, _, _, h0 => absurd h0 (by omega)
  | f + 1, id, hr, _ => by
    rw [belowF, belowF]
    by_cases he : id = of_
    · rw [if_pos he, if_pos he]
    rw [if_neg he, if_neg he]
    by_cases hh : hasZ L id = true
    · rw [if_pos hh, if_pos hh]
      have := hr hh
      rcases (h.step hh).2 with ⟨e1, e2⟩ | ⟨e1, e2⟩
      · rw [e2, h.belowF_more of_ ho f (-1) (fun hc => by rw [h.not_nobody (by omega)] at hc; cases hc) (by omega)]
      · rw [h.belowF_more of_ ho f (parZ L id) (fun _ => by omega) (by omega)]
    · rw [if_neg hh, if_neg hh]
/-- One step up. -/
theorem TreeOk.below_step {L : List Nd} (h : TreeOk L) {id of_ : Int} (ho : hasZ L of_ = true) (hne : id ≠ of_) : belowZ L id of_ = belowZ L (parZ L id) of_ := by
  have h0 : 0 ≤ of_ := by
    obtain ⟨n, hn, rfl⟩ := has_iff.1 ho
    exact (h.rng n hn).1
  unfold belowZ
  rw [ho, Bool.true_and, Bool.true_and]
  rw [belowF, if_neg hne]
  have hL : 0 < L.length := by
    obtain ⟨r, R, rfl, -⟩ := h.root
    simp
  by_cases hh : hasZ L id = true
  · rw [if_pos hh]
    have hs := h.step hh
    rcases hs.2 with ⟨e1, e2⟩ | ⟨e1, e2⟩
    · rw [e2, h.belowF_more of_ h0 L.length (-1) (fun hc => by rw [h.not_nobody (by omega)] at hc; cases hc) hL]
    · exact h.belowF_more of_ h0 L.length _ (fun _ => by omega) hL
  · rw [if_neg hh]
    have hp : parZ L id = -1 := par_no (by simpa using hh)
    rw [hp, belowF, if_neg (by omega), if_neg (by rw [h.not_nobody (by omega)]; decide)]
theorem below_self {L : List Nd} {id : Int} (ho : hasZ L id = true) : belowZ L id id = true := by
  unfold belowZ; rw [ho, belowF, if_pos rfl]; rfl
theorem TreeOk.below_nobody {L : List Nd} (h : TreeOk L) {of_ : Int} (ho : hasZ L of_ = true) : belowZ L (-1) of_ = false := by
  have h0 : 0 ≤ of_ := by
    obtain ⟨n, hn, rfl⟩ := has_iff.1 ho
    exact (h.rng n hn).1
  unfold belowZ
  rw [ho, belowF, if_neg (by omega), if_neg (by rw [h.not_nobody (by omega)]; decide)]; rfl
end Go.Proofs.YtpbfdfpedpfemaaGreatDoor
