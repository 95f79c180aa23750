import Derived.Test.YtpbfdfpedpfemaaGreatDoorTreeTakes
/- A row of nodes, as the walk reads them. -/
namespace Go.Proofs.YtpbfdfpedpfemaaGreatDoor
open Go Go.RowKit
set_option linter.unusedVariables false
set_option linter.unusedSimpArgs false

def rowsC : List Nd → List Value → List Value
  | n :: r, s :: t => nodeC n s ++ rowsC r t
  | _, _ => []
theorem rowsC_length : ∀ (l : List Nd) (s : List Value), s.length = l.length → (rowsC l s).length = l.length * 5
  | [], [], _ => rfl
  | n :: r, s :: t, h => by
    rw [rowsC, List.length_append, rowsC_length r t (by simpa using h)]
    simp [nodeC]; omega
theorem rowsC_get : ∀ (l : List Nd) (s : List Value) (h : s.length = l.length) (k : Nat) (hk : k < l.length) (j : Nat) (hj : j < 5), (rowsC l s)[k * 5 + j]? = (nodeC l[k] (s[k]'(by omega)))[j]?
  | n :: r, s :: t, h, 0, _, j, hj => by
    rw [rowsC, List.getElem?_append_left (by simp [nodeC]; omega)]
    simp
  | n :: r, s :: t, h, k + 1, hk, j, hj => by
    rw [rowsC, List.getElem?_append_right (by simp [nodeC]; omega)]
    have := rowsC_get r t (by simpa using h) k (by simpa using hk) j hj
    simp only [List.getElem_cons_succ]
    rw [← this]
    congr 1
    simp [nodeC]; omega
/-- A row of nodes in blocks ahead of B, their lists too. -/
structure NodesLow (w : World) (B : Nat) (A : Option Addr) (l : List Nd) (svs : List Value) : Prop where
  len : svs.length = l.length
  row : Row w B A (rowsC l svs)
  sty : ∀ k (h : k < l.length), StyLow w B (svs[k]'(by omega)) l[k].sty
  dat : ∀ n ∈ l, n.dat.size ≤ 9223372036854775807 ∧ In64i n.id ∧ In64i n.par
  few : l.length ≤ 1000000
theorem NodesLow.below {w w' : World} {B : Nat} {A : Option Addr} {l : List Nd} {svs : List Value} (h : NodesLow w B A l svs) (hb : Below B w w') : NodesLow w' B A l svs :=
  ⟨h.len, h.row.below hb, fun k hk => (h.sty k hk).below hb, h.dat, h.few⟩
theorem NodesLow.nd {w : World} {B : Nat} {A : Option Addr} {l : List Nd} {svs : List Value} (h : NodesLow w B A l svs) {k : Nat} (hk : k < l.length) :
    ∃ ad sv, svs[k]? = some sv ∧ A = some ad ∧ ad.block < B ∧ StyLow w B sv l[k].sty ∧ w.cell? (ad.add (k * 5)) = some (.int .i64 l[k].id) ∧ w.cell? ⟨(ad.add (k * 5)).block, (ad.add (k * 5)).off + 1, none⟩ = some (.int .i64 l[k].par) ∧
      w.cell? ⟨(ad.add (k * 5)).block, (ad.add (k * 5)).off + 2, none⟩ = some (.bool l[k].tx) ∧ w.cell? ⟨(ad.add (k * 5)).block, (ad.add (k * 5)).off + 3, none⟩ = some (.string l[k].dat) ∧ w.cell? ⟨(ad.add (k * 5)).block, (ad.add (k * 5)).off + 4, none⟩ = some sv := by
  have hl := rowsC_length l svs h.len
  obtain ⟨ad, e, hb, hc⟩ := h.row (by omega)
  have at_ : ∀ j, j < 5 → ∀ v, (nodeC l[k] (svs[k]'(by have := h.len; omega)))[j]? = some v → w.cell? (ad.add (k * 5 + j)) = some v := fun j hj v hv => by
    have h1 : k * 5 + j < (rowsC l svs).length := by omega
    rw [hc _ h1]
    have h2 := rowsC_get l svs h.len k hk j hj
    rw [List.getElem?_eq_getElem h1, hv] at h2
    exact h2
  have far : ∀ j, 0 < j → (⟨(ad.add (k * 5)).block, (ad.add (k * 5)).off + j, none⟩ : Addr) = ad.add (k * 5 + j) := fun j hj => by
    have : (ad.add (k * 5)).add j = ad.add (k * 5 + j) := add_of_add _ _ _
    rw [← this]
    generalize ad.add (k * 5) = b
    unfold Addr.add
    rw [if_neg (by omega)]
  refine ⟨ad, svs[k]'(by have := h.len; omega), List.getElem?_eq_getElem _, e, hb, h.sty k hk, ?_, ?_, ?_, ?_, ?_⟩
  · exact at_ 0 (by omega) _ rfl
  · rw [far 1 (by omega)]; exact at_ 1 (by omega) _ rfl
  · rw [far 2 (by omega)]; exact at_ 2 (by omega) _ rfl
  · rw [far 3 (by omega)]; exact at_ 3 (by omega) _ rfl
  · rw [far 4 (by omega)]; exact at_ 4 (by omega) _ rfl
/-- All but the first. -/
theorem NodesLow.tail {w : World} {B : Nat} {A : Option Addr} {r : Nd} {R : List Nd} {s : Value} {S : List Value} (h : NodesLow w B A (r :: R) (s :: S)) (A' : Option Addr) (hA : R ≠ [] → A' = A.map (·.add 5)) : NodesLow w B A' R S := by
  refine ⟨by simpa using h.len, ?_, fun k hk => by have := h.sty (k + 1) (by simpa using hk); simpa using this, fun n hn => h.dat n (List.mem_cons_of_mem _ hn), by have := h.few; simp at this; omega⟩
  intro hpos
  have hne : R ≠ [] := by intro e; subst e; simp [rowsC] at hpos
  have hl := rowsC_length (r :: R) (s :: S) h.len
  obtain ⟨ad, e, hb, hc⟩ := h.row (by rw [hl]; simp)
  refine ⟨ad.add 5, by rw [hA hne, e]; rfl, by rw [add_block]; exact hb, fun i hi => ?_⟩
  have h5 : i + 5 < (rowsC (r :: R) (s :: S)).length := by rw [rowsC]; simp [nodeC]; omega
  rw [add_of_add, show 5 + i = i + 5 by omega, hc _ h5]
  refine congrArg some ?_
  simp only [rowsC]
  rw [List.getElem_append_right (by simp [nodeC])]
  simp [nodeC]
end Go.Proofs.YtpbfdfpedpfemaaGreatDoor
