import Derived.Test.YtpbfdfpedpfemaaGreatDoorNodesLink
/- A tree with one more node, behind all kids of its parent. -/
namespace Go.Proofs.YtpbfdfpedpfemaaGreatDoor
open Go Go.RowKit
set_option linter.unusedVariables false
set_option linter.unusedSimpArgs false
set_option maxRecDepth 20000
set_option maxHeartbeats 4000000

theorem map_no_cells {P : Program} {k : TypeId} {w : World} {b n : Nat} {f : Int → Option Nat} (h : MapP P k w b n f) {t : TypeId} {cs : List Value} : ¬ Whole w b t cs := by
  obtain ⟨D, ⟨es, clock, hb, -⟩, -⟩ := h
  intro hw
  have hw' : w.heap[b]? = _ := hw
  rw [hb] at hw'
  cases hw'
theorem map_no_row {P : Program} {k : TypeId} {w : World} {b n : Nat} {f : Int → Option Nat} (h : MapP P k w b n f) {base e size m : Nat} {v : Value} {xs : List Value} (ho : w.ownsRow base e size v m xs) : v.ownBlock ≠ some b := by
  obtain ⟨D, ⟨es, clock, hb, -⟩, -⟩ := h
  intro e'
  rcases ho.2 with ⟨rfl, -⟩ | ⟨g', cap, cur, rfl, -, hg', -⟩
  · simp [Value.ownBlock] at e'
  · simp [Value.ownBlock] at e'
    subst e'
    rw [hb] at hg'
    cases hg'
theorem own_lt {w : World} {base e size m : Nat} {v : Value} {xs : List Value} (ho : w.ownsRow base e size v m xs) {k : Nat} (hk : v.ownBlock = some k) : k < w.heap.size := (ho.lt k hk).2
theorem whole_two {w : World} {g : Nat} {t t' : TypeId} {cs cs' : List Value} (h : Whole w g t cs) (h' : Whole w g t' cs') : t = t' := by
  have h1 : w.heap[g]? = _ := h
  have h2 : w.heap[g]? = _ := h'
  rw [h1] at h2
  injection h2 with h2
  simp at h2
  exact h2.2
theorem kids_pos {L : List Nd} (h : TreeOk L) (id : Int) : (-1 : Int) ∉ kidsZ L id := by
  unfold kidsZ
  intro hx
  obtain ⟨m, hm, e⟩ := List.mem_map.1 hx
  have hm' := List.mem_of_mem_tail (List.mem_filter.1 hm).1
  have := h.rng m hm'
  omega
theorem TreeAt.add {W w : World} {base t b : Nat} {most : Int} {L : List Nd} {f : Int → Option Nat} {sv kv : Int → Value} (h : TreeAt W base t b most L f sv kv) {n : Nd} (h1 : 0 ≤ n.id ∧ n.id ≤ 1000) (h2 : hasZ L n.id = false) {p : Nd} (hp : p ∈ L) (hpi : p.id = n.par)
    {gp g : Nat} (hgp : f p.id = some gp) (hg : W.heap.size ≤ g) (hO : Only (b :: gp :: (kv p.id).ownBlock.toList) W w)
    (hM : MapP Tryz.prog 3 w b (L.length + 1) (fun x => if x = n.id then some g else f x)) {kn sn : Value}
    (hG : Whole w gp 90 (ndC p (sv p.id) kn)) (hK : w.ownsRow base 3 1 kn (kidsZ L p.id ++ [n.id]).length (idC (kidsZ L p.id ++ [n.id])))
    (hkn : kn.ownBlock = (kv p.id).ownBlock ∨ ∃ k, kn.ownBlock = some k ∧ W.heap.size ≤ k) (hN : Whole w g 90 (ndC n sn (.slice none 0 0))) (hS : StyOwn w base sn n.sty) (hb0 : base ≤ W.heap.size) :
    TreeAt w base t b most (L ++ [n]) (fun x => if x = n.id then some g else f x) (fun x => if x = n.id then sn else sv x) (fun x => if x = n.id then .slice none 0 0 else if x = n.par then kn else kv x) := by
  have hP : hasZ L n.par = true := has_iff.2 ⟨p, hp, hpi⟩
  have hok := h.ok.add h1 h2 hP
  have hne : n.par ≠ n.id := fun e => by rw [e, h2] at hP; cases hP
  have hL0 : L ≠ [] := by obtain ⟨r, R, rfl, -⟩ := h.ok.root; simp
  have hid : ∀ m ∈ L, m.id ≠ n.id := fun m hm e => at_none.1 (has_no h2) m hm e
  have bO := (h.nod p hp gp hgp).2
  have kO := h.kid p hp
  have inS : ∀ x, x ∈ (b :: gp :: (kv p.id).ownBlock.toList) → x = b ∨ x = gp ∨ (kv p.id).ownBlock = some x := fun x hx => by
    simp at hx; rcases hx with rfl | rfl | hx
    · exact .inl rfl
    · exact .inr (.inl rfl)
    · exact .inr (.inr hx)
  refine ⟨hok, h.low, ?_, by simpa using hM, fun id => ?_, fun m hm k hk => ?_, fun m hm => ?_, fun m hm => ?_, fun i j k hi hj => ?_, fun m hm m' hm' k hk hk' => ?_⟩
  · refine hO.whole h.hd fun hx => ?_
    rcases inS _ hx with e | e | e
    · subst e; exact map_no_cells h.mp h.hd
    · subst e; exact absurd (whole_two h.hd bO) (by decide)
    · exact whole_ne h.hd kO (by decide) e
  · rw [has_append L n id h2]
    by_cases e : id = n.id
    · simp [e]
    · simp [e, h.dom id]
  · rcases List.mem_append.1 hm with hm | hm
    · rw [if_neg (hid m hm)] at hk
      rw [if_neg (hid m hm), if_neg (hid m hm)]
      obtain ⟨hk1, hk2⟩ := h.nod m hm k hk
      refine ⟨hk1, ?_⟩
      by_cases e : m.id = n.par
      · have em : m = p := by
          have e1 := h.ok.at_mem hm
          have e2 := h.ok.at_mem hp
          rw [e, ← hpi, e2] at e1
          injection e1 with e1; exact e1.symm
        subst em
        rw [hgp] at hk
        injection hk with hk
        subst hk
        rw [if_pos e]; exact hG
      · rw [if_neg e]
        refine hO.whole hk2 fun hx => ?_
        rcases inS _ hx with e1 | e1 | e1
        · subst e1; exact map_no_cells h.mp hk2
        · subst e1
          have := h.inj _ _ _ hk hgp
          exact e (this.trans hpi)
        · exact whole_ne hk2 kO (by decide) e1
    · have em : m = n := by simpa using hm
      subst em
      rw [if_pos rfl] at hk
      injection hk with hk
      subst hk
      rw [if_pos rfl, if_pos rfl]
      exact ⟨by omega, hN⟩
  · rcases List.mem_append.1 hm with hm | hm
    · rw [if_neg (hid m hm)]
      refine (h.sty m hm).only hO fun k hk hx => ?_
      obtain ⟨A, c, e, hr, -⟩ := h.sty m hm
      rcases inS _ hx with e1 | e1 | e1
      · subst e1; rw [e] at hk; exact map_no_row h.mp hr hk
      · subst e1; exact (h.sty m hm).other bO (by decide) hk
      · rw [e] at hk
        rcases hr.2 with ⟨e2, -⟩ | ⟨g', cap, cur, e2, -, hg', -⟩
        · rw [e2] at hk; simp [Value.ownBlock] at hk
        · rw [e2] at hk
          simp [Value.ownBlock] at hk
          subst hk
          rcases kO.2 with ⟨e3, -⟩ | ⟨g2, cap2, cur2, e3, -, hg2, -⟩
          · rw [e3] at e1; simp [Value.ownBlock] at e1
          · rw [e3] at e1
            simp [Value.ownBlock] at e1
            subst e1
            rw [hg'] at hg2
            injection hg2 with hg2
            simp at hg2
    · have em : m = n := by simpa using hm
      subst em
      rw [if_pos rfl]; exact hS
  · rcases List.mem_append.1 hm with hm | hm
    · rw [if_neg (hid m hm), kids_append L n _ hL0]
      by_cases e : m.id = n.par
      · rw [if_pos e, if_pos e]
        have : m.id = p.id := e.trans hpi.symm
        rw [this]; exact hK
      · rw [if_neg e, if_neg e]
        refine hO.owns (h.kid m hm) fun k hk hx => ?_
        rcases inS _ hx with e1 | e1 | e1
        · subst e1; exact map_no_row h.mp (h.kid m hm) hk
        · subst e1; exact whole_ne bO (h.kid m hm) (by decide) hk
        · exact e ((h.apart m hm p hp k hk e1).trans hpi)
    · have em : m = n := by simpa using hm
      subst em
      rw [if_pos rfl, kids_append L m _ hL0, if_neg (fun e => hne e.symm), kids_none h.ok h2]
      exact ⟨rfl, .inl ⟨rfl, rfl⟩⟩
  · by_cases e1 : i = n.id
    · by_cases e2 : j = n.id
      · rw [e1, e2]
      · rw [if_pos e1] at hi
        rw [if_neg e2] at hj
        injection hi with hi
        subst hi
        have hj' : hasZ L j = true := by rw [← h.dom j, hj]; rfl
        obtain ⟨m, hm, em⟩ := has_iff.1 hj'
        subst em
        have := (h.nod m hm _ hj).2.size
        omega
    · rw [if_neg e1] at hi
      by_cases e2 : j = n.id
      · rw [if_pos e2] at hj
        injection hj with hj
        subst hj
        have hi' : hasZ L i = true := by rw [← h.dom i, hi]; rfl
        obtain ⟨m, hm, em⟩ := has_iff.1 hi'
        subst em
        have := (h.nod m hm _ hi).2.size
        omega
      · rw [if_neg e2] at hj
        exact h.inj _ _ _ hi hj
  · have far : ∀ m ∈ L, ∀ k, (kv m.id).ownBlock = some k → k < W.heap.size := fun m hm k hk => own_lt (h.kid m hm) hk
    have leaf : ∀ k, (Value.slice none 0 0).ownBlock ≠ some k := fun k => by simp [Value.ownBlock]
    rcases List.mem_append.1 hm with hm | hm
    · rcases List.mem_append.1 hm' with hm' | hm'
      · rw [if_neg (hid m hm)] at hk
        rw [if_neg (hid m' hm')] at hk'
        by_cases e : m.id = n.par
        · by_cases e' : m'.id = n.par
          · exact e.trans e'.symm
          · rw [if_pos e] at hk
            rw [if_neg e'] at hk'
            rcases hkn with q | ⟨k2, q, hq⟩
            · rw [q] at hk
              have := h.apart p hp m' hm' k hk hk'
              exact absurd (this.symm.trans hpi) e'
            · rw [q] at hk
              injection hk with hk
              subst hk
              have := far m' hm' _ hk'
              omega
        · rw [if_neg e] at hk
          by_cases e' : m'.id = n.par
          · rw [if_pos e'] at hk'
            rcases hkn with q | ⟨k2, q, hq⟩
            · rw [q] at hk'
              have := h.apart m hm p hp k hk hk'
              exact absurd (this.trans hpi) e
            · rw [q] at hk'
              injection hk' with hk'
              subst hk'
              have := far m hm _ hk
              omega
          · rw [if_neg e'] at hk'
            exact h.apart m hm m' hm' k hk hk'
      · have em : m' = n := by simpa using hm'
        subst em
        rw [if_pos rfl] at hk'
        exact absurd hk' (leaf k)
    · have em : m = n := by simpa using hm
      subst em
      rw [if_pos rfl] at hk
      exact absurd hk (leaf k)
end Go.Proofs.YtpbfdfpedpfemaaGreatDoor
