import Derived.Test.YtpbfdfpedpfemaaGreatDoorTreeGrow
/- A list of nodes, told from the root on, is a tree's. No program is named here. -/
namespace Go.Proofs.YtpbfdfpedpfemaaGreatDoor
open Go Go.RowKit
set_option linter.unusedVariables false
set_option linter.unusedSimpArgs false

inductive Tr where
  | mk (n : Nd) (ks : List Tr)
def Tr.n : Tr → Nd | .mk n _ => n
def Tr.ks : Tr → List Tr | .mk _ k => k
mutual
def Tr.flat : Tr → List Nd
  | .mk n ks => n :: flats ks
def flats : List Tr → List Nd
  | [] => []
  | k :: r => k.flat ++ flats r
end
mutual
/-- A part of the tree of L: each node is there, its kids are L's. -/
def Fits (L : List Nd) : Tr → Prop
  | .mk n ks => atZ L n.id = some n ∧ kidsZ L n.id = ks.map (·.n.id) ∧ Fitss L n.id ks
def Fitss (L : List Nd) (p : Int) : List Tr → Prop
  | [] => True
  | k :: r => k.n.par = p ∧ Fits L k ∧ Fitss L p r
end
theorem flats_append (a b : List Tr) : flats (a ++ b) = flats a ++ flats b := by
  induction a with
  | nil => rfl
  | cons k r ih => rw [List.cons_append, flats, flats, ih, List.append_assoc]
theorem fitss_append (L : List Nd) (p : Int) (a b : List Tr) : Fitss L p (a ++ b) ↔ Fitss L p a ∧ Fitss L p b := by
  induction a with
  | nil => rw [List.nil_append, Fitss]; simp
  | cons k r ih => rw [List.cons_append, Fitss, Fitss, ih]; simp [and_assoc]
theorem root_mem (T : Tr) : T.n ∈ T.flat := by
  cases T with
  | mk n ks => rw [Tr.flat]; exact List.mem_cons_self
mutual
theorem Fits.mem (L : List Nd) : ∀ T : Tr, Fits L T → ∀ x ∈ T.flat, atZ L x.id = some x
  | .mk n ks, h, x, hx => by
    rw [Fits] at h
    rw [Tr.flat] at hx
    rcases List.mem_cons.1 hx with rfl | hx
    · exact h.1
    · exact Fitss.mem L n.id ks h.2.2 x hx
theorem Fitss.mem (L : List Nd) (p : Int) : ∀ ks : List Tr, Fitss L p ks → ∀ x ∈ flats ks, atZ L x.id = some x
  | [], _, x, hx => by rw [flats] at hx; cases hx
  | k :: r, h, x, hx => by
    rw [Fitss] at h
    rw [flats] at hx
    rcases List.mem_append.1 hx with hx | hx
    · exact Fits.mem L k h.2.1 x hx
    · exact Fitss.mem L p r h.2.2 x hx
end
mutual
theorem Fits.keep (L : List Nd) (n : Nd) (h0 : L ≠ []) (hn : hasZ L n.id = false) : ∀ T : Tr, Fits L T → (∀ x ∈ T.flat, x.id ≠ n.par) → Fits (L ++ [n]) T
  | .mk m ks, h, hp => by
    rw [Fits] at h
    have hm : m.id ≠ n.id := fun e => by
      have := h.1
      rw [e, has_no hn] at this
      cases this
    have h1 : m.id ≠ n.par := hp m (by rw [Tr.flat]; exact List.mem_cons_self)
    rw [Fits]
    refine ⟨?_, ?_, Fitss.keep L n h0 hn m.id ks h.2.2 fun x hx => hp x (by rw [Tr.flat]; exact List.mem_cons_of_mem _ hx)⟩
    · rw [at_append L n _ hn, if_neg hm]; exact h.1
    · rw [kids_append L n _ h0, if_neg h1]; exact h.2.1
theorem Fitss.keep (L : List Nd) (n : Nd) (h0 : L ≠ []) (hn : hasZ L n.id = false) (p : Int) : ∀ ks : List Tr, Fitss L p ks → (∀ x ∈ flats ks, x.id ≠ n.par) → Fitss (L ++ [n]) p ks
  | [], _, _ => by rw [Fitss]; trivial
  | k :: r, h, hp => by
    rw [Fitss] at h ⊢
    exact ⟨h.1, Fits.keep L n h0 hn k h.2.1 fun x hx => hp x (by rw [flats]; exact List.mem_append_left _ hx), Fitss.keep L n h0 hn p r h.2.2 fun x hx => hp x (by rw [flats]; exact List.mem_append_right _ hx)⟩
end
/-- The way from the top to the node that was told last. -/
inductive Spine : Tr → List Int → Prop
  | tip (n : Nd) : Spine (.mk n []) [n.id]
  | step (n : Nd) (ks : List Tr) (k : Tr) (s : List Int) : Spine k s → Spine (.mk n (ks ++ [k])) (n.id :: s)
theorem Spine.root {T : Tr} {s : List Int} (h : Spine T s) : T.n.id ∈ s := by
  cases h <;> exact List.mem_cons_self
theorem Spine.mem {T : Tr} {s : List Int} (h : Spine T s) : ∀ x ∈ s, ∃ m ∈ T.flat, m.id = x := by
  induction h with
  | tip n =>
    intro x hx
    have : x = n.id := by simpa using hx
    exact ⟨n, by rw [Tr.flat]; exact List.mem_cons_self, this.symm⟩
  | step n ks k s hk ih =>
    intro x hx
    rcases List.mem_cons.1 hx with rfl | hx
    · exact ⟨n, by rw [Tr.flat]; exact List.mem_cons_self, rfl⟩
    · obtain ⟨m, hm, e⟩ := ih x hx
      refine ⟨m, ?_, e⟩
      rw [Tr.flat, flats_append]
      refine List.mem_cons_of_mem _ (List.mem_append_right _ ?_)
      rw [flats, flats, List.append_nil]
      exact hm
/-- Up along the spine. -/
theorem Spine.up {L : List Nd} {T : Tr} {s : List Int} (h : Spine T s) (hF : Fits L T) : ∀ x ∈ s, x = T.n.id ∨ parZ L x ∈ s := by
  induction h with
  | tip n =>
    intro x hx
    have h1 : x = n.id := by simpa using hx
    exact .inl h1
  | step n ks k s hk ih =>
    intro x hx
    rw [Fits, fitss_append] at hF
    obtain ⟨-, -, -, hF⟩ := hF
    rw [Fitss] at hF
    obtain ⟨hp, hFk, -⟩ := hF
    rcases List.mem_cons.1 hx with rfl | hx
    · exact .inl rfl
    · rcases ih hFk x hx with rfl | h1
      · refine .inr ?_
        have : parZ L k.n.id = n.id := by
          unfold parZ
          rw [Fits.mem L k hFk _ (root_mem k)]
          exact hp
        rw [this]
        exact List.mem_cons_self
      · exact .inr (List.mem_cons_of_mem _ h1)
theorem nodup_left {a b : List Nd} {x y : Nd} (h : ((a ++ b).map Nd.id).Nodup) (hx : x ∈ a) (hy : y ∈ b) : x.id ≠ y.id := by
  rw [List.map_append, List.nodup_append] at h
  exact h.2.2 _ (List.mem_map_of_mem hx) _ (List.mem_map_of_mem hy)
/-- One more node, behind the one that was told last, as the last kid of one on the spine. -/
theorem Spine.add {L : List Nd} (n : Nd) (h0 : L ≠ []) (hn : hasZ L n.id = false) (hk0 : kidsZ L n.id = []) (hne : n.id ≠ n.par) {T : Tr} {s : List Int} (h : Spine T s) :
    Fits L T → (T.flat.map Nd.id).Nodup → n.par ∈ s → ∃ T' s', T'.n = T.n ∧ T'.flat = T.flat ++ [n] ∧ Fits (L ++ [n]) T' ∧ Spine T' s' ∧ n.id ∈ s' := by
  have leaf : Fits (L ++ [n]) (.mk n []) := by
    rw [Fits, Fitss]
    exact ⟨by rw [at_append L n _ hn, if_pos rfl], by rw [kids_append L n _ h0, if_neg hne, hk0]; rfl, trivial⟩
  have hm : ∀ m : Nd, atZ L m.id = some m → m.id ≠ n.id := fun m h e => by
    rw [e, has_no hn] at h
    cases h
  induction h with
  | tip m =>
    intro hF hd hp
    have hp' : n.par = m.id := by simpa using hp
    rw [Fits] at hF
    refine ⟨.mk m [.mk n []], [m.id, n.id], rfl, ?_, ?_, Spine.step m [] (.mk n []) [n.id] (Spine.tip n), by simp⟩
    · simp [Tr.flat, flats]
    · rw [Fits, Fitss, Fitss]
      refine ⟨by rw [at_append L n _ hn, if_neg (hm m hF.1)]; exact hF.1, ?_, hp', leaf, trivial⟩
      rw [kids_append L n _ h0, if_pos hp'.symm, hF.2.1]; rfl
  | step m ks k s hk ih =>
    intro hF hd hp
    rw [Fits, fitss_append, Fitss] at hF
    obtain ⟨hF1, hF2, hF3, hF4, hF5, -⟩ := hF
    have hfl : (Tr.mk m (ks ++ [k])).flat = m :: (flats ks ++ k.flat) := by rw [Tr.flat, flats_append, flats, flats, List.append_nil]
    rw [hfl] at hd ⊢
    by_cases hq : n.par = m.id
    · refine ⟨.mk m ((ks ++ [k]) ++ [.mk n []]), m.id :: [n.id], rfl, ?_, ?_, Spine.step m (ks ++ [k]) (.mk n []) [n.id] (Spine.tip n), by simp⟩
      · rw [Tr.flat, flats_append, flats_append, flats, flats, flats, flats, Tr.flat, flats]; simp
      · have far : ∀ x ∈ flats ks ++ k.flat, x.id ≠ n.par := fun x hx e => by
          rw [List.map_cons, List.nodup_cons] at hd
          exact hd.1 (by rw [← hq, ← e]; exact List.mem_map_of_mem hx)
        rw [Fits, fitss_append, fitss_append, Fitss, Fitss, Fitss, Fitss]
        refine ⟨by rw [at_append L n _ hn, if_neg (hm m hF1)]; exact hF1, ?_, ⟨Fitss.keep L n h0 hn m.id ks hF3 fun x hx => far x (List.mem_append_left _ hx), hF4, Fits.keep L n h0 hn k hF5 fun x hx => far x (List.mem_append_right _ hx), trivial⟩, hq, leaf, trivial⟩
        rw [kids_append L n _ h0, if_pos hq.symm, hF2, List.map_append (l₂ := [Tr.mk n []])]; rfl
    · have hps : n.par ∈ s := by
        rcases List.mem_cons.1 hp with e | e
        · exact absurd e hq
        · exact e
      rw [List.map_cons, List.nodup_cons] at hd
      have hdk : (k.flat.map Nd.id).Nodup := by
        have := hd.2
        rw [List.map_append, List.nodup_append] at this
        exact this.2.1
      obtain ⟨k', s', e1, e2, e3, e4, e5⟩ := ih hF5 hdk hps
      obtain ⟨q, hq1, hq2⟩ := Spine.mem hk n.par hps
      refine ⟨.mk m (ks ++ [k']), m.id :: s', rfl, ?_, ?_, Spine.step m ks k' s' e4, List.mem_cons_of_mem _ e5⟩
      · rw [Tr.flat, flats_append, flats, flats, List.append_nil, e2]; simp
      · rw [Fits, fitss_append, Fitss, Fitss]
        refine ⟨by rw [at_append L n _ hn, if_neg (hm m hF1)]; exact hF1, ?_, Fitss.keep L n h0 hn m.id ks hF3 fun x hx => ?_, by rw [e1]; exact hF4, e3, trivial⟩
        · rw [kids_append L n _ h0, if_neg (fun e => hq e.symm), hF2, List.map_append, List.map_append]
          simp [e1]
        · rw [← hq2]
          exact nodup_left hd.2 hx hq1
/-- What is a tree told from the root on. -/
def PreZ (L : List Nd) (last : Int) : Prop := ∃ T s, T.flat = L ∧ Fits L T ∧ Spine T s ∧ last ∈ s
theorem kids_none {L : List Nd} (h : TreeOk L) {id : Int} (hn : hasZ L id = false) : kidsZ L id = [] := by
  unfold kidsZ
  rw [List.map_eq_nil_iff, List.filter_eq_nil_iff]
  intro m hm e
  obtain ⟨r, R, rfl, -⟩ := h.root
  obtain ⟨i, hi, rfl⟩ := List.mem_iff_getElem.1 (show m ∈ R from hm)
  obtain ⟨j, hj, ej⟩ := h.up (i + 1) (by simp; omega) (by omega)
  have : hasZ (r :: R) id = true := has_iff.2 ⟨_, List.getElem_mem (show j < (r :: R).length by simp; omega), by rw [ej]; simpa using e⟩
  rw [this] at hn
  cases hn
theorem below_spine {L : List Nd} (h : TreeOk L) {T : Tr} {s : List Int} (hs : Spine T s) (hF : Fits L T) (hr : parZ L T.n.id = -1) {of_ : Int} (ho : 0 ≤ of_) :
    ∀ (f : Nat) (x : Int), x ∈ s → belowF L f x of_ = true → of_ ∈ s
  | 0, x, hx, hb => by
    rw [belowF] at hb
    have : x = of_ := by simpa using hb
    exact this ▸ hx
  | f + 1, x, hx, hb => by
    rw [belowF] at hb
    by_cases he : x = of_
    · exact he ▸ hx
    rw [if_neg he] at hb
    split at hb
    · rcases hs.up hF x hx with rfl | h1
      · rw [hr] at hb
        cases f with
        | zero => rw [belowF] at hb; have : (-1 : Int) = of_ := by simpa using hb
                  omega
        | succ f => rw [belowF, if_neg (by omega), if_neg (by rw [h.not_nobody (by omega)]; decide)] at hb; cases hb
      · exact below_spine h hs hF hr ho f _ h1 hb
    · cases hb
theorem PreZ.one {r : Nd} (h : rootB r = true) : PreZ [r] 0 := by
  have ht := TreeOk.one h
  have h0 : r.id = 0 := by
    unfold rootB at h
    simp only [Bool.and_eq_true, decide_eq_true_eq] at h
    exact h.1.1.1
  refine ⟨.mk r [], [r.id], by simp [Tr.flat, flats], ?_, Spine.tip r, by simp [h0]⟩
  rw [Fits, Fitss]
  exact ⟨ht.at_mem (by simp), by simp [kidsZ], trivial⟩
theorem PreZ.takes {L : List Nd} (h : TreeOk L) {last : Int} (hp : PreZ L last) {n : Nd} (ht : takesB L last n = true) : PreZ (L ++ [n]) n.id := by
  obtain ⟨h1, h2, h3, h4, h5, h6, h7⟩ := takes_facts ht
  obtain ⟨T, s, rfl, hF, hS, hl⟩ := hp
  have hroot : T.n.id = 0 ∧ T.n.par = -1 := by
    obtain ⟨r, R, e, e1, e2, -⟩ := h.root
    cases T with
    | mk m ks =>
      rw [Tr.flat] at e
      injection e with e e'
      subst e
      exact ⟨e1, e2⟩
  have hr : parZ T.flat T.n.id = -1 := by
    unfold parZ
    rw [Fits.mem _ T hF _ (root_mem T)]
    exact hroot.2
  have ho : 0 ≤ n.par := by
    obtain ⟨m, hm, e⟩ := has_iff.1 h7
    have := h.rng m hm
    omega
  have hsp : n.par ∈ s := by
    unfold belowZ at h4
    rw [Bool.and_eq_true] at h4
    exact below_spine h hS hF hr ho _ _ hl h4.2
  have hne : n.id ≠ n.par := fun e => by rw [e, h7] at h2; cases h2
  obtain ⟨T', s', e1, e2, e3, e4, e5⟩ := hS.add n (by intro e; have := root_mem T; rw [e] at this; cases this) h2 (kids_none h h2) hne hF h.nd hsp
  exact ⟨T', s', e2, e3, e4, e5⟩
theorem grow_pre (most : Nat) : ∀ (R : List Nd) (L : List Nd) (last : Int), TreeOk L → PreZ L last → growB most L last R = true → ∃ last', PreZ (L ++ R) last'
  | [], L, last, _, hp, _ => ⟨last, by rw [List.append_nil]; exact hp⟩
  | n :: r, L, last, h, hp, hg => by
    rw [growB, Bool.and_eq_true, Bool.and_eq_true] at hg
    have := grow_pre most r (L ++ [n]) n.id (h.takes hg.1.2) (hp.takes h hg.1.2) hg.2
    rwa [List.append_assoc] at this
/-- The tree that a list tells. -/
theorem of_tree (most : Int) (l : List Nd) (h : ofB most l = true) : ∃ T, T.flat = l ∧ Fits l T ∧ T.n.id = 0 := by
  cases l with
  | nil => cases h
  | cons r R =>
    rw [ofB, Bool.and_eq_true] at h
    obtain ⟨last, T, s, e, hF, -, -⟩ := grow_pre _ R [r] 0 (TreeOk.one h.1) (PreZ.one h.1) h.2
    refine ⟨T, e, hF, ?_⟩
    cases T with
    | mk m ks =>
      rw [Tr.flat] at e
      injection e with e _
      subst e
      have h1 := h.1
      unfold rootB at h1
      simp only [Bool.and_eq_true, decide_eq_true_eq] at h1
      exact h1.1.1.1
end Go.Proofs.YtpbfdfpedpfemaaGreatDoor
