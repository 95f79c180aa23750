import Derived.Test.YtodnplllkpgfaaaFreeKeep
/- Free space among items that grow: within the room, and short of it only with all at their greatest. No program is named here. -/
namespace Go.Proofs.Ytodnplllkpgfaaa
open Go.RowKit
set_option linter.unusedVariables false
set_option linter.unusedSimpArgs false

theorem sum_lo_by {α : Type} {f : α → Int} {c : Int} : ∀ (l : List α), (∀ x ∈ l, -c ≤ f x) → -(c * (l.length : Int)) ≤ (l.map f).sum
  | [], _ => by simp
  | x :: r, h => by
    have := sum_lo_by r (fun y hy => h y (by simp [hy]))
    have := h x (by simp)
    simp only [List.map_cons, List.sum_cons, List.length_cons]
    have e : c * ((r.length + 1 : Nat) : Int) = c * (r.length : Int) + c := by push_cast; rw [Int.mul_add, Int.mul_one]
    omega
theorem sum_hi_by {α : Type} {f : α → Int} {c : Int} : ∀ (l : List α), (∀ x ∈ l, f x ≤ c) → (l.map f).sum ≤ c * (l.length : Int)
  | [], _ => by simp
  | x :: r, h => by
    have := sum_hi_by r (fun y hy => h y (by simp [hy]))
    have := h x (by simp)
    simp only [List.map_cons, List.sum_cons, List.length_cons]
    have e : c * ((r.length + 1 : Nat) : Int) = c * (r.length : Int) + c := by push_cast; rw [Int.mul_add, Int.mul_one]
    omega
/-- How much of the room items have, those not frozen with their Hyps (their greatest, their least). -/
def hypS (l : List It) : Int := (l.map (fun i => i.x.around + if i.fz then i.s else hypF i.x)).sum
def topS (l : List It) : Int := (l.map (fun i => i.x.around + if i.fz then i.s else topF i.x)).sum
def botS (l : List It) : Int := (l.map (fun i => i.x.around + if i.fz then i.s else botF i.x)).sum
def allS (l : List It) : Int := (l.map (fun i => i.x.around + i.s)).sum
theorem plain_hyp : Plain fun i => i.x.around + if i.fz then i.s else hypF i.x := fun x s s' => rfl
theorem plain_top : Plain fun i => i.x.around + if i.fz then i.s else topF i.x := fun x s s' => rfl
theorem plain_bot : Plain fun i => i.x.around + if i.fz then i.s else botF i.x := fun x s s' => rfl
theorem hypF_bot (x : Fx) : botF x ≤ hypF x := clF_bot x _
theorem botF_nn (x : Fx) : 0 ≤ botF x := by unfold botF; omega
structure InRoom (inner : Int) : Prop where
  lo : -8796093022208 ≤ inner
  hi : inner ≤ 36028797018963968
/-- An item that is in bounds. -/
def Fits1 (i : It) : Prop := botF i.x ≤ i.s ∧ (0 ≤ i.x.mx → i.s ≤ topF i.x)

structure GI (inner : Int) (l : List It) : Prop where
  ok : ∀ i ∈ l, FxOk i.x
  len : l.length ≤ 500
  sz : ∀ i ∈ l, Fits1 i
  un : ∀ i ∈ l, i.fz = false → 0 < i.x.grow ∧ i.x.base ≤ hypF i.x
  room : hypS l ≤ inner
  bad : (∃ i ∈ l, i.fz = true ∧ 0 < i.x.grow ∧ ¬ (0 ≤ i.x.mx ∧ topF i.x ≤ i.s)) → (∃ i ∈ l, i.fz = false ∧ i.x.mx < 0) ∨ inner ≤ topS l
theorem GI.take {inner : Int} {l : List It} (h : GI inner l) : (l.map tkI).sum ≤ hypS l := by
  unfold hypS
  refine sum_le_by l fun i hi => ?_
  unfold tkI
  cases hf : i.fz with
  | true => simp
  | false => have := (h.un i hi hf).2; simp; omega
theorem GI.facts {inner : Int} {l : List It} (h : GI inner l) (hr : InRoom inner) : ShareFacts (leftI true inner l) (wtsI true l) := by
  have ht : -(8796093022208 * (l.length : Int)) ≤ (l.map tkI).sum := sum_lo_by l fun i hi => by
    have := (h.ok i hi).a0
    have := (h.ok i hi).b0
    have := (h.sz i hi).1
    have := botF_nn i.x
    unfold tkI; split <;> omega
  have hl := h.len
  have := hr.lo
  have := hr.hi
  refine ⟨?_, ?_, ?_⟩
  · unfold sumOk
    rw [Bool.and_eq_true, decide_eq_true_eq, wtsI_len, List.all_eq_true]
    refine ⟨by have := open_le l; omega, fun z hz => ?_⟩
    obtain ⟨i, hi, rfl⟩ := List.mem_map.1 hz
    have hi := (List.mem_filter.1 hi).1
    have := (h.ok i hi).g0
    have := (h.ok i hi).g1
    unfold wOk wtF
    simp only [if_true]
    rw [Bool.and_eq_true, decide_eq_true_eq, decide_eq_true_eq]
    omega
  · unfold leftI; rw [if_pos rfl]; omega
  · unfold leftI freeI; rw [if_pos rfl]; omega
theorem GI.step {inner : Int} {l : List It} (h : GI inner l) (hr : InRoom inner) (h0 : openI l ≠ 0) : GI inner (roundI true inner l) := by
  have F := h.facts hr
  have hT := h.take
  have hfree : 0 ≤ freeI inner l := by have := h.room; unfold freeI; omega
  have hleft : leftI true inner l = freeI inner l := by unfold leftI; rw [if_pos rfl]; omega
  have hW : 0 < (wtsI true l).sum := by
    have h1 : ∀ z ∈ wtsI true l, 1 ≤ z := fun z hz => by
      obtain ⟨i, hi, rfl⟩ := List.mem_map.1 hz
      obtain ⟨hi, hf⟩ := List.mem_filter.1 hi
      have := (h.un i hi (by simpa using hf)).1
      unfold wtF; rw [if_pos rfl]; omega
    have h2 := sum_lo_by (f := id) (c := -1) (wtsI true l) (fun z hz => by have := h1 z hz; simp only [id]; omega)
    rw [List.map_id, wtsI_len] at h2
    omega
  have hsum : (shareZ (leftI true inner l) (wtsI true l)).sum = freeI inner l := by rw [share_sum F, if_pos hW, hleft]
  have hpl : (shareZ (leftI true inner l) (wtsI true l)).length = openI l := by rw [F.length, wtsI_len]
  have hpos : ∀ z ∈ shareZ (leftI true inner l) (wtsI true l), 0 ≤ z := fun z hz => by
    obtain ⟨k, hk, rfl⟩ := share_mem F hz
    exact F.pos k hk (by rw [hleft]; exact hfree)
  unfold roundI
  generalize shareZ (leftI true inner l) (wtsI true l) = ps at *
  have hw := put_wants l ps hpl
  have hall := sizes_over (putI l ps)
  rw [hw, hsum] at hall
  have hall : ((putI l ps).map (fun p => p.1.x.around + p.1.s)).sum = inner + overI (putI l ps) := by rw [hall]; unfold freeI; omega
  have hMx := putI_plain plain_hyp l ps
  have hNx := putI_plain plain_top l ps
  have hx : ∀ p ∈ putI l ps, FxOk p.1.x := fun p hp => by
    rcases putI_cases l ps p hp with ⟨_, hm, _⟩ | ⟨_, _, i, hi, _, e⟩
    · exact h.ok _ hm
    · rw [← e]; exact h.ok i hi
  have hun : ∀ p ∈ putI l ps, p.1.fz = false → 0 < p.1.x.grow ∧ p.1.x.base ≤ hypF p.1.x ∧ p.1.s = clF p.1.x p.2 ∧ p.1.x.base ≤ p.2 := fun p hp hf => by
    rcases putI_cases l ps p hp with ⟨a, _⟩ | ⟨_, hs, i, hi, hif, e⟩
    · rw [a] at hf; cases hf
    · obtain ⟨z, hz, e2⟩ := putI_part l ps p hp hf
      have hz0 : 0 ≤ z := by rcases hz with hz | hz; (· exact hpos z hz); (· omega)
      have := h.un i hi hif
      rw [e] at this
      exact ⟨this.1, this.2, hs, by omega⟩
  have hfz : ∀ p ∈ putI l ps, p.1.fz = true → p.1 ∈ l ∧ p.2 = p.1.s := fun p hp hf => by
    rcases putI_cases l ps p hp with ⟨_, b, c⟩ | ⟨a, _⟩
    · exact ⟨b, c⟩
    · rw [a] at hf; cases hf
  have hsz : ∀ p ∈ putI l ps, Fits1 p.1 := fun p hp => by
    cases hf : p.1.fz with
    | true => exact h.sz _ (hfz p hp hf).1
    | false => have := hun p hp hf; unfold Fits1; rw [this.2.2.1]; exact ⟨clF_bot _ _, clF_top _ _⟩
  have hge : ∀ p ∈ putI l ps, p.1.fz = false → hypF p.1.x ≤ p.1.s := fun p hp hf => by
    have := hun p hp hf; rw [this.2.2.1]; exact clF_mono _ this.2.2.2
  have hbad := h.bad
  have hroom := h.room
  have hll := h.len
  have hlen := putI_len l ps
  generalize hq : putI l ps = q at *
  -- the flag behind the round
  have flag : ∀ p : It × Int, (stopI (overI q) p).fz = (p.1.fz || decide (overI q = 0) || (decide (0 < overI q) && decide (0 < p.1.s - p.2)) || (decide (overI q < 0) && decide (p.1.s - p.2 < 0))) := fun p => rfl
  refine ⟨?_, ?_, ?_, ?_, ?_, ?_⟩
  · intro i hi; obtain ⟨p, hp, rfl⟩ := List.mem_map.1 hi; exact hx p hp
  · rw [List.length_map, hlen]; exact hll
  · intro i hi; obtain ⟨p, hp, rfl⟩ := List.mem_map.1 hi; exact hsz p hp
  · intro i hi hf
    obtain ⟨p, hp, rfl⟩ := List.mem_map.1 hi
    have hpf : p.1.fz = false := by
      rw [flag] at hf
      simp only [Bool.or_eq_false_iff] at hf
      exact hf.1.1.1
    have := hun p hp hpf
    exact ⟨this.1, this.2.1⟩
  · unfold hypS
    rw [List.map_map]
    rcases Int.lt_or_le 0 (overI q) with ho | ho
    · -- only those at their least are frozen
      have e : (q.map ((fun i : It => i.x.around + if i.fz then i.s else hypF i.x) ∘ stopI (overI q))).sum = (q.map (fun p => p.1.x.around + if p.1.fz then p.1.s else hypF p.1.x)).sum := by
        refine sum_eq_by q fun p hp => ?_
        show p.1.x.around + (if (stopI (overI q) p).fz then p.1.s else hypF p.1.x) = _
        cases hf : p.1.fz with
        | true => rw [flag, hf]; simp
        | false =>
          cases hg : (stopI (overI q) p).fz with
          | false => rfl
          | true =>
            rw [flag, hf] at hg
            have hd : 0 < p.1.s - p.2 := by
              rw [decide_eq_false (show ¬ overI q = 0 by omega), decide_eq_false (show ¬ overI q < 0 by omega), decide_eq_true ho] at hg
              simpa using hg
            have hu := hun p hp hf
            have e1 : p.1.s = botF p.1.x := by rw [hu.2.2.1]; exact clF_more _ _ (by rw [← hu.2.2.1]; omega)
            have e2 : hypF p.1.x = botF p.1.x := clF_more _ _ (by have := clF_bot p.1.x p.1.x.base; omega)
            simp only [if_true]
            rw [e1, e2]; rfl
      rw [e, hMx]
      exact hroom
    · have e : (q.map ((fun i : It => i.x.around + if i.fz then i.s else hypF i.x) ∘ stopI (overI q))).sum ≤ (q.map (fun p => p.1.x.around + p.1.s)).sum := by
        refine sum_le_by q fun p hp => ?_
        show p.1.x.around + (if (stopI (overI q) p).fz then p.1.s else hypF p.1.x) ≤ _
        cases hg : (stopI (overI q) p).fz with
        | true => simp
        | false =>
          have hpf : p.1.fz = false := by
            rw [flag] at hg
            simp only [Bool.or_eq_false_iff] at hg
            exact hg.1.1.1
          have := hge p hp hpf
          simp; omega
      omega
  · rintro ⟨i, hi, hf, hg, hnt⟩
    obtain ⟨p, hp, rfl⟩ := List.mem_map.1 hi
    unfold topS
    rw [List.map_map]
    rcases Int.lt_or_le (overI q) 0 with ho | ho
    · -- those frozen now are at their greatest
      have ht : ∀ p ∈ q, p.1.fz = false → (stopI (overI q) p).fz = true → 0 ≤ p.1.x.mx ∧ p.1.s = topF p.1.x := fun p hp hf hg => by
        rw [flag, hf, decide_eq_false (show ¬ overI q = 0 by omega), decide_eq_false (show ¬ 0 < overI q by omega), decide_eq_true ho] at hg
        have hd : p.1.s - p.2 < 0 := by simpa using hg
        have hu := hun p hp hf
        have := clF_less p.1.x p.2 (by rw [← hu.2.2.1]; omega)
        exact ⟨this.1, by rw [hu.2.2.1]; exact this.2⟩
      have hold : p.1.fz = true := by
        cases hpf : p.1.fz with
        | true => rfl
        | false =>
          have := ht p hp hpf hf
          exact absurd ⟨this.1, by show topF p.1.x ≤ p.1.s; omega⟩ hnt
      have e : (q.map ((fun i : It => i.x.around + if i.fz then i.s else topF i.x) ∘ stopI (overI q))).sum = (q.map (fun p => p.1.x.around + if p.1.fz then p.1.s else topF p.1.x)).sum := by
        refine sum_eq_by q fun p hp => ?_
        show p.1.x.around + (if (stopI (overI q) p).fz then p.1.s else topF p.1.x) = _
        cases hf : p.1.fz with
        | true => rw [flag, hf]; simp
        | false =>
          cases hg : (stopI (overI q) p).fz with
          | false => rfl
          | true => have := ht p hp hf hg; simp only [if_true]; rw [this.2]; rfl
      rw [e, hNx]
      rcases hbad ⟨p.1, (hfz p hp hold).1, hold, hg, hnt⟩ with ⟨j, hj, hjf, hjm⟩ | hN
      · left
        -- one without an end is not frozen now
        have hex : ∃ p ∈ q, p.1.x = j.x ∧ p.1.fz = false := by
          rw [← hq]
          exact putI_has hjf l ps hj
        obtain ⟨p', hp', e1, e2⟩ := hex
        refine ⟨stopI (overI q) p', List.mem_map_of_mem hp', ?_, by show p'.1.x.mx < 0; rw [e1]; exact hjm⟩
        cases hg' : (stopI (overI q) p').fz with
        | false => rfl
        | true => have := ht p' hp' e2 hg'; rw [e1] at this; omega
      · exact .inr hN
    · -- the sizes come to the room, or to more
      by_cases hno : ∃ p ∈ q, (stopI (overI q) p).fz = false ∧ p.1.x.mx < 0
      · obtain ⟨p', hp', e1, e2⟩ := hno
        exact .inl ⟨stopI (overI q) p', List.mem_map_of_mem hp', e1, e2⟩
      · right
        have e : (q.map (fun p => p.1.x.around + p.1.s)).sum ≤ (q.map ((fun i : It => i.x.around + if i.fz then i.s else topF i.x) ∘ stopI (overI q))).sum := by
          refine sum_le_by q fun p hp => ?_
          show _ ≤ p.1.x.around + (if (stopI (overI q) p).fz then p.1.s else topF p.1.x)
          cases hg : (stopI (overI q) p).fz with
          | true => simp
          | false =>
            have hm : 0 ≤ p.1.x.mx := by
              rcases Int.lt_or_le p.1.x.mx 0 with hm | hm
              · exact absurd ⟨p, hp, hg, hm⟩ hno
              · exact hm
            have := (hsz p hp).2 hm
            simp; omega
        omega
/-- What all of a growing row comes to. -/
theorem allS_of {l : List It} (h : openI l = 0) : hypS l = allS l ∧ topS l = allS l ∧ botS l = allS l := by
  have hz := open_zero h
  refine ⟨sum_eq_by l fun i hi => ?_, sum_eq_by l fun i hi => ?_, sum_eq_by l fun i hi => ?_⟩ <;> (rw [hz i hi]; simp)
theorem GI.fin {inner : Int} {l : List It} (h : GI inner l) (h0 : openI l = 0) : allS l ≤ inner ∧ (allS l < inner → ∀ i ∈ l, 0 < i.x.grow → 0 ≤ i.x.mx ∧ topF i.x ≤ i.s) := by
  obtain ⟨e1, e2, -⟩ := allS_of h0
  refine ⟨by rw [← e1]; exact h.room, fun hlt i hi hg => ?_⟩
  by_cases c : 0 ≤ i.x.mx ∧ topF i.x ≤ i.s
  · exact c
  · rcases h.bad ⟨i, hi, open_zero h0 i hi, hg, c⟩ with ⟨j, hj, hjf, -⟩ | hN
    · rw [open_zero h0 j hj] at hjf; cases hjf
    · rw [e2] at hN; omega
theorem GI.start {inner : Int} {l : List Fx} (hok : ∀ x ∈ l, FxOk x) (hlen : l.length ≤ 500) (hg : growsF inner l = true) : GI inner (l.map (startI true)) := by
  have hs : ((l.map (startI true)).map (fun i => i.x.around + if i.fz then i.s else hypF i.x)).sum < inner := by
    unfold growsF at hg
    rw [decide_eq_true_eq] at hg
    rw [List.map_map]
    have : (l.map ((fun i : It => i.x.around + if i.fz then i.s else hypF i.x) ∘ startI true)).sum = (l.map (fun x => hypF x + x.around)).sum := by
      refine sum_eq_by l fun x hx => ?_
      show x.around + (if _ then hypF x else hypF x) = _
      rw [ite_self]; omega
    rw [this]; exact hg
  refine ⟨?_, by simpa using hlen, ?_, ?_, by unfold hypS; omega, ?_⟩
  · intro i hi; obtain ⟨x, hx, rfl⟩ := List.mem_map.1 hi; exact hok x hx
  · intro i hi; obtain ⟨x, hx, rfl⟩ := List.mem_map.1 hi; exact ⟨clF_bot x _, clF_top x _⟩
  · intro i hi hf
    obtain ⟨x, hx, rfl⟩ := List.mem_map.1 hi
    have hf : (decide (x.grow = 0) || decide (hypF x < x.base)) = false := hf
    rw [Bool.or_eq_false_iff, decide_eq_false_iff_not, decide_eq_false_iff_not] at hf
    have := (hok x hx).g0
    show 0 < x.grow ∧ x.base ≤ hypF x
    omega
  · rintro ⟨i, hi, hf, hgr, hnt⟩
    obtain ⟨x, hx, rfl⟩ := List.mem_map.1 hi
    have hf : (decide (x.grow = 0) || decide (hypF x < x.base)) = true := hf
    have hgr : 0 < x.grow := hgr
    rw [Bool.or_eq_true, decide_eq_true_eq, decide_eq_true_eq] at hf
    have h1 := clF_less x x.base (hf.resolve_left (by omega))
    refine absurd ⟨h1.1, ?_⟩ hnt
    show topF x ≤ hypF x
    unfold hypF; omega
/-- Growing items come to the room, or each one with a factor is at its greatest. -/
theorem grow_shares {inner : Int} {l : List Fx} (hok : ∀ x ∈ l, FxOk x) (hlen : l.length ≤ 500) (hr : InRoom inner) (hg : growsF inner l = true) :
    ∃ r : List It, r.map It.x = l ∧ r.map It.s = sizesF inner l ∧ (∀ i ∈ r, Fits1 i) ∧ allS r ≤ inner ∧ (allS r < inner → ∀ i ∈ r, 0 < i.x.grow → 0 ≤ i.x.mx ∧ topF i.x ≤ i.s) := by
  have h := run_keep (g := true) (inner := inner) (fun l h h0 => GI.step h hr h0) l.length (l.map (startI true)) (by have := open_le (l.map (startI true)); simpa using this) (GI.start hok hlen hg)
  refine ⟨_, ?_, by unfold sizesF; rw [hg], h.1.sz, h.1.fin h.2⟩
  rw [runI_x, List.map_map]
  exact List.map_id l
end Go.Proofs.Ytodnplllkpgfaaa
