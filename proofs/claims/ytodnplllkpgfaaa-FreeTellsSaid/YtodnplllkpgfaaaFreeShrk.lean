import Derived.Test.YtodnplllkpgfaaaFreeGrow
/- Free space among items that shrink: not within the room, and beyond it only with all at their least. No program is named here. -/
namespace Go.Proofs.Ytodnplllkpgfaaa
open Go.RowKit
set_option linter.unusedVariables false
set_option linter.unusedSimpArgs false

structure SI (inner : Int) (l : List It) : Prop where
  ok : ∀ i ∈ l, FxOk i.x
  len : l.length ≤ 500
  sz : ∀ i ∈ l, Fits1 i ∧ i.s ≤ 8796093022208
  un : ∀ i ∈ l, i.fz = false → 0 < i.x.shrink ∧ hypF i.x ≤ i.x.base
  room : inner ≤ hypS l
  bad : (∃ i ∈ l, i.fz = true ∧ 0 < i.x.shrink ∧ 0 < i.x.base ∧ hypF i.x ≤ i.x.base ∧ ¬ i.s ≤ botF i.x) → botS l ≤ inner
theorem hypF_hi {x : Fx} (h : FxOk x) : hypF x ≤ 8796093022208 := by
  have := h.b1; have := h.m1; have := h.x1
  unfold hypF clF; split <;> omega
theorem SI.take {inner : Int} {l : List It} (h : SI inner l) : hypS l ≤ (l.map tkI).sum := by
  unfold hypS
  refine sum_le_by l fun i hi => ?_
  unfold tkI
  cases hf : i.fz with
  | true => simp
  | false => have := (h.un i hi hf).2; simp; omega
theorem wt_shrink {x : Fx} (h : FxOk x) : 0 ≤ wtF false x ∧ wtF false x ≤ 1125899906842624 := by
  have h1 := Int.mul_nonneg h.b0 h.s0
  have h2 : x.base * x.shrink ≤ x.base * 100 := Int.mul_le_mul_of_nonneg_left h.s1 h.b0
  have := h.b1
  unfold wtF; simp; omega
theorem SI.facts {inner : Int} {l : List It} (h : SI inner l) (hr : InRoom inner) : ShareFacts (leftI false inner l) (wtsI false l) := by
  have ht : (l.map tkI).sum ≤ 17592186044416 * (l.length : Int) := sum_hi_by l fun i hi => by
    have := (h.ok i hi).a1
    have := (h.ok i hi).b1
    have := (h.sz i hi).2
    unfold tkI; split <;> omega
  have hl := h.len
  have := hr.lo
  have := hr.hi
  refine ⟨?_, ?_, ?_⟩
  · unfold sumOk
    rw [Bool.and_eq_true, decide_eq_true_eq, wtsI_len, List.all_eq_true]
    refine ⟨by have := open_le l; omega, fun z hz => ?_⟩
    obtain ⟨i, hi, rfl⟩ := List.mem_map.1 hz
    have hi := (List.mem_filter.1 hi).1
    have := wt_shrink (h.ok i hi)
    unfold wOk
    rw [Bool.and_eq_true, decide_eq_true_eq, decide_eq_true_eq]
    omega
  · unfold leftI freeI; rw [if_neg (by simp)]; omega
  · unfold leftI freeI; rw [if_neg (by simp)]; omega
theorem sum_zero_all : ∀ (ws : List Int), (∀ w ∈ ws, 0 ≤ w) → ws.sum ≤ 0 → ∀ w ∈ ws, w = 0
  | [], _, _, w, hw => by cases hw
  | a :: r, h, hs, w, hw => by
    have h1 := h a (by simp)
    have h2 : 0 ≤ r.sum := by
      have := sum_lo_by (f := id) (c := 0) r (fun y hy => by have := h y (by simp [hy]); simp only [id]; omega)
      rw [List.map_id] at this; omega
    simp only [List.sum_cons] at hs
    rw [List.mem_cons] at hw
    rcases hw with rfl | hw
    · omega
    · exact sum_zero_all r (fun y hy => h y (by simp [hy])) (by omega) w hw
theorem SI.step {inner : Int} {l : List It} (h : SI inner l) (hr : InRoom inner) (h0 : openI l ≠ 0) : SI inner (roundI false inner l) := by
  have F := h.facts hr
  have hT := h.take
  have hfree : freeI inner l ≤ 0 := by have := h.room; unfold freeI; omega
  have hleft : leftI false inner l = freeI inner l := by unfold leftI; rw [if_neg (by simp)]; omega
  have hneg : ∀ z ∈ shareZ (leftI false inner l) (wtsI false l), z ≤ 0 := fun z hz => by
    obtain ⟨k, hk, rfl⟩ := share_mem F hz
    exact F.neg k hk (by rw [hleft]; exact hfree)
  have hsum : (0 < (wtsI false l).sum ∧ (shareZ (leftI false inner l) (wtsI false l)).sum = freeI inner l) ∨ ((∀ i ∈ l, i.fz = false → i.x.base = 0) ∧ ∀ z ∈ shareZ (leftI false inner l) (wtsI false l), z = 0) := by
    by_cases hW : 0 < (wtsI false l).sum
    · exact .inl ⟨hW, by rw [share_sum F, if_pos hW, hleft]⟩
    · refine .inr ⟨fun i hi hf => ?_, fun z hz => ?_⟩
      · have hz := sum_zero_all (wtsI false l) (fun w hw => by
          obtain ⟨i, hi, rfl⟩ := List.mem_map.1 hw
          exact (wt_shrink (h.ok i (List.mem_filter.1 hi).1)).1) (by omega) (wtF false i.x) (List.mem_map.2 ⟨i, List.mem_filter.2 ⟨hi, by simp [hf]⟩, rfl⟩)
        have hz : i.x.base * i.x.shrink = 0 := hz
        rcases Int.mul_eq_zero.1 hz with h1 | h1
        · exact h1
        · have := (h.un i hi hf).1; omega
      · obtain ⟨k, hk, rfl⟩ := share_mem F hz
        exact share_part0 _ _ _ (by omega)
  have hpl : (shareZ (leftI false inner l) (wtsI false l)).length = openI l := by rw [F.length, wtsI_len]
  unfold roundI
  generalize shareZ (leftI false inner l) (wtsI false l) = ps at *
  have hw := put_wants l ps hpl
  have hall := sizes_over (putI l ps)
  rw [hw] at hall
  have hMx := putI_plain plain_hyp l ps
  have hNx := putI_plain plain_bot l ps
  have hx : ∀ p ∈ putI l ps, FxOk p.1.x := fun p hp => by
    rcases putI_cases l ps p hp with ⟨_, hm, _⟩ | ⟨_, _, i, hi, _, e⟩
    · exact h.ok _ hm
    · rw [← e]; exact h.ok i hi
  have hun : ∀ p ∈ putI l ps, p.1.fz = false → 0 < p.1.x.shrink ∧ hypF p.1.x ≤ p.1.x.base ∧ p.1.s = clF p.1.x p.2 ∧ p.2 ≤ p.1.x.base := fun p hp hf => by
    rcases putI_cases l ps p hp with ⟨a, _⟩ | ⟨_, hs, i, hi, hif, e⟩
    · rw [a] at hf; cases hf
    · obtain ⟨z, hz, e2⟩ := putI_part l ps p hp hf
      have hz0 : z ≤ 0 := by rcases hz with hz | hz; (· exact hneg z hz); (· omega)
      have := h.un i hi hif
      rw [e] at this
      exact ⟨this.1, this.2, hs, by omega⟩
  have hfz : ∀ p ∈ putI l ps, p.1.fz = true → p.1 ∈ l ∧ p.2 = p.1.s := fun p hp hf => by
    rcases putI_cases l ps p hp with ⟨_, b, c⟩ | ⟨a, _⟩
    · exact ⟨b, c⟩
    · rw [a] at hf; cases hf
  have hle : ∀ p ∈ putI l ps, p.1.fz = false → p.1.s ≤ hypF p.1.x := fun p hp hf => by
    have := hun p hp hf; rw [this.2.2.1]; exact clF_mono _ this.2.2.2
  have hsz : ∀ p ∈ putI l ps, Fits1 p.1 ∧ p.1.s ≤ 8796093022208 := fun p hp => by
    cases hf : p.1.fz with
    | true => exact h.sz _ (hfz p hp hf).1
    | false =>
      have := hun p hp hf
      refine ⟨?_, by have := hle p hp hf; have := hypF_hi (hx p hp); omega⟩
      unfold Fits1; rw [this.2.2.1]; exact ⟨clF_bot _ _, clF_top _ _⟩
  -- either the sizes come to the room and what was added, or all that is left has no size
  have hcase : ((putI l ps).map (fun p => p.1.x.around + p.1.s)).sum = inner + overI (putI l ps) ∨ (overI (putI l ps) = 0 ∧ ∀ p ∈ putI l ps, p.1.fz = false → p.1.x.base = 0 ∧ p.1.s = 0 ∧ hypF p.1.x = 0 ∧ botF p.1.x = 0) := by
    rcases hsum with ⟨_, hs⟩ | ⟨hb, hz⟩
    · left; rw [hall, hs]; unfold freeI; omega
    · right
      have hu : ∀ p ∈ putI l ps, p.1.fz = false → p.1.x.base = 0 ∧ p.2 = 0 ∧ p.1.s = 0 ∧ hypF p.1.x = 0 ∧ botF p.1.x = 0 := fun p hp hf => by
        rcases putI_cases l ps p hp with ⟨a, _⟩ | ⟨_, hs, i, hi, hif, e⟩
        · rw [a] at hf; cases hf
        · obtain ⟨z, hz', e2⟩ := putI_part l ps p hp hf
          have hz0 : z = 0 := by rcases hz' with hz' | hz'; (· exact hz z hz'); (· exact hz')
          have hb0 : p.1.x.base = 0 := by rw [← e]; exact hb i hi hif
          have h1 := (hun p hp hf).2.1
          have h2 := hypF_bot p.1.x
          have h3 := botF_nn p.1.x
          have h4 := hle p hp hf
          have h5 := clF_bot p.1.x p.2
          rw [← hs] at h5
          omega
      refine ⟨?_, fun p hp hf => by have := hu p hp hf; exact ⟨this.1, this.2.2⟩⟩
      unfold overI
      have e : ((putI l ps).map (fun p => p.1.s - p.2)).sum = ((putI l ps).map (fun _ => (0 : Int))).sum := sum_eq_by _ fun p hp => by
        cases hf : p.1.fz with
        | true => have := (hfz p hp hf).2; omega
        | false => have := hu p hp hf; omega
      rw [e]
      clear e
      induction putI l ps with
      | nil => rfl
      | cons a r ih => simp only [List.map_cons, List.sum_cons]; omega
  have hbad := h.bad
  have hroom := h.room
  have hll := h.len
  have hlen := putI_len l ps
  generalize hq : putI l ps = q at *
  have flag : ∀ p : It × Int, (stopI (overI q) p).fz = (p.1.fz || decide (overI q = 0) || (decide (0 < overI q) && decide (0 < p.1.s - p.2)) || (decide (overI q < 0) && decide (p.1.s - p.2 < 0))) := fun p => rfl
  have old : ∀ p ∈ q, (stopI (overI q) p).fz = false → p.1.fz = false := fun p hp hg => by
    rw [flag] at hg
    simp only [Bool.or_eq_false_iff] at hg
    exact hg.1.1.1
  refine ⟨?_, ?_, ?_, ?_, ?_, ?_⟩
  · intro i hi; obtain ⟨p, hp, rfl⟩ := List.mem_map.1 hi; exact hx p hp
  · rw [List.length_map, hlen]; exact hll
  · intro i hi; obtain ⟨p, hp, rfl⟩ := List.mem_map.1 hi; exact hsz p hp
  · intro i hi hf
    obtain ⟨p, hp, rfl⟩ := List.mem_map.1 hi
    have := hun p hp (old p hp hf)
    exact ⟨this.1, this.2.1⟩
  · -- the room
    unfold hypS
    rw [List.map_map]
    have same : (∀ p ∈ q, p.1.fz = false → (stopI (overI q) p).fz = true → p.1.s = hypF p.1.x) → (q.map ((fun i : It => i.x.around + if i.fz then i.s else hypF i.x) ∘ stopI (overI q))).sum = hypS l := fun hh => by
      have e : (q.map ((fun i : It => i.x.around + if i.fz then i.s else hypF i.x) ∘ stopI (overI q))).sum = (q.map (fun p => p.1.x.around + if p.1.fz then p.1.s else hypF p.1.x)).sum := by
        refine sum_eq_by q fun p hp => ?_
        show p.1.x.around + (if (stopI (overI q) p).fz then p.1.s else hypF p.1.x) = _
        cases hf : p.1.fz with
        | true => rw [flag, hf]; simp
        | false =>
          cases hg : (stopI (overI q) p).fz with
          | false => rfl
          | true => simp only [if_true]; rw [hh p hp hf hg]; rfl
      rw [e, hMx]; rfl
    rcases hcase with hc | ⟨hc0, hc⟩
    · rcases Int.lt_or_le (overI q) 0 with ho | ho
      · rw [same]
        · exact hroom
        · intro p hp hf hg
          rw [flag, hf, decide_eq_false (show ¬ overI q = 0 by omega), decide_eq_false (show ¬ 0 < overI q by omega), decide_eq_true ho] at hg
          have hd : p.1.s - p.2 < 0 := by simpa using hg
          have hu := hun p hp hf
          have h1 := clF_less p.1.x p.2 (by rw [← hu.2.2.1]; omega)
          have h2 : topF p.1.x < p.2 := by rw [← h1.2, ← hu.2.2.1]; omega
          have h3 : hypF p.1.x = topF p.1.x := (clF_less p.1.x p.1.x.base (by have := clF_top p.1.x p.1.x.base h1.1; omega)).2
          rw [hu.2.2.1, h1.2, h3]
      · have e : (q.map (fun p => p.1.x.around + p.1.s)).sum ≤ (q.map ((fun i : It => i.x.around + if i.fz then i.s else hypF i.x) ∘ stopI (overI q))).sum := by
          refine sum_le_by q fun p hp => ?_
          show _ ≤ p.1.x.around + (if (stopI (overI q) p).fz then p.1.s else hypF p.1.x)
          cases hg : (stopI (overI q) p).fz with
          | true => simp
          | false => have := hle p hp (old p hp hg); simp; omega
        omega
    · rw [same]
      · exact hroom
      · intro p hp hf _; have := hc p hp hf; omega
  · rintro ⟨i, hi, hf, hg, hb, hyb, hnt⟩
    obtain ⟨p, hp, rfl⟩ := List.mem_map.1 hi
    unfold botS
    rw [List.map_map]
    have same : (∀ p ∈ q, p.1.fz = false → (stopI (overI q) p).fz = true → p.1.s = botF p.1.x) → (q.map ((fun i : It => i.x.around + if i.fz then i.s else botF i.x) ∘ stopI (overI q))).sum = botS l := fun hh => by
      have e : (q.map ((fun i : It => i.x.around + if i.fz then i.s else botF i.x) ∘ stopI (overI q))).sum = (q.map (fun p => p.1.x.around + if p.1.fz then p.1.s else botF p.1.x)).sum := by
        refine sum_eq_by q fun p hp => ?_
        show p.1.x.around + (if (stopI (overI q) p).fz then p.1.s else botF p.1.x) = _
        cases hf : p.1.fz with
        | true => rw [flag, hf]; simp
        | false =>
          cases hg : (stopI (overI q) p).fz with
          | false => rfl
          | true => simp only [if_true]; rw [hh p hp hf hg]; rfl
      rw [e, hNx]; rfl
    have was : (∀ p ∈ q, p.1.fz = false → (stopI (overI q) p).fz = true → p.1.s = botF p.1.x ∨ p.1.x.base = 0) → botS l ≤ inner := fun hh => by
      have hold : p.1.fz = true := by
        cases hpf : p.1.fz with
        | true => rfl
        | false =>
          rcases hh p hp hpf hf with h1 | h1
          · exact absurd (show p.1.s ≤ botF p.1.x by omega) hnt
          · have : 0 < p.1.x.base := hb
            omega
      exact hbad ⟨p.1, (hfz p hp hold).1, hold, hg, hb, hyb, hnt⟩
    rcases hcase with hc | ⟨hc0, hc⟩
    · rcases Int.lt_or_le 0 (overI q) with ho | ho
      · have ht : ∀ p ∈ q, p.1.fz = false → (stopI (overI q) p).fz = true → p.1.s = botF p.1.x := fun p hp hf hg => by
          rw [flag, hf, decide_eq_false (show ¬ overI q = 0 by omega), decide_eq_false (show ¬ overI q < 0 by omega), decide_eq_true ho] at hg
          have hd : 0 < p.1.s - p.2 := by simpa using hg
          have hu := hun p hp hf
          rw [hu.2.2.1]
          exact clF_more _ _ (by rw [← hu.2.2.1]; omega)
        rw [same ht]
        exact was fun p hp hf hg => .inl (ht p hp hf hg)
      · have e : (q.map ((fun i : It => i.x.around + if i.fz then i.s else botF i.x) ∘ stopI (overI q))).sum ≤ (q.map (fun p => p.1.x.around + p.1.s)).sum := by
          refine sum_le_by q fun p hp => ?_
          show p.1.x.around + (if (stopI (overI q) p).fz then p.1.s else botF p.1.x) ≤ _
          cases hg : (stopI (overI q) p).fz with
          | true => simp
          | false => have := (hsz p hp).1.1; simp; omega
        omega
    · rw [same fun p hp hf _ => by have := hc p hp hf; omega]
      exact was fun p hp hf _ => .inr (hc p hp hf).1
theorem SI.fin {inner : Int} {l : List It} (h : SI inner l) (h0 : openI l = 0) : inner ≤ allS l ∧ (inner < allS l → ∀ i ∈ l, 0 < i.x.shrink → 0 < i.x.base → hypF i.x ≤ i.x.base → i.s ≤ botF i.x) := by
  obtain ⟨e1, -, e3⟩ := allS_of h0
  refine ⟨by rw [← e1]; exact h.room, fun hlt i hi hg hb hy => ?_⟩
  by_cases c : i.s ≤ botF i.x
  · exact c
  · have := h.bad ⟨i, hi, open_zero h0 i hi, hg, hb, hy, c⟩
    rw [e3] at this; omega
theorem SI.start {inner : Int} {l : List Fx} (hok : ∀ x ∈ l, FxOk x) (hlen : l.length ≤ 500) (hg : growsF inner l = false) : SI inner (l.map (startI false)) := by
  have hs : inner ≤ ((l.map (startI false)).map (fun i => i.x.around + if i.fz then i.s else hypF i.x)).sum := by
    unfold growsF at hg
    rw [decide_eq_false_iff_not] at hg
    rw [List.map_map]
    have : (l.map ((fun i : It => i.x.around + if i.fz then i.s else hypF i.x) ∘ startI false)).sum = (l.map (fun x => hypF x + x.around)).sum := by
      refine sum_eq_by l fun x hx => ?_
      show x.around + (if _ then hypF x else hypF x) = _
      rw [ite_self]; omega
    rw [this]; omega
  refine ⟨?_, by simpa using hlen, ?_, ?_, by unfold hypS; omega, ?_⟩
  · intro i hi; obtain ⟨x, hx, rfl⟩ := List.mem_map.1 hi; exact hok x hx
  · intro i hi; obtain ⟨x, hx, rfl⟩ := List.mem_map.1 hi; exact ⟨⟨clF_bot x _, clF_top x _⟩, hypF_hi (hok x hx)⟩
  · intro i hi hf
    obtain ⟨x, hx, rfl⟩ := List.mem_map.1 hi
    have hf : (decide (x.shrink = 0) || decide (x.base < hypF x)) = false := hf
    rw [Bool.or_eq_false_iff, decide_eq_false_iff_not, decide_eq_false_iff_not] at hf
    have := (hok x hx).s0
    show 0 < x.shrink ∧ hypF x ≤ x.base
    omega
  · rintro ⟨i, hi, hf, hgr, hb, hy, hnt⟩
    obtain ⟨x, hx, rfl⟩ := List.mem_map.1 hi
    have hf : (decide (x.shrink = 0) || decide (x.base < hypF x)) = true := hf
    have hgr : 0 < x.shrink := hgr
    have hy : hypF x ≤ x.base := hy
    rw [Bool.or_eq_true, decide_eq_true_eq, decide_eq_true_eq] at hf
    omega
/-- Shrinking items come to the room, or each one with a factor is at its least. -/
theorem shrink_shares {inner : Int} {l : List Fx} (hok : ∀ x ∈ l, FxOk x) (hlen : l.length ≤ 500) (hr : InRoom inner) (hg : growsF inner l = false) :
    ∃ r : List It, r.map It.x = l ∧ r.map It.s = sizesF inner l ∧ (∀ i ∈ r, Fits1 i) ∧ inner ≤ allS r ∧ (inner < allS r → ∀ i ∈ r, 0 < i.x.shrink → 0 < i.x.base → hypF i.x ≤ i.x.base → i.s ≤ botF i.x) := by
  have h := run_keep (g := false) (inner := inner) (fun l h h0 => SI.step h hr h0) l.length (l.map (startI false)) (by have := open_le (l.map (startI false)); simpa using this) (SI.start hok hlen hg)
  refine ⟨_, ?_, by unfold sizesF; rw [hg], fun i hi => (h.1.sz i hi).1, h.1.fin h.2⟩
  rw [runI_x, List.map_map]
  exact List.map_id l
end Go.Proofs.Ytodnplllkpgfaaa
