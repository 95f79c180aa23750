import Derived.Test.YteaenomfighaoaaFreeNum
/- Free space among items: what every round keeps. No program is named here. -/
namespace Go.Proofs.Yteaenomfighaoaa
open Go.RowKit
set_option linter.unusedVariables false
set_option linter.unusedSimpArgs false

/-- What depends on an item as it is, and on its size only where it is frozen. -/
def Plain (F : It → Int) : Prop := ∀ x s s', F ⟨x, s, false⟩ = F ⟨x, s', false⟩
theorem putI_plain {F : It → Int} (hF : Plain F) (l : List It) : ∀ ps, (putI l ps).map (fun p => F p.1) = l.map F := by
  induction l with
  | nil => intro ps; rfl
  | cons i r ih =>
    intro ps
    unfold putI
    by_cases hf : i.fz = true
    · rw [if_pos hf]; simp only [List.map_cons]; rw [ih]
    · rw [if_neg hf]; simp only [List.map_cons]; rw [ih]
      obtain ⟨x, s, f⟩ := i
      cases f
      · rw [hF x _ s]
      · simp at hf
theorem sum_le_by {α : Type} {f g : α → Int} : ∀ (l : List α), (∀ x ∈ l, f x ≤ g x) → (l.map f).sum ≤ (l.map g).sum
  | [], _ => Int.le_refl _
  | x :: r, h => by
    have := sum_le_by r (fun y hy => h y (by simp [hy]))
    have := h x (by simp)
    simp only [List.map_cons, List.sum_cons]; omega
theorem sum_eq_by {α : Type} {f g : α → Int} (l : List α) (h : ∀ x ∈ l, f x = g x) : (l.map f).sum = (l.map g).sum := by
  rw [List.map_congr_left h]
theorem sum_add_by {α : Type} (f g : α → Int) : ∀ (l : List α), (l.map (fun x => f x + g x)).sum = (l.map f).sum + (l.map g).sum
  | [] => rfl
  | x :: r => by
    have := sum_add_by f g r
    simp only [List.map_cons, List.sum_cons]; omega
/-- All that was wanted: what is taken, and the parts. -/
theorem put_wants (l : List It) : ∀ ps, ps.length = openI l → ((putI l ps).map (fun p => p.1.x.around + p.2)).sum = (l.map tkI).sum + ps.sum := by
  induction l with
  | nil => intro ps h; have := List.eq_nil_of_length_eq_zero h; subst this; rfl
  | cons i r ih =>
    intro ps h
    unfold putI
    by_cases hf : i.fz = true
    · rw [if_pos hf]
      have h' : ps.length = openI r := by rw [h]; simp [openI, hf]
      simp only [List.map_cons, List.sum_cons, ih ps h']
      unfold tkI
      rw [if_pos hf]
      omega
    · rw [if_neg hf]
      have h' : ps.length = openI r + 1 := by rw [h]; simp [openI, hf]
      cases ps with
      | nil => simp at h'
      | cons z zs =>
        simp only [List.map_cons, List.sum_cons, List.headD_cons, List.tail_cons]
        rw [ih zs (by simpa using h')]
        unfold tkI
        rw [if_neg hf]
        omega
theorem sizes_over (q : List (It × Int)) : (q.map (fun p => p.1.x.around + p.1.s)).sum = (q.map (fun p => p.1.x.around + p.2)).sum + overI q := by
  unfold overI
  rw [← sum_add_by]
  exact sum_eq_by q fun p _ => by omega
/-- A part that a round gives. -/
theorem putI_part (l : List It) : ∀ ps, ∀ p ∈ putI l ps, p.1.fz = false → ∃ z, (z ∈ ps ∨ z = 0) ∧ p.2 = p.1.x.base + z := by
  induction l with
  | nil => intro ps p hp; simp [putI] at hp
  | cons i r ih =>
    intro ps p hp hf
    unfold putI at hp
    by_cases hi : i.fz = true
    · rw [if_pos hi, List.mem_cons] at hp
      rcases hp with rfl | hp
      · simp only at hf; rw [hi] at hf; cases hf
      · exact ih _ _ hp hf
    · rw [if_neg hi, List.mem_cons] at hp
      rcases hp with rfl | hp
      · refine ⟨ps.headD 0, ?_, rfl⟩
        cases ps with
        | nil => exact .inr rfl
        | cons z zs => exact .inl (by simp)
      · obtain ⟨z, hz, e⟩ := ih _ _ hp hf
        refine ⟨z, ?_, e⟩
        rcases hz with hz | hz
        · exact .inl (List.mem_of_mem_tail hz)
        · exact .inr hz
theorem share_total (n : Int) (ws : List Int) : ∀ k, k ≤ ws.length → ((List.range k).map (shareAt n ws)).sum = ratZ n (ws.take k).sum ws.sum
  | 0, _ => by simp [ratZ_zero]
  | k + 1, h => by
    rw [List.range_succ, List.map_append, List.sum_append, share_total n ws k (by omega), share_run n ws k (by omega)]
    simp
theorem share_sum {n : Int} {ws : List Int} (F : ShareFacts n ws) : (shareZ n ws).sum = if 0 < ws.sum then n else 0 := by
  rw [shareZ_yes n ws F.shareOk', share_total n ws ws.length (Nat.le_refl _)]
  exact F.full
theorem share_mem {n : Int} {ws : List Int} (F : ShareFacts n ws) {z : Int} (hz : z ∈ shareZ n ws) : ∃ k, k < ws.length ∧ z = shareAt n ws k := by
  rw [shareZ_yes n ws F.shareOk'] at hz
  obtain ⟨k, hk, rfl⟩ := List.mem_map.1 hz
  exact ⟨k, by simpa using hk, rfl⟩
/-- What a round owes to Share: that it may be called. -/
structure RoundOk (g : Bool) (inner : Int) (l : List It) : Prop where
  sf : ShareFacts (leftI g inner l) (wtsI g l)
theorem wtsI_len (g : Bool) (l : List It) : (wtsI g l).length = openI l := by simp [wtsI, openI]
theorem parts_len {g : Bool} {inner : Int} {l : List It} (h : RoundOk g inner l) : (shareZ (leftI g inner l) (wtsI g l)).length = openI l := by rw [h.sf.length, wtsI_len]
theorem openI_cons (i : It) (r : List It) : openI (i :: r) = if i.fz = true then openI r else openI r + 1 := by
  unfold openI
  by_cases h : i.fz = true
  · rw [if_pos h]; simp [h]
  · rw [if_neg h]; simp [h]
/-- In each round some of the others are frozen. -/
theorem round_open {g : Bool} {inner : Int} {l : List It} (h0 : openI l ≠ 0) : openI (roundI g inner l) < openI l := by
  have keep : ∀ (ps : List Int) (o : Int), openI ((putI l ps).map (stopI o)) ≤ openI l ∧ ((∃ p ∈ putI l ps, p.1.fz = false ∧ (stopI o p).fz = true) → openI ((putI l ps).map (stopI o)) < openI l) := by
    clear h0
    induction l with
    | nil => intro ps o; exact ⟨Nat.le_refl _, fun ⟨p, hp, _⟩ => by simp [putI] at hp⟩
    | cons i r ih =>
      intro ps o
      unfold putI
      by_cases hi : i.fz = true
      · rw [if_pos hi]
        have e1 : openI (i :: r) = openI r := by simp [openI, hi]
        have e2 : (stopI o (i, i.s)).fz = true := by simp [stopI, hi]
        have e3 : openI (List.map (stopI o) ((i, i.s) :: putI r ps)) = openI ((putI r ps).map (stopI o)) := by simp [openI, e2]
        rw [e1, e3]
        refine ⟨(ih ps o).1, fun ⟨p, hp, h1, h2⟩ => (ih ps o).2 ?_⟩
        rw [List.mem_cons] at hp
        rcases hp with rfl | hp
        · simp only at h1; rw [hi] at h1; cases h1
        · exact ⟨p, hp, h1, h2⟩
      · rw [if_neg hi]
        have e1 : openI (i :: r) = openI r + 1 := by simp [openI, hi]
        have I := ih ps.tail o
        rw [e1]
        by_cases hs : (stopI o (⟨i.x, clF i.x (i.x.base + ps.headD 0), false⟩, i.x.base + ps.headD 0)).fz = true
        · have e3 : openI (List.map (stopI o) ((⟨i.x, clF i.x (i.x.base + ps.headD 0), false⟩, i.x.base + ps.headD 0) :: putI r ps.tail)) = openI ((putI r ps.tail).map (stopI o)) := by rw [List.map_cons, openI_cons, if_pos hs]
          rw [e3]
          exact ⟨by omega, fun _ => by omega⟩
        · have e3 : openI (List.map (stopI o) ((⟨i.x, clF i.x (i.x.base + ps.headD 0), false⟩, i.x.base + ps.headD 0) :: putI r ps.tail)) = openI ((putI r ps.tail).map (stopI o)) + 1 := by rw [List.map_cons, openI_cons, if_neg hs]
          rw [e3]
          refine ⟨by omega, fun ⟨p, hp, h1, h2⟩ => ?_⟩
          rw [List.mem_cons] at hp
          rcases hp with rfl | hp
          · exact absurd h2 hs
          · have := I.2 ⟨p, hp, h1, h2⟩; omega
  unfold roundI
  refine (keep _ _).2 ?_
  generalize shareZ (leftI g inner l) (wtsI g l) = ps
  have unf : ∀ p ∈ putI l ps, p.1.s - p.2 ≠ 0 → p.1.fz = false := fun p hp hne => by
    rcases putI_cases l ps p hp with ⟨a, b, c⟩ | ⟨a, _⟩
    · omega
    · exact a
  rcases Int.lt_trichotomy (overI (putI l ps)) 0 with h | h | h
  · obtain ⟨p, hp, hd⟩ := sum_neg_ex _ h
    exact ⟨p, hp, unf p hp (by omega), by simp only [stopI, decide_eq_true h, decide_eq_true hd, Bool.and_self, Bool.or_true]⟩
  · -- all the others
    have ex : ∃ p ∈ putI l ps, p.1.fz = false := by
      clear keep unf h
      induction l generalizing ps with
      | nil => exact absurd rfl h0
      | cons i r ih =>
        unfold putI
        by_cases hi : i.fz = true
        · rw [if_pos hi]
          obtain ⟨p, hp, hf⟩ := ih (by simpa [openI, hi] using h0) ps
          exact ⟨p, by simp [hp], hf⟩
        · rw [if_neg hi]; exact ⟨_, List.mem_cons_self, rfl⟩
    obtain ⟨p, hp, hf⟩ := ex
    exact ⟨p, hp, hf, by simp [stopI, h]⟩
  · obtain ⟨p, hp, hd⟩ := sum_pos_ex _ h
    exact ⟨p, hp, unf p hp (by omega), by simp only [stopI, decide_eq_true h, decide_eq_true hd, Bool.and_self, Bool.or_true, Bool.true_or]⟩
theorem open_zero {l : List It} (h : openI l = 0) : ∀ i ∈ l, i.fz = true := fun i hi => by
  cases hf : i.fz with
  | true => rfl
  | false =>
    have : i ∈ l.filter (fun i => !i.fz) := List.mem_filter.2 ⟨hi, by simp [hf]⟩
    rw [List.eq_nil_of_length_eq_zero h] at this
    cases this
/-- Whatever every round keeps stands at the end, and all is frozen then. -/
theorem run_keep {g : Bool} {inner : Int} {I : List It → Prop} (step : ∀ l, I l → openI l ≠ 0 → I (roundI g inner l)) : ∀ (k : Nat) (l : List It), openI l ≤ k → I l → I (runI g inner k l) ∧ openI (runI g inner k l) = 0
  | 0, l, hk, h => ⟨h, by show openI l = 0; omega⟩
  | k + 1, l, hk, h => by
    unfold runI
    by_cases h0 : openI l = 0
    · rw [if_pos h0]; exact ⟨h, h0⟩
    · rw [if_neg h0]
      have := round_open (g := g) (inner := inner) h0
      exact run_keep step k _ (by omega) (step l h h0)
/-- One that is not frozen takes part in the round. -/
theorem putI_has {j : It} (hf : j.fz = false) : ∀ (l : List It) (ps : List Int), j ∈ l → ∃ p ∈ putI l ps, p.1.x = j.x ∧ p.1.fz = false
  | a :: r, ps, hj => by
    unfold putI
    rw [List.mem_cons] at hj
    by_cases ha : a.fz = true
    · rw [if_pos ha]
      rcases hj with rfl | hj
      · rw [ha] at hf; cases hf
      · obtain ⟨p, hp, h⟩ := putI_has hf r ps hj
        exact ⟨p, by simp [hp], h⟩
    · rw [if_neg ha]
      rcases hj with rfl | hj
      · exact ⟨_, List.mem_cons_self, rfl, rfl⟩
      · obtain ⟨p, hp, h⟩ := putI_has hf r ps.tail hj
        exact ⟨p, by simp [hp], h⟩
theorem open_le (l : List It) : openI l ≤ l.length := List.length_filter_le _ _
end Go.Proofs.Yteaenomfighaoaa
