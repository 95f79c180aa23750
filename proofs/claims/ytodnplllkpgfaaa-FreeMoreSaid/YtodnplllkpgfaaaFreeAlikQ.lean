import Derived.Test.YtodnplllkpgfaaaZQ
/- Free space among items that are alike: all rounds. No program is named here. -/
namespace Go.Proofs.Ytodnplllkpgfaaa
open Go.RowKit
set_option linter.unusedVariables false
set_option linter.unusedSimpArgs false

theorem share_alike {x : Fx} {g : Bool} {inner : Int} {l : List It} (ha : Alike x l) (F : ShareFacts (leftI g inner l) (wtsI g l)) (hleft : leftI g inner l = freeI inner l) (hW : 0 < (wtsI g l).sum) (h0 : openI l ≠ 0) :
    (∀ z ∈ shareZ (leftI g inner l) (wtsI g l), ∀ y ∈ shareZ (leftI g inner l) (wtsI g l), z ≤ y + 1) ∧
    (Top x inner l → ∀ z ∈ shareZ (leftI g inner l) (wtsI g l), topF x - x.base ≤ z) ∧ (Bot x inner l → ∀ z ∈ shareZ (leftI g inner l) (wtsI g l), z ≤ botF x - x.base) := by
  have e := alike_wts (g := g) ha
  have hs : (wtsI g l).sum = (openI l : Int) * wtF g x := by rw [e, sum_replicate]
  have hg : ∀ k (hk : k < (wtsI g l).length), (wtsI g l)[k] = wtF g x := fun k hk => by simp [e]
  have hw : 0 < wtF g x := by
    rcases Int.lt_or_le 0 (wtF g x) with h | h
    · exact h
    · have := Int.mul_nonpos_of_nonneg_of_nonpos (show (0 : Int) ≤ (openI l : Int) by omega) h
      omega
  refine ⟨fun z hz y hy => ?_, fun t z hz => ?_, fun t z hz => ?_⟩
  · obtain ⟨k, hk, rfl⟩ := share_mem F hz
    obtain ⟨i, hi, rfl⟩ := share_mem F hy
    have := F.near k i hk hi (by rw [hg k hk, hg i hi])
    omega
  · obtain ⟨k, hk, rfl⟩ := share_mem F hz
    refine share_ge F hk (by omega) ?_
    rw [hg k hk, hs, hleft]
    exact gap_part _ _ _ _ (by omega) hw (t.room h0)
  · obtain ⟨k, hk, rfl⟩ := share_mem F hz
    refine share_le F hk (by omega) ?_
    rw [hg k hk, hs, hleft]
    exact gap_part' _ _ _ _ (by omega) hw (t.room h0)
theorem roundI_alike {x : Fx} {g : Bool} {inner : Int} {l : List It} (ha : Alike x l) : Alike x (roundI g inner l) := fun i hi => by
  have e := roundI_x g inner l
  have h1 : i.x ∈ (roundI g inner l).map It.x := List.mem_map.2 ⟨i, hi, rfl⟩
  rw [e] at h1
  obtain ⟨j, hj, e2⟩ := List.mem_map.1 h1
  rw [← e2]; exact ha j hj
theorem grow_alike {x : Fx} {inner : Int} {l : List It} (hr : InRoom inner) (h : GI inner l ∧ Alike x l ∧ AI x inner l) (h0 : openI l ≠ 0) : GI inner (roundI true inner l) ∧ Alike x (roundI true inner l) ∧ AI x inner (roundI true inner l) := by
  obtain ⟨hg, ha, hi⟩ := h
  obtain ⟨hrf, F, hleft, hW⟩ := rf_grow hg hr h0
  obtain ⟨h1, h2, h3⟩ := share_alike ha F hleft hW h0
  refine ⟨hg.step hr h0, roundI_alike ha, ?_⟩
  exact alike_step ha hrf h1 (by rw [F.length, wtsI_len]) h2 h3 hi h0
theorem shrink_alike {x : Fx} {inner : Int} {l : List It} (hr : InRoom inner) (h : SI inner l ∧ Alike x l ∧ AI x inner l) (h0 : openI l ≠ 0) : SI inner (roundI false inner l) ∧ Alike x (roundI false inner l) ∧ AI x inner (roundI false inner l) := by
  obtain ⟨hg, ha, hi⟩ := h
  have F := hg.facts hr
  have hT := hg.take
  have hfree : freeI inner l ≤ 0 := by have := hg.room; unfold freeI; omega
  have hleft : leftI false inner l = freeI inner l := by unfold leftI; rw [if_neg (by simp)]; omega
  have hpl : (shareZ (leftI false inner l) (wtsI false l)).length = openI l := by rw [F.length, wtsI_len]
  refine ⟨hg.step hr h0, roundI_alike ha, ?_⟩
  by_cases hW : 0 < (wtsI false l).sum
  · obtain ⟨h1, h2, h3⟩ := share_alike ha F hleft hW h0
    refine alike_step ha ?_ h1 hpl h2 h3 hi h0
    rw [put_wants l _ hpl, share_sum F, if_pos hW, hleft]
    unfold freeI; omega
  · -- what is left has no size
    have hz0 : ∀ z ∈ shareZ (leftI false inner l) (wtsI false l), z = 0 := fun z hz => by
      obtain ⟨k, hk, rfl⟩ := share_mem F hz
      exact share_part0 _ _ _ (by omega)
    have hb0 : ∀ i ∈ l, i.fz = false → i.x.base = 0 := fun i hi hf => by
      have hz := sum_zero_all (wtsI false l) (fun w hw => by
        obtain ⟨i, hi, rfl⟩ := List.mem_map.1 hw
        exact (wt_shrink (hg.ok i (List.mem_filter.1 hi).1)).1) (by omega) (wtF false i.x) (List.mem_map.2 ⟨i, List.mem_filter.2 ⟨hi, by simp [hf]⟩, rfl⟩)
      have hz : i.x.base * i.x.shrink = 0 := hz
      rcases Int.mul_eq_zero.1 hz with h1 | h1
      · exact h1
      · have := (hg.un i hi hf).1; omega
    have hex : ∃ i ∈ l, i.fz = false := by
      have : l.filter (fun i => !i.fz) ≠ [] := fun e => h0 (by unfold openI; rw [e]; rfl)
      obtain ⟨i, hi⟩ := List.exists_mem_of_ne_nil _ this
      exact ⟨i, (List.mem_filter.1 hi).1, by simpa using (List.mem_filter.1 hi).2⟩
    obtain ⟨i0, hi0, hf0⟩ := hex
    have bx : x.base = 0 := by have := hb0 i0 hi0 hf0; rwa [ha i0 hi0] at this
    have hy : hypF x ≤ 0 := by have := (hg.un i0 hi0 hf0).2; rw [ha i0 hi0] at this; omega
    have hbn := botF_nn x
    have hyb := hypF_bot x
    unfold roundI
    generalize shareZ (leftI false inner l) (wtsI false l) = ps at *
    have hs : ∀ p ∈ putI l ps, (p.1.fz = true ∧ p.1 ∈ l ∧ p.2 = p.1.s) ∨ (p.1.fz = false ∧ p.2 = 0 ∧ p.1.s = 0) := fun p hp => by
      rcases putI_cases l ps p hp with h | ⟨hf, hcl, i, hi, hif, e⟩
      · exact .inl h
      · obtain ⟨z, hz, e2⟩ := putI_part l ps p hp hf
        have hz' : z = 0 := by rcases hz with hz | hz; (· exact hz0 z hz); (· exact hz)
        have ex : p.1.x = x := by rw [← e]; exact ha i hi
        have e3 : p.2 = 0 := by rw [e2, ex, bx, hz']; rfl
        refine .inr ⟨hf, e3, ?_⟩
        rw [hcl, ex, e3, ← bx]
        show hypF x = _
        omega
    have hov : overI (putI l ps) = 0 := by
      unfold overI
      have e : ((putI l ps).map (fun p => p.1.s - p.2)).sum = ((putI l ps).map (fun _ => (0 : Int))).sum := sum_eq_by _ fun p hp => by
        rcases hs p hp with ⟨_, _, h⟩ | ⟨_, h1, h2⟩ <;> omega
      rw [e]
      clear e hs
      induction putI l ps with
      | nil => rfl
      | cons a r ih => simp only [List.map_cons, List.sum_cons]; omega
    have hv : ∀ p ∈ putI l ps, p.1.s = 0 ∨ (p.1.fz = true ∧ p.1 ∈ l) := fun p hp => by
      rcases hs p hp with ⟨a, b, _⟩ | ⟨_, _, c⟩
      · exact .inr ⟨a, b⟩
      · exact .inl c
    have hfrz : ∀ i ∈ l, i.fz = true → i.s = 0 := fun i hi' hf => by
      cases hi with
      | fresh hfr => rw [hfr i hi'] at hf; cases hf
      | done hd => exact absurd hd h0
      | top ht =>
        have hrm := ht.room h0
        have htop : topF x = 0 := by
          have h1 : 0 ≤ topF x := by unfold topF; omega
          rcases Int.lt_or_le 0 (topF x) with h2 | h2
          · have : 0 < (topF x - x.base) * (openI l : Int) := Int.mul_pos (by omega) (by omega)
            omega
          · omega
        rw [ht.at_ i hi' hf, htop]
      | bot hb => rw [hb.at_ i hi' hf]; omega
    refine .done ?_ 0 fun i hi' => ?_
    · unfold openI
      rw [List.length_eq_zero_iff, List.filter_eq_nil_iff]
      intro i hi'
      obtain ⟨p, hp, rfl⟩ := List.mem_map.1 hi'
      simp [stopI, hov]
    · obtain ⟨p, hp, rfl⟩ := List.mem_map.1 hi'
      have : p.1.s = 0 := by
        rcases hv p hp with h | ⟨h1, h2⟩
        · exact h
        · exact hfrz _ h2 h1
      show 0 ≤ p.1.s ∧ p.1.s ≤ 0 + 1
      omega
/-- Items that are alike are so behind it, but for a unit. -/
theorem alike_sizes {x : Fx} (hx : FxOk x) (n : Nat) (hn : n ≤ 500) {inner : Int} (hr : InRoom inner) : ∃ v : Int, ∀ s ∈ sizesF inner (List.replicate n x), v ≤ s ∧ s ≤ v + 1 := by
  have hok : ∀ y ∈ List.replicate n x, FxOk y := fun y hy => by rw [List.eq_of_mem_replicate hy]; exact hx
  have hal : ∀ g, Alike x ((List.replicate n x).map (startI g)) := fun g i hi => by
    obtain ⟨y, hy, rfl⟩ := List.mem_map.1 hi
    rw [List.eq_of_mem_replicate hy]; rfl
  have hai : ∀ g, AI x inner ((List.replicate n x).map (startI g)) := fun g => by
    cases hf : (startI g x).fz with
    | false =>
      refine .fresh fun i hi => ?_
      obtain ⟨y, hy, rfl⟩ := List.mem_map.1 hi
      rw [List.eq_of_mem_replicate hy]; exact hf
    | true =>
      refine .done ?_ (hypF x) fun i hi => ?_
      · unfold openI
        rw [List.length_eq_zero_iff, List.filter_eq_nil_iff]
        intro i hi
        obtain ⟨y, hy, rfl⟩ := List.mem_map.1 hi
        rw [List.eq_of_mem_replicate hy, hf]; simp
      · obtain ⟨y, hy, rfl⟩ := List.mem_map.1 hi
        rw [List.eq_of_mem_replicate hy]
        show hypF x ≤ hypF x ∧ hypF x ≤ hypF x + 1
        omega
  have key : ∃ r : List It, r.map It.s = sizesF inner (List.replicate n x) ∧ openI r = 0 ∧ AI x inner r := by
    cases hg : growsF inner (List.replicate n x) with
    | true =>
      have h := run_keep (g := true) (inner := inner) (I := fun l => GI inner l ∧ Alike x l ∧ AI x inner l) (fun l h h0 => grow_alike hr h h0) (List.replicate n x).length _ (by have := open_le ((List.replicate n x).map (startI true)); simpa using this) ⟨GI.start hok (by simpa using hn) hg, hal true, hai true⟩
      exact ⟨_, by unfold sizesF; rw [hg], h.2, h.1.2.2⟩
    | false =>
      have h := run_keep (g := false) (inner := inner) (I := fun l => SI inner l ∧ Alike x l ∧ AI x inner l) (fun l h h0 => shrink_alike hr h h0) (List.replicate n x).length _ (by have := open_le ((List.replicate n x).map (startI false)); simpa using this) ⟨SI.start hok (by simpa using hn) hg, hal false, hai false⟩
      exact ⟨_, by unfold sizesF; rw [hg], h.2, h.1.2.2⟩
  obtain ⟨r, hs, hop, hai⟩ := key
  rw [← hs]
  have hz := open_zero hop
  cases hai with
  | fresh hfr =>
    refine ⟨0, fun s hs => ?_⟩
    obtain ⟨i, hi, rfl⟩ := List.mem_map.1 hs
    have := hz i hi
    rw [hfr i hi] at this
    cases this
  | done hd v hv => exact ⟨v, fun s hs => by obtain ⟨i, hi, rfl⟩ := List.mem_map.1 hs; exact hv i hi⟩
  | top ht => exact ⟨topF x, fun s hs => by obtain ⟨i, hi, rfl⟩ := List.mem_map.1 hs; rw [ht.at_ i hi (hz i hi)]; omega⟩
  | bot hb => exact ⟨botF x, fun s hs => by obtain ⟨i, hi, rfl⟩ := List.mem_map.1 hs; rw [hb.at_ i hi (hz i hi)]; omega⟩
/-- Items without factors are as great as they were. -/
theorem bare_sizes {inner : Int} {l : List Fx} (h : ∀ x ∈ l, x.grow = 0 ∧ x.shrink = 0) : sizesF inner l = l.map hypF := by
  have hf : ∀ g, ∀ i ∈ l.map (startI g), i.fz = true := fun g i hi => by
    obtain ⟨x, hx, rfl⟩ := List.mem_map.1 hi
    have := h x hx
    unfold startI
    cases g <;> simp [this.1, this.2]
  have ho : ∀ g, openI (l.map (startI g)) = 0 := fun g => by
    unfold openI
    rw [List.length_eq_zero_iff, List.filter_eq_nil_iff]
    intro i hi; rw [hf g i hi]; simp
  have hrun : ∀ g k, runI g inner k (l.map (startI g)) = l.map (startI g) := fun g k => by
    cases k with
    | zero => rfl
    | succ k => unfold runI; rw [if_pos (ho g)]
  unfold sizesF
  rw [hrun, List.map_map]
  rfl
end Go.Proofs.Ytodnplllkpgfaaa
