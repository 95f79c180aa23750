import Derived.Test.YtodnplllkpgfaaaFreeOneQ
/- Free space among items without bounds: exact but for a unit, and no less in more room. No program is named here. -/
namespace Go.Proofs.Ytodnplllkpgfaaa
open Go.RowKit
set_option linter.unusedVariables false
set_option linter.unusedSimpArgs false

theorem share_mono {a b : Int} {ws : List Int} (F : ShareFacts a ws) (G : ShareFacts b ws) (h : a ≤ b) (k : Nat) (hk : k < ws.length) : shareAt a ws k - 1 ≤ shareAt b ws k := by
  by_cases hW : 1 ≤ ws.sum
  · rw [F.part k hk hW, G.part k hk hW]
    have h1 := part_near (a * (ws.take k).sum) (a * ws[k]) ws.sum (by omega)
    have h2 := part_near (b * (ws.take k).sum) (b * ws[k]) ws.sum (by omega)
    have h3 : a * ws[k] ≤ b * ws[k] := Int.mul_le_mul_of_nonneg_right h (all_get ws F.all k hk).1
    have h4 : a * ws[k] / ws.sum ≤ b * ws[k] / ws.sum := Int.ediv_le_ediv (by omega) h3
    omega
  · rw [share_part0 _ _ _ (by omega), share_part0 _ _ _ (by omega)]; omega
theorem share_exact {n : Int} {ws : List Int} (F : ShareFacts n ws) (k : Nat) (hk : k < ws.length) (hW : 1 ≤ ws.sum) : n * ws[k] - ws.sum ≤ shareAt n ws k * ws.sum ∧ shareAt n ws k * ws.sum ≤ n * ws[k] + ws.sum := by
  rw [F.part k hk hW]
  have h1 := part_near (n * (ws.take k).sum) (n * ws[k]) ws.sum (by omega)
  have h2 := Int.mul_ediv_add_emod (n * ws[k]) ws.sum
  have h3 := Int.emod_nonneg (n * ws[k]) (show ws.sum ≠ 0 by omega)
  have h4 := Int.emod_lt_of_pos (n * ws[k]) (show 0 < ws.sum by omega)
  generalize (n * (ws.take k).sum + n * ws[k]) / ws.sum - n * (ws.take k).sum / ws.sum = d at *
  generalize n * ws[k] / ws.sum = f at *
  have h5 : f * ws.sum ≤ d * ws.sum := Int.mul_le_mul_of_nonneg_right h1.1 (by omega)
  have h6 : d * ws.sum ≤ (f + 1) * ws.sum := Int.mul_le_mul_of_nonneg_right h1.2 (by omega)
  rw [Int.add_mul, Int.one_mul] at h6
  rw [Int.mul_comm] at h2
  omega
theorem zip_sum : ∀ (l : List Fx) (ps : List Int), ps.length = l.length → (List.zipWith (fun x z => x.base + z) l ps).sum = (l.map Fx.base).sum + ps.sum
  | [], ps, h => by have := List.eq_nil_of_length_eq_zero h; subst this; rfl
  | x :: r, [], h => by simp at h
  | x :: r, z :: zs, h => by
    have := zip_sum r zs (by simpa using h)
    rw [List.zipWith_cons_cons, List.sum_cons, this, List.map_cons, List.sum_cons, List.sum_cons]; omega
/-- All of a row, with what is around: as parts. -/
theorem sum_parts : ∀ (l : List Fx), (l.map (fun x => x.around + x.base)).sum = (l.map Fx.around).sum + (l.map Fx.base).sum
  | l => sum_add_by Fx.around Fx.base l
theorem grow_parts {inner : Int} {l : List Fx} (hg : growsF inner l = true) (hx : ∀ x ∈ l, FxOk x ∧ Free1 x ∧ 0 < x.grow) (hlen : l.length ≤ 500) (hr : InRoom inner) :
    (∀ (k : Nat) (h : k < l.length) (h' : k < (sizesF inner l).length), (inner - (l.map (fun x => x.around + x.base)).sum) * l[k].grow - (l.map Fx.grow).sum ≤ ((sizesF inner l)[k] - l[k].base) * (l.map Fx.grow).sum ∧
      ((sizesF inner l)[k] - l[k].base) * (l.map Fx.grow).sum ≤ (inner - (l.map (fun x => x.around + x.base)).sum) * l[k].grow + (l.map Fx.grow).sum) ∧
    (l ≠ [] → (sizesF inner l).sum + (l.map Fx.around).sum = inner) := by
  obtain ⟨F, hpos, e⟩ := grow_one hg hx hlen hr
  have hW : l ≠ [] → 1 ≤ (l.map Fx.grow).sum := fun hne => by
    have h2 := sum_lo_by (f := Fx.grow) (c := -1) l (fun x h => by have := (hx x h).2.2; omega)
    have : 0 < l.length := List.length_pos_iff.2 hne
    omega
  refine ⟨fun k h h' => ?_, fun hne => ?_⟩
  · have hsz : (sizesF inner l)[k] = l[k].base + shareAt (inner - (l.map (fun x => x.around + x.base)).sum) (l.map Fx.grow) k := by
      have h2 : k < (shareZ (inner - (l.map (fun x => x.around + x.base)).sum) (l.map Fx.grow)).length := by rw [F.length, List.length_map]; exact h
      rw [← F.get k h2]
      simp [e]
    rw [hsz, show l[k].base + shareAt (inner - (l.map (fun x => x.around + x.base)).sum) (l.map Fx.grow) k - l[k].base = shareAt (inner - (l.map (fun x => x.around + x.base)).sum) (l.map Fx.grow) k by omega]
    have := share_exact F k (by simpa using h) (hW (by intro e; rw [e] at h; simp at h))
    simpa using this
  · rw [e, zip_sum l _ (by rw [F.length, List.length_map]), share_sum F, if_pos (by have := hW hne; omega)]
    have := sum_parts l
    omega
theorem shrink_sum {inner : Int} {l : List Fx} (hok : ∀ x ∈ l, FxOk x) (hlen : l.length ≤ 500) (hr : InRoom inner) (hg : growsF inner l = false) : inner ≤ (sizesF inner l).sum + (l.map Fx.around).sum := by
  obtain ⟨r, e1, e2, -, h, -⟩ := shrink_shares hok hlen hr hg
  have : allS r = (r.map It.s).sum + (r.map (fun i => i.x.around)).sum := by
    unfold allS
    rw [← sum_add_by]
    exact sum_eq_by r fun i _ => by omega
  have e3 : r.map (fun i => i.x.around) = l.map Fx.around := by rw [← e1, List.map_map]; rfl
  rw [e2, e3] at this
  omega
theorem share_nought (ws : List Int) (k : Nat) : shareAt 0 ws k = 0 := by
  unfold shareAt ratZ
  split <;> split <;> simp
/-- In just the room that they need they stay as they are. -/
theorem fit_sizes {l : List Fx} (hx : ∀ x ∈ l, FxOk x ∧ Free1 x ∧ 0 < x.shrink) (hlen : l.length ≤ 500) (hr : InRoom (l.map (fun x => x.around + x.base)).sum) :
    sizesF (l.map (fun x => x.around + x.base)).sum l = l.map Fx.base := by
  have hg : growsF (l.map (fun x => x.around + x.base)).sum l = false := by
    unfold growsF
    rw [decide_eq_false_iff_not]
    have : (l.map (fun x => hypF x + x.around)).sum = (l.map (fun x => x.around + x.base)).sum := sum_eq_by l fun x h => by rw [(hx x h).2.1.hyp]; omega
    omega
  obtain ⟨F, -, e⟩ := shrink_one hg hx hlen hr (fun k h => by rw [Int.sub_self, share_nought]; have := (hx _ (List.getElem_mem h)).2.1.b0; omega)
  rw [e]
  rw [Int.sub_self] at F ⊢
  apply List.ext_getElem
  · rw [List.length_zipWith, F.length, List.length_map, List.length_map]; omega
  · intro k h1 h2
    rw [List.getElem_zipWith, List.getElem_map, F.get, share_nought]; omega
/-- In more room none is smaller, but for a unit. -/
theorem more_sizes {l : List Fx} (hx : ∀ x ∈ l, FxOk x ∧ Free1 x ∧ x.grow = 1 ∧ x.shrink = 1 ∧ x.around = 0) (hlen : l.length ≤ 500) {a b : Int} (ha : InRoom a) (hb : InRoom b) (h0 : 0 ≤ a) (hab : a ≤ b) :
    ∀ (k : Nat) (h : k < (sizesF a l).length) (h' : k < (sizesF b l).length), (sizesF a l)[k] - 1 ≤ (sizesF b l)[k] ∧ 0 ≤ (sizesF a l)[k] := by
  intro k h h'
  have hk : k < l.length := by rw [sizesF_len] at h; exact h
  have hS : (l.map (fun x => x.around + x.base)).sum = (l.map Fx.base).sum := sum_eq_by l fun x h => by have := (hx x h).2.2.2.2; omega
  have hwb : l.map (wtF false) = l.map Fx.base := List.map_congr_left fun x h => by
    show x.base * x.shrink = _
    rw [(hx x h).2.2.2.1, Int.mul_one]
  have hB0 : 0 ≤ l[k].base := (hx _ (List.getElem_mem hk)).2.1.b0
  have gOf : ∀ c, growsF c l = true → InRoom c → ∃ F : ShareFacts (c - (l.map Fx.base).sum) (l.map Fx.grow), (l.map Fx.base).sum < c ∧ ∀ h : k < (sizesF c l).length, (sizesF c l)[k] = l[k].base + shareAt (c - (l.map Fx.base).sum) (l.map Fx.grow) k := fun c hg hc => by
    obtain ⟨F, hp, e⟩ := grow_one hg (fun x h => ⟨(hx x h).1, (hx x h).2.1, by have := (hx x h).2.2.1; omega⟩) hlen hc
    rw [hS] at F hp e
    refine ⟨F, by omega, fun h => ?_⟩
    have h2 : k < (shareZ (c - (l.map Fx.base).sum) (l.map Fx.grow)).length := by rw [F.length, List.length_map]; exact hk
    rw [← F.get k h2]
    simp [e]
  have sOf : ∀ c, growsF c l = false → InRoom c → 0 ≤ c → ∃ F : ShareFacts (c - (l.map Fx.base).sum) (l.map Fx.base), c ≤ (l.map Fx.base).sum ∧ 0 ≤ l[k].base + shareAt (c - (l.map Fx.base).sum) (l.map Fx.base) k ∧ ∀ h : k < (sizesF c l).length, (sizesF c l)[k] = l[k].base + shareAt (c - (l.map Fx.base).sum) (l.map Fx.base) k := fun c hg hc hc0 => by
    have hx' : ∀ x ∈ l, FxOk x ∧ Free1 x ∧ 0 < x.shrink := fun x h => ⟨(hx x h).1, (hx x h).2.1, by have := (hx x h).2.2.2.1; omega⟩
    have hf : ∀ x ∈ l, (startI false x).fz = false := fun x h => (hx' x h).2.1.open (hx' x h).2.2
    have F := (SI.start (fun x h => (hx x h).1) hlen hg).facts hc
    have hp : c - (l.map (fun x => x.around + x.base)).sum ≤ 0 := by
      unfold growsF at hg
      rw [decide_eq_false_iff_not] at hg
      have : (l.map (fun x => hypF x + x.around)).sum = (l.map (fun x => x.around + x.base)).sum := sum_eq_by l fun x h => by rw [(hx x h).2.1.hyp]; omega
      omega
    have hleft : leftI false c (l.map (startI false)) = c - (l.map (fun x => x.around + x.base)).sum := by unfold leftI; rw [if_neg (by simp), free_all l hf]; omega
    rw [wts_all l hf, hleft, hwb, hS] at F
    rw [hS] at hp
    have hlo : ∀ (j : Nat) (h : j < l.length), 0 ≤ l[j].base + shareAt (c - (l.map Fx.base).sum) (l.map Fx.base) j := fun j hj => by
      by_cases hW : 1 ≤ (l.map Fx.base).sum
      · have hj0 : 0 ≤ l[j].base := (hx _ (List.getElem_mem hj)).2.1.b0
        have := share_ge F (k := j) (by simpa using hj) hW (c := -l[j].base) (by
          rw [List.getElem_map]
          have : -(l.map Fx.base).sum * l[j].base ≤ (c - (l.map Fx.base).sum) * l[j].base := Int.mul_le_mul_of_nonneg_right (by omega) hj0
          rw [Int.neg_mul] at this
          rw [Int.neg_mul, Int.mul_comm]; exact this)
        omega
      · rw [share_part0 _ _ _ (by omega)]
        have := (hx _ (List.getElem_mem hj)).2.1.b0
        omega
    obtain ⟨-, -, e⟩ := shrink_one hg hx' hlen hc (fun j h => by rw [hS, hwb]; exact hlo j h)
    rw [hS, hwb] at e
    refine ⟨F, by omega, hlo k hk, fun h => ?_⟩
    have h2 : k < (shareZ (c - (l.map Fx.base).sum) (l.map Fx.base)).length := by rw [F.length, List.length_map]; exact hk
    rw [← F.get k h2]
    simp [e]
  cases hga : growsF a l with
  | true =>
    obtain ⟨Fa, pa, ea⟩ := gOf a hga ha
    have hgb : growsF b l = true := by
      unfold growsF at *
      rw [decide_eq_true_eq] at *
      omega
    obtain ⟨Fb, pb, eb⟩ := gOf b hgb hb
    rw [ea h, eb h']
    have h1 := share_mono Fa Fb (by omega) k (by simpa using hk)
    have h2 := Fa.pos k (by simpa using hk) (by omega)
    omega
  | false =>
    obtain ⟨Fa, pa, la, ea⟩ := sOf a hga ha h0
    have na := Fa.neg k (by simpa using hk) (by omega)
    rw [ea h]
    cases hgb : growsF b l with
    | true =>
      obtain ⟨Fb, pb, eb⟩ := gOf b hgb hb
      have h2 := Fb.pos k (by simpa using hk) (by omega)
      rw [eb h']
      omega
    | false =>
      obtain ⟨Fb, pb, lb, eb⟩ := sOf b hgb hb (by omega)
      have h1 := share_mono Fa Fb (by omega) k (by simpa using hk)
      rw [eb h']
      omega
end Go.Proofs.Ytodnplllkpgfaaa
