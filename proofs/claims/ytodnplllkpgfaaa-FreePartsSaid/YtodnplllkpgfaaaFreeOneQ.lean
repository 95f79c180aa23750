import Derived.Test.YtodnplllkpgfaaaFreeAlikQ
/- Free space among items without bounds: one round. No program is named here. -/
namespace Go.Proofs.Ytodnplllkpgfaaa
open Go.RowKit
set_option linter.unusedVariables false
set_option linter.unusedSimpArgs false

theorem putI_zip (g : Bool) : ∀ (l : List Fx) (ps : List Int), ps.length = l.length → (∀ x ∈ l, (startI g x).fz = false) →
    putI (l.map (startI g)) ps = List.zipWith (fun x z => ((⟨x, clF x (x.base + z), false⟩ : It), x.base + z)) l ps
  | [], ps, hl, _ => by cases ps with
    | nil => rfl
    | cons z zs => simp at hl
  | x :: r, ps, hl, hf => by
    cases ps with
    | nil => simp at hl
    | cons z zs =>
      rw [List.map_cons, List.zipWith_cons_cons]
      unfold putI
      rw [if_neg (by rw [hf x (by simp)]; simp)]
      simp only [List.headD_cons, List.tail_cons]
      rw [putI_zip g r zs (by simpa using hl) (fun y hy => hf y (by simp [hy]))]
      rfl
theorem open_all {g : Bool} : ∀ (l : List Fx), (∀ x ∈ l, (startI g x).fz = false) → openI (l.map (startI g)) = l.length
  | [], _ => rfl
  | x :: r, h => by
    rw [List.map_cons, openI_cons, if_neg (by rw [h x (by simp)]; simp), open_all r (fun y hy => h y (by simp [hy]))]
    rfl
theorem wts_all {g : Bool} : ∀ (l : List Fx), (∀ x ∈ l, (startI g x).fz = false) → wtsI g (l.map (startI g)) = l.map (wtF g)
  | [], _ => rfl
  | x :: r, h => by
    have := wts_all r (fun y hy => h y (by simp [hy]))
    unfold wtsI at this ⊢
    rw [List.map_cons, List.filter_cons_of_pos (by rw [h x (by simp)]; rfl), List.map_cons, this]
    rfl
theorem free_all {g : Bool} {inner : Int} (l : List Fx) (h : ∀ x ∈ l, (startI g x).fz = false) : freeI inner (l.map (startI g)) = inner - (l.map (fun x => x.around + x.base)).sum := by
  unfold freeI
  rw [List.map_map]
  congr 1
  refine sum_eq_by l fun x hx => ?_
  show x.around + (if (startI g x).fz then _ else x.base) = _
  rw [h x hx]; rfl
theorem over_none : ∀ (l : List Fx) (ps : List Int), (∀ z ∈ List.zipWith (fun x z => clF x (x.base + z) - (x.base + z)) l ps, z = 0) → overI (List.zipWith (fun x z => ((⟨x, clF x (x.base + z), false⟩ : It), x.base + z)) l ps) = 0
  | [], _, _ => rfl
  | _ :: _, [], _ => rfl
  | x :: r, z :: zs, h => by
    have h1 := over_none r zs (fun y hy => h y (by rw [List.zipWith_cons_cons]; simp [hy]))
    have h2 := h _ (by rw [List.zipWith_cons_cons]; exact List.mem_cons_self)
    unfold overI at h1 ⊢
    rw [List.zipWith_cons_cons, List.map_cons, List.sum_cons, h1]
    simp only at h2 ⊢
    omega
theorem zip_none : ∀ (l : List Fx) (ps : List Int), (∀ z ∈ List.zipWith (fun x z => clF x (x.base + z) - (x.base + z)) l ps, z = 0) → List.zipWith (fun x z => clF x (x.base + z)) l ps = List.zipWith (fun x z => x.base + z) l ps
  | [], _, _ => rfl
  | _ :: _, [], _ => rfl
  | x :: r, z :: zs, h => by
    have h1 := zip_none r zs (fun y hy => h y (by rw [List.zipWith_cons_cons]; simp [hy]))
    have h2 := h _ (by rw [List.zipWith_cons_cons]; exact List.mem_cons_self)
    rw [List.zipWith_cons_cons, List.zipWith_cons_cons, h1]
    congr 1
    omega
/-- Where none is clamped one round does. -/
theorem one_sizes {g : Bool} {inner : Int} {l : List Fx} (hg : growsF inner l = g) (hf : ∀ x ∈ l, (startI g x).fz = false)
    (F : ShareFacts (leftI g inner (l.map (startI g))) (l.map (wtF g)))
    (hno : ∀ z ∈ List.zipWith (fun x z => clF x (x.base + z) - (x.base + z)) l (shareZ (leftI g inner (l.map (startI g))) (l.map (wtF g))), z = 0) :
    sizesF inner l = List.zipWith (fun x z => x.base + z) l (shareZ (leftI g inner (l.map (startI g))) (l.map (wtF g))) := by
  have hps : (shareZ (leftI g inner (l.map (startI g))) (l.map (wtF g))).length = l.length := by rw [F.length, List.length_map]
  have hround : roundI g inner (l.map (startI g)) = List.zipWith (fun x z => (⟨x, clF x (x.base + z), true⟩ : It)) l (shareZ (leftI g inner (l.map (startI g))) (l.map (wtF g))) := by
    unfold roundI
    rw [wts_all l hf]
    generalize shareZ (leftI g inner (l.map (startI g))) (l.map (wtF g)) = ps at *
    rw [putI_zip g l ps hps hf]
    simp only
    rw [over_none l ps hno, List.map_zipWith]
    simp [stopI]
  unfold sizesF
  rw [hg]
  generalize shareZ (leftI g inner (l.map (startI g))) (l.map (wtF g)) = ps at *
  cases hl : l.length with
  | zero =>
    have := List.eq_nil_of_length_eq_zero hl
    subst this
    rfl
  | succ k =>
    unfold runI
    rw [if_neg (by rw [open_all l hf]; omega), hround]
    have hz : openI (List.zipWith (fun x z => (⟨x, clF x (x.base + z), true⟩ : It)) l ps) = 0 := by
      unfold openI
      rw [List.length_eq_zero_iff, List.filter_eq_nil_iff]
      intro i hi
      obtain ⟨j, hj, rfl⟩ := List.mem_iff_getElem.1 hi
      simp
    have hrun : runI g inner k (List.zipWith (fun x z => (⟨x, clF x (x.base + z), true⟩ : It)) l ps) = List.zipWith (fun x z => (⟨x, clF x (x.base + z), true⟩ : It)) l ps := by
      cases k with
      | zero => rfl
      | succ k => unfold runI; rw [if_pos hz]
    rw [hrun, List.map_zipWith]
    exact zip_none l ps hno
/-- An item without bounds. -/
structure Free1 (x : Fx) : Prop where
  mx : x.mx < 0
  mn : x.mn = 0
  b0 : 0 ≤ x.base
theorem Free1.cl {x : Fx} (h : Free1 x) {n : Int} (hn : 0 ≤ n) : clF x n = n := by
  have := h.mx; have := h.mn
  unfold clF; rw [if_neg (by omega)]; omega
theorem Free1.hyp {x : Fx} (h : Free1 x) : hypF x = x.base := h.cl h.b0
theorem Free1.open {x : Fx} (h : Free1 x) {g : Bool} (hf : 0 < facF g x) : (startI g x).fz = false := by
  unfold startI facF at *
  rw [h.hyp]
  cases g
  · simp at hf ⊢; omega
  · simp at hf ⊢; omega
theorem zip_mem {α β γ : Type} {f : α → β → γ} {l : List α} {ps : List β} {z : γ} (h : z ∈ List.zipWith f l ps) : ∃ (k : Nat) (h1 : k < l.length) (h2 : k < ps.length), z = f l[k] ps[k] := by
  obtain ⟨k, hk, rfl⟩ := List.mem_iff_getElem.1 h
  rw [List.length_zipWith] at hk
  exact ⟨k, by omega, by omega, by simp⟩
/-- Growing, each has its base and its part. -/
theorem grow_one {inner : Int} {l : List Fx} (hg : growsF inner l = true) (hx : ∀ x ∈ l, FxOk x ∧ Free1 x ∧ 0 < x.grow) (hlen : l.length ≤ 500) (hr : InRoom inner) :
    ShareFacts (inner - (l.map (fun x => x.around + x.base)).sum) (l.map Fx.grow) ∧ 0 < inner - (l.map (fun x => x.around + x.base)).sum ∧
    sizesF inner l = List.zipWith (fun x z => x.base + z) l (shareZ (inner - (l.map (fun x => x.around + x.base)).sum) (l.map Fx.grow)) := by
  have hf : ∀ x ∈ l, (startI true x).fz = false := fun x h => (hx x h).2.1.open (hx x h).2.2
  have G := GI.start (fun x h => (hx x h).1) hlen hg
  have F := G.facts hr
  have hpos : 0 < inner - (l.map (fun x => x.around + x.base)).sum := by
    unfold growsF at hg
    rw [decide_eq_true_eq] at hg
    have : (l.map (fun x => hypF x + x.around)).sum = (l.map (fun x => x.around + x.base)).sum := sum_eq_by l fun x h => by rw [(hx x h).2.1.hyp]; omega
    omega
  have hleft : leftI true inner (l.map (startI true)) = inner - (l.map (fun x => x.around + x.base)).sum := by unfold leftI; rw [if_pos rfl, free_all l hf]; omega
  have hwt : wtF true = Fx.grow := by funext x; unfold wtF; rfl
  have e := one_sizes hg hf (by rw [wts_all l hf] at F; exact F) (fun z hz => by
    obtain ⟨k, h1, h2, rfl⟩ := zip_mem hz
    have hpk : 0 ≤ (shareZ (leftI true inner (l.map (startI true))) (l.map (wtF true)))[k] := by
      rw [wts_all l hf] at F
      rw [F.get k h2]
      exact F.pos k (by simpa using h1) (by rw [hleft]; omega)
    have := (hx _ (List.getElem_mem h1)).2.1
    rw [this.cl (by have := this.b0; omega)]
    omega)
  rw [wts_all l hf, hleft, hwt] at F
  rw [hleft, hwt] at e
  exact ⟨F, hpos, e⟩
/-- Shrinking, each has its base and its part, where none would be below 0. -/
theorem shrink_one {inner : Int} {l : List Fx} (hg : growsF inner l = false) (hx : ∀ x ∈ l, FxOk x ∧ Free1 x ∧ 0 < x.shrink) (hlen : l.length ≤ 500) (hr : InRoom inner)
    (hlo : ∀ (k : Nat) (h : k < l.length), 0 ≤ l[k].base + shareAt (inner - (l.map (fun x => x.around + x.base)).sum) (l.map (wtF false)) k) :
    ShareFacts (inner - (l.map (fun x => x.around + x.base)).sum) (l.map (wtF false)) ∧ inner - (l.map (fun x => x.around + x.base)).sum ≤ 0 ∧
    sizesF inner l = List.zipWith (fun x z => x.base + z) l (shareZ (inner - (l.map (fun x => x.around + x.base)).sum) (l.map (wtF false))) := by
  have hf : ∀ x ∈ l, (startI false x).fz = false := fun x h => (hx x h).2.1.open (hx x h).2.2
  have G := SI.start (fun x h => (hx x h).1) hlen hg
  have F := G.facts hr
  have hpos : inner - (l.map (fun x => x.around + x.base)).sum ≤ 0 := by
    unfold growsF at hg
    rw [decide_eq_false_iff_not] at hg
    have : (l.map (fun x => hypF x + x.around)).sum = (l.map (fun x => x.around + x.base)).sum := sum_eq_by l fun x h => by rw [(hx x h).2.1.hyp]; omega
    omega
  have hleft : leftI false inner (l.map (startI false)) = inner - (l.map (fun x => x.around + x.base)).sum := by unfold leftI; rw [if_neg (by simp), free_all l hf]; omega
  rw [wts_all l hf, hleft] at F
  have e := one_sizes hg hf (by rw [hleft]; exact F) (fun z hz => by
    rw [hleft] at hz
    obtain ⟨k, h1, h2, rfl⟩ := zip_mem hz
    have := hlo k h1
    rw [F.get k h2]
    rw [(hx _ (List.getElem_mem h1)).2.1.cl this]
    omega)
  rw [hleft] at e
  exact ⟨F, hpos, e⟩
end Go.Proofs.Ytodnplllkpgfaaa
