import Derived.Test.YtmlnpphblicghaaRowStandNumQ
/- What RowPieces asks of pieces. -/
namespace Go.Proofs.Ytmlnpphblicghaa
open Go Go.RowKit
set_option linter.unusedVariables false
set_option linter.unusedSimpArgs false

/-- A piece and the glyphs that it has. -/
structure PieceF (g : List Gl) (v : Iv) (p : Pc) : Prop where
  lt : v.lo < v.hi
  hi : v.hi ≤ g.length
  w : p.w = sumT g v.lo v.hi
  has : ∀ k (h : k < g.length), (g[k].run = p.node ∧ p.from_ ≤ g[k].at_ ∧ g[k].at_ < p.to_) ↔ (v.lo ≤ k ∧ k < v.hi)
  w0 : 0 ≤ p.w
  w1 : p.w ≤ 131072000
def inN (T : List Iv) (i : Nat) : Int := ((T.take i).map fun v => (v.hi : Int) - v.lo).sum
def cutV (v : Iv) (k : Nat) : Int := (min k v.hi : Int) - min k v.lo
def wK (g : List Gl) (v : Iv) (k : Nat) : Int := sumT g v.lo (max v.lo (min k v.hi))
theorem inN_step (T : List Iv) (i : Nat) (h : i < T.length) : inN T (i + 1) = inN T i + ((T[i].hi : Int) - T[i].lo) := by
  unfold inN
  rw [List.take_succ_eq_append_getElem h, List.map_append, List.sum_append]
  simp
theorem inN_zero (T : List Iv) : inN T 0 = 0 := by simp [inN]
theorem inN_all (T : List Iv) (n : Nat) (h : ∀ v ∈ T, v.lo < v.hi ∧ v.hi ≤ n) : inN T T.length = cntV T n := by
  unfold inN
  rw [List.take_length, cntV_all T n fun v hv => by have := h v hv; omega]
theorem cutV_zero (v : Iv) : cutV v 0 = 0 := by unfold cutV; omega
theorem cutV_in (v : Iv) (k : Nat) (h1 : v.lo ≤ k) (h2 : k < v.hi) : cutV v (k + 1) = cutV v k + 1 := by unfold cutV; omega
theorem cutV_out (v : Iv) (k : Nat) (hv : v.lo < v.hi) (h : ¬ (v.lo ≤ k ∧ k < v.hi)) : cutV v (k + 1) = cutV v k := by unfold cutV; omega
theorem cutV_all (v : Iv) (n : Nat) (hv : v.lo < v.hi) (h : v.hi ≤ n) : cutV v n = (v.hi : Int) - v.lo := by unfold cutV; omega
theorem cutV_bd (v : Iv) (k : Nat) (hv : v.lo < v.hi) : 0 ≤ cutV v k ∧ cutV v k ≤ k := by unfold cutV; omega
section
variable (g : List Gl) (v : Iv)
theorem wK_zero : wK g v 0 = 0 := by unfold wK; rw [show max v.lo (min 0 v.hi) = v.lo by omega, sumT_self]
theorem wK_in (k : Nat) (hh : v.hi ≤ g.length) (h1 : v.lo ≤ k) (h2 : k < v.hi) : wK g v (k + 1) = wK g v k + (g[k]'(by omega)).adv := by
  unfold wK
  rw [show max v.lo (min (k + 1) v.hi) = k + 1 by omega, show max v.lo (min k v.hi) = k by omega, sumT_succ g v.lo k h1 (by omega)]
theorem wK_out (k : Nat) (hv : v.lo < v.hi) (h : ¬ (v.lo ≤ k ∧ k < v.hi)) : wK g v (k + 1) = wK g v k := by
  unfold wK
  rw [show max v.lo (min (k + 1) v.hi) = max v.lo (min k v.hi) by omega]
theorem wK_all (n : Nat) (hv : v.lo < v.hi) (h : v.hi ≤ n) : wK g v n = sumT g v.lo v.hi := by
  unfold wK
  rw [show max v.lo (min n v.hi) = v.hi by omega]
end
theorem covB_zero (T : List Iv) (k : Nat) : covB (T.take 0) k = false := by simp [covB]
theorem covB_step (T : List Iv) (k j : Nat) (h : j < T.length) : covB (T.take (j + 1)) k = (covB (T.take j) k || (decide (T[j].lo ≤ k) && decide (k < T[j].hi))) := by
  unfold covB
  rw [List.take_succ_eq_append_getElem h, List.any_append]
  simp
theorem sumT_small {g : List Gl} (h : ∀ x ∈ g, x.adv ≤ 65536) (i : Nat) : ∀ (n : Nat), i + n ≤ g.length → sumT g i (i + n) ≤ 65536 * (n : Int)
  | 0, _ => by rw [Nat.add_zero, sumT_self]; simp
  | n + 1, hn => by
    have h1 := sumT_small h i n (by omega)
    have h2 := h _ (List.getElem_mem (show i + n < g.length by omega))
    rw [← Nat.add_assoc, sumT_succ g i (i + n) (by omega) (by omega)]
    omega
theorem cntV_bd (T : List Iv) (ha : Apart2 T) (hl : ∀ v ∈ T, v.lo < v.hi) : ∀ k : Nat, 0 ≤ cntV T k ∧ cntV T k ≤ k
  | 0 => by rw [cntV_zero]; omega
  | k + 1 => by
    have := cntV_bd T ha hl k
    rw [cntV_step T k ha hl]
    split <;> omega
theorem sum_take_le : ∀ (l : List Int), (∀ x ∈ l, 0 ≤ x) → ∀ i, 0 ≤ (l.take i).sum ∧ (l.take i).sum ≤ l.sum
  | [], _, i => by simp
  | x :: l, h, 0 => by
    have h1 := sum_take_le l (fun y hy => h y (by simp [hy])) 0
    have h2 := h x (by simp)
    simp only [List.take_zero, List.sum_nil, List.sum_cons] at *
    omega
  | x :: l, h, i + 1 => by
    have h1 := sum_take_le l (fun y hy => h y (by simp [hy])) i
    have h2 := h x (by simp)
    simp only [List.take_succ_cons, List.sum_cons]
    omega
theorem inN_bd (T : List Iv) (n : Nat) (ha : Apart2 T) (h : ∀ v ∈ T, v.lo < v.hi ∧ v.hi ≤ n) (i : Nat) : 0 ≤ inN T i ∧ inN T i ≤ n := by
  have h1 := sum_take_le (T.map fun v => (v.hi : Int) - v.lo) (fun x hx => by obtain ⟨v, hv, rfl⟩ := List.mem_map.1 hx; have := h v hv; omega) i
  have h2 := inN_all T n h
  have h3 := (cntV_bd T ha (fun v hv => (h v hv).1) n).2
  unfold inN at h2 ⊢
  rw [List.take_length] at h2
  rw [List.map_take]
  omega
theorem apart_len (T : List Iv) (n : Nat) (ha : Apart2 T) (h : ∀ v ∈ T, v.lo < v.hi ∧ v.hi ≤ n) : T.length ≤ n := by
  have h1 : ∀ l : List Iv, (∀ v ∈ l, v.lo < v.hi) → (l.length : Int) ≤ (l.map fun v => (v.hi : Int) - v.lo).sum := by
    intro l
    induction l with
    | nil => intro _; simp
    | cons v l ih =>
      intro hl
      have h2 := ih (fun w hw => hl w (by simp [hw]))
      have h3 := hl v (by simp)
      simp only [List.map_cons, List.sum_cons, List.length_cons]
      omega
  have h2 := h1 T (fun v hv => (h v hv).1)
  have h3 := (inN_bd T n ha h T.length).2
  unfold inN at h3
  rw [List.take_length] at h3
  omega
def nextP (p q : Pc) : Prop := p.node < q.node ∨ (p.node = q.node ∧ p.to_ ≤ q.from_)
theorem pieces_gen (rs : List Rn) (g : List Gl) (av : Int) (hF : FineG g) (hg : g.length ≤ 2000) (hr : ∀ (i : Nat) (h : i < rs.length), rs[i].node = i) (hA : Adv0 g) (hB : ∀ x ∈ g, x.adv ≤ 65536)
    (ho : ∀ (i : Nat) (h : i + 1 < g.length), Ahead g[i] g[i + 1]) (hin : ∀ (k : Nat) (hk : k < g.length), ∃ r : Nat, r < rs.length ∧ g[k].run = r) :
    ∃ T : List Iv, (placeL rs g av 1280 0 0 0 (linesI av g 0)).1 = T ∧ (∀ v ∈ T, PieceF g v (pcOf rs g v)) ∧ adj nextP (T.map (pcOf rs g)) ∧ Apart2 T ∧ (∀ k, k < g.length → covB T k = true ∨ kd g k = 2 ∨ kd g k = 4) := by
  refine ⟨_, rfl, ?_⟩
  have hmem := place_mem rs g av 1280 0 (by decide) g.length 0 0 0 (by omega)
  have hadj := place_adj rs g av 1280 0 (by decide) g.length 0 0 0 (by omega)
  have hcov := place_cover rs g av 1280 0 g.length 0 0 0 (by omega)
  generalize (placeL rs g av 1280 0 0 0 (linesI av g 0)).1 = T at *
  have hP : ∀ v ∈ T, v.lo < v.hi ∧ v.hi ≤ g.length ∧ (∀ j, v.lo ≤ j → j < v.hi → rnG g j = rnG g v.lo) := fun v hv => by
    obtain ⟨⟨⟨s, t, w, y0, q1, q2, q3, q4, q5, q6, q7, q8⟩, q9⟩, q10⟩ := hmem v hv
    exact ⟨q5.lt, by have := q5.hi; omega, q5.one⟩
  have hnd : ∀ v ∈ T, (pcOf rs g v).node = rnG g v.lo := fun v hv => by
    obtain ⟨h1, h2, -⟩ := hP v hv
    obtain ⟨r, hr1, hr2⟩ := hin v.lo (by omega)
    show nRun rs (rnG g v.lo) = rnG g v.lo
    rw [rnG_at g v.lo (by omega), hr2, nRun_at rs r hr1, hr r hr1]
  refine ⟨fun v hv => ?_, ?_, ?_, fun k hk => ?_⟩
  · obtain ⟨h1, h2, h3⟩ := hP v hv
    have b2 := sumT_small hB v.lo (v.hi - v.lo) (by omega)
    rw [show v.lo + (v.hi - v.lo) = v.hi by omega] at b2
    refine ⟨h1, h2, rfl, fun k hk => ?_, sumT_pos hA _ _, ?_⟩
    · rw [hnd v hv]
      exact inPiece ho h1 h2 hk h3
    · show sumT g v.lo v.hi ≤ _
      omega
  · have hin2 : adj (fun v w => Beside2 g v w ∧ v ∈ T ∧ w ∈ T) T := by
      have key : ∀ (l : List Iv), (∀ v ∈ l, v ∈ T) → adj (Beside2 g) l → adj (fun v w => Beside2 g v w ∧ v ∈ T ∧ w ∈ T) l := by
        intro l
        induction l with
        | nil => intro _ _; trivial
        | cons a l ih =>
          intro hm h
          cases l with
          | nil => trivial
          | cons b l => exact ⟨⟨h.1, hm a (by simp), hm b (by simp)⟩, ih (fun v hv => hm v (by simp [List.mem_cons.1 hv])) h.2⟩
      exact key T (fun v hv => hv) hadj
    refine adj_map T (adj_imp (fun v w hvw => ?_) T hin2)
    obtain ⟨hb, hv, hw⟩ := hvw
    obtain ⟨v1, v2, v3⟩ := hP v hv
    obtain ⟨w1, w2, w3⟩ := hP w hw
    have hle : v.hi ≤ w.lo := by rcases hb with h | h <;> omega
    unfold nextP
    rw [hnd v hv, hnd w hw]
    show _ ∨ (_ ∧ atG g (v.hi - 1) + 1 ≤ atG g w.lo)
    have hah := ahead_far ho (w.lo - (v.hi - 1) - 1) (v.hi - 1) w.lo (by omega) (by omega) (by omega)
    have h3 := v3 (v.hi - 1) (by omega) (by omega)
    rw [rnG_at g (v.hi - 1) (by omega), rnG_at g v.lo (by omega)] at h3
    rw [rnG_at g v.lo (by omega), rnG_at g w.lo (by omega), atG_at g (v.hi - 1) (by omega), atG_at g w.lo (by omega)]
    unfold Ahead at hah
    omega
  · exact adj_pair T (adj_imp (fun v w h => by rcases h with h | h <;> omega) T hadj) (fun v hv => (hP v hv).1)
  · rcases hcov k (Nat.zero_le _) hk with ⟨u, hu, h1, h2⟩ | h
    · left
      unfold covB
      rw [List.any_eq_true]
      exact ⟨u, hu, by simp [h1, h2]⟩
    · exact .inr h
/-- All of it, by numbers: for the pieces ps, with what the law counts. -/
structure PiecesF (g : List Gl) (ps : List Pc) (T : List Iv) : Prop where
  len : T.length = ps.length
  few : ps.length ≤ 2000
  glyphs : g.length ≤ 2000
  one : ∀ i (h : i < ps.length), ∃ v : Iv, PieceF g v ps[i] ∧ inN T (i + 1) = inN T i + ((v.hi : Int) - v.lo) ∧ ∀ k, covB (T.take (i + 1)) k = (covB (T.take i) k || (decide (v.lo ≤ k) && decide (k < v.hi)))
  next : ∀ i (h : i + 1 < ps.length), nextP ps[i] ps[i + 1]
  bd : ∀ i, 0 ≤ inN T i ∧ inN T i ≤ g.length
  all : inN T ps.length = cntV T g.length
  cnt : ∀ k, cntV T (k + 1) = cntV T k + if covB T k then 1 else 0
  cbd : ∀ k : Nat, 0 ≤ cntV T k ∧ cntV T k ≤ k
  cov : ∀ k (h : k < g.length), covB T k = true ∨ g[k].kind = 2 ∨ g[k].kind = 4
theorem pieces_facts (zs : List Int) (rs : List Rn) (av : Int) (hsz : sizeAll rs ≤ 2000) (hr : ∀ (i : Nat) (h : i < rs.length), rs[i].node = i) : ∃ T : List Iv, PiecesF (glyphsL zs rs) (placeZ zs rs av 1280 0).1 T := by
  have hz : lineZ 1280 = 1280 := by decide
  have hl := glyphsL_length zs rs
  obtain ⟨T, e, h1, h2, h3, h4⟩ := pieces_gen rs (glyphsL zs rs) av (glyphs_fine zs rs (by omega)) (by omega) hr (fun x hx => by obtain ⟨r, i, hr, hi, -, -, h1, -⟩ := inRuns_what (glyphsL_in zs rs x hx); exact h1) (fun x hx => by obtain ⟨r, i, hr, hi, -, -, -, h1, -⟩ := inRuns_what (glyphsL_in zs rs x hx); exact h1) (glyphsL_order zs rs) (glyphs_run zs rs)
  have hps : (placeZ zs rs av 1280 0).1 = T.map (pcOf rs (glyphsL zs rs)) := by
    unfold placeZ
    simp only [hz]
    rw [← linesI_zero, e]
  rw [hps]
  generalize glyphsL zs rs = g at *
  have hb : ∀ v ∈ T, v.lo < v.hi ∧ v.hi ≤ g.length := fun v hv => ⟨(h1 v hv).lt, (h1 v hv).hi⟩
  have hb1 : ∀ v ∈ T, v.lo < v.hi := fun v hv => (h1 v hv).lt
  refine ⟨T, by rw [List.length_map], by rw [List.length_map]; have := apart_len T g.length h3 hb; omega, by omega, fun i hi => ?_, fun i hi => adj_get _ h2 i hi, fun i => inN_bd T g.length h3 hb i, by rw [List.length_map]; exact inN_all T g.length hb, fun k => cntV_step T k h3 hb1, cntV_bd T h3 hb1, fun k hk => ?_⟩
  · rw [List.length_map] at hi
    refine ⟨T[i], by rw [List.getElem_map]; exact h1 _ (List.getElem_mem hi), inN_step T i hi, fun k => covB_step T k i hi⟩
  · have := h4 k hk
    rwa [kd_at g k hk] at this
end Go.Proofs.Ytmlnpphblicghaa
