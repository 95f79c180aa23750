import Derived.Test.YtmlnpphblicghaaRowFactQ
import Derived.Test.YtmlnpphblicghaaRowPartQ
/- The same lines left, right, in the middle: what RowAligns asks. No program is named here. -/
namespace Go.Proofs.Ytmlnpphblicghaa
open Go Go.RowKit
set_option linter.unusedVariables false
set_option linter.unusedSimpArgs false

/-- Where line ln ends, by the first k pieces. -/
def endF (ln : Int) (e : Int) (q : Pc) : Int := if q.line = ln then max e (q.x + q.w) else e
def endK (ps : List Pc) (ln : Int) (k : Nat) : Int := (ps.take k).foldl (endF ln) 0
theorem endK_zero (ps : List Pc) (ln : Int) : endK ps ln 0 = 0 := rfl
theorem endK_step (ps : List Pc) (ln : Int) (k : Nat) (h : k < ps.length) : endK ps ln (k + 1) = if ps[k].line = ln then max (endK ps ln k) (ps[k].x + ps[k].w) else endK ps ln k := by
  unfold endK
  rw [List.take_succ_eq_append_getElem h, List.foldl_append]
  rfl
theorem endF_bd {B : Int} (ln : Int) : ∀ (l : List Pc) (e : Int), 0 ≤ e → e ≤ B → (∀ q ∈ l, q.line = ln → q.x + q.w ≤ B) → e ≤ l.foldl (endF ln) e ∧ l.foldl (endF ln) e ≤ B
  | [], e, h0, h1, _ => ⟨Int.le_refl _, h1⟩
  | q :: l, e, h0, h1, h => by
    have hq := h q (by simp)
    have h2 : e ≤ endF ln e q ∧ endF ln e q ≤ B := by unfold endF; split <;> rename_i hl <;> (try have := hq hl) <;> omega
    obtain ⟨k1, k2⟩ := endF_bd ln l (endF ln e q) (by omega) h2.2 (fun x hx => h x (by simp [hx]))
    simp only [List.foldl_cons]
    exact ⟨by omega, k2⟩
theorem endF_has (ln : Int) : ∀ (l : List Pc) (e : Int), ∀ q ∈ l, q.line = ln → q.x + q.w ≤ l.foldl (endF ln) e
  | x :: l, e, q, hq, hl => by
    have hmono : ∀ (l : List Pc) (e : Int), e ≤ l.foldl (endF ln) e := by
      intro l
      induction l with
      | nil => intro e; exact Int.le_refl _
      | cons y l ih =>
        intro e
        have h1 : e ≤ endF ln e y := by unfold endF; split <;> omega
        have := ih (endF ln e y)
        simp only [List.foldl_cons]
        omega
    simp only [List.foldl_cons]
    rcases List.mem_cons.1 hq with rfl | hq
    · have h1 := hmono l (endF ln e q)
      have h2 : q.x + q.w ≤ endF ln e q := by unfold endF; rw [if_pos hl]; omega
      omega
    · exact endF_has ln l (endF ln e x) q hq hl
theorem endK_bd (ps : List Pc) (ln : Int) (k : Nat) (B : Int) (hB : 0 ≤ B) (h : ∀ q ∈ ps, q.x + q.w ≤ B) : 0 ≤ endK ps ln k ∧ endK ps ln k ≤ B :=
  endF_bd ln (ps.take k) 0 (Int.le_refl _) hB (fun q hq _ => h q (List.mem_of_mem_take hq))
theorem endK_is (ps : List Pc) (ln U : Int) (h0 : 0 ≤ U) (hle : ∀ q ∈ ps, q.line = ln → q.x + q.w ≤ U) (hex : ∃ q ∈ ps, q.line = ln ∧ q.x + q.w = U) : endK ps ln ps.length = U := by
  unfold endK
  rw [List.take_length]
  obtain ⟨-, h2⟩ := endF_bd ln ps 0 (Int.le_refl _) h0 hle
  obtain ⟨q, hq, hl, he⟩ := hex
  have := endF_has ln ps 0 q hq hl
  omega
def moveP (d : Int) (p : Pc) : Pc := { p with x := p.x + d }
theorem pcOf_moved (rs : List Rn) (g : List Gl) (d : Int) (v : Iv) : pcOf rs g (movedV d v) = moveP d (pcOf rs g v) := rfl
def freeZ (av : Int) (ps : List Pc) (p : Pc) : Int := max (av - endK ps p.line ps.length) 0
theorem aligns_gen (rs : List Rn) (g : List Gl) (av : Int) (hF : FineG g) (hA : Adv0 g) : ∃ T0 : List Iv, T0 = (placeL rs g av 1280 0 0 0 (linesI av g 0)).1 ∧
    (placeL rs g av 1280 1 0 0 (linesI av g 0)).1.map (pcOf rs g) = (T0.map (pcOf rs g)).map (fun p => moveP (freeZ av (T0.map (pcOf rs g)) p) p) ∧
    (placeL rs g av 1280 2 0 0 (linesI av g 0)).1.map (pcOf rs g) = (T0.map (pcOf rs g)).map (fun p => moveP (freeZ av (T0.map (pcOf rs g)) p / 2) p) ∧
    ∀ p ∈ T0.map (pcOf rs g), 0 ≤ p.x ∧ 0 ≤ p.w ∧ p.x + p.w ≤ 4611686018427387904 := by
  refine ⟨_, rfl, ?_⟩
  have hends := place_ends rs g av 1280 hA g.length 0 0 0 (by omega)
  have hmem := place_mem rs g av 1280 0 (by decide) g.length 0 0 0 (by omega)
  obtain ⟨k1, -⟩ := place_aligned rs g av 1280 1 g.length 0 0 0 (by omega)
  obtain ⟨k2, -⟩ := place_aligned rs g av 1280 2 g.length 0 0 0 (by omega)
  rw [k1, k2]
  generalize (placeL rs g av 1280 0 0 0 (linesI av g 0)).1 = T0 at *
  have hE : ∀ v ∈ T0, endK (T0.map (pcOf rs g)) (pcOf rs g v).line (T0.map (pcOf rs g)).length = wdL (linesI av g 0) (v.ln - 0) := fun v hv => by
    obtain ⟨h1, h2, u, hu, hul, huw⟩ := hends v hv
    refine endK_is _ _ _ ?_ (fun q hq hl => ?_) ⟨_, List.mem_map_of_mem hu, by show (u.ln : Int) = v.ln; rw [hul], huw⟩
    · have := sumT_pos hA v.lo v.hi
      omega
    · obtain ⟨x, hx, rfl⟩ := List.mem_map.1 hq
      have h3 := (hends x hx).1
      have hl' : (x.ln : Int) = v.ln := hl
      rw [show x.ln = v.ln by omega] at h3
      exact h3
  refine ⟨?_, ?_, fun p hp => ?_⟩
  · rw [List.map_map, List.map_map]
    refine List.map_congr_left fun v hv => ?_
    simp only [Function.comp_apply, pcOf_moved, freeZ]
    rw [hE v hv]
    congr 1
    unfold startX
    split
    · omega
    · split <;> omega
  · rw [List.map_map, List.map_map]
    refine List.map_congr_left fun v hv => ?_
    simp only [Function.comp_apply, pcOf_moved, freeZ]
    rw [hE v hv]
    congr 1
    unfold startX
    split
    · omega
    · split <;> omega
  · obtain ⟨v, hv, rfl⟩ := List.mem_map.1 hp
    obtain ⟨h1, h2, -⟩ := hends v hv
    obtain ⟨⟨⟨s, t, w, y0, q1, q2, q3, q4, q5, q6, q7, q8⟩, -⟩, -⟩ := hmem v hv
    have e0 : startX av w 0 = 0 := by simp [startX]
    have h3 := q5.x
    rw [e0] at h3
    have h4 := q5.lo
    have h5 := q5.lt
    have h6 := q5.hi
    have h7 := sumT_add g s _ v.lo v.hi rfl h4 (by omega) (by omega)
    obtain ⟨b1, b2⟩ := sumT_bd hF s v.hi (by omega) (by omega)
    have hgl := hF.1
    refine ⟨h2, sumT_pos hA _ _, ?_⟩
    show v.x + sumT g v.lo v.hi ≤ _
    rw [h3]
    omega
theorem aligns_facts (zs : List Int) (rs : List Rn) (av : Int) (hsz : sizeAll rs ≤ 100000) :
    (placeZ zs rs av 1280 1).2 = (placeZ zs rs av 1280 0).2 ∧ (placeZ zs rs av 1280 2).2 = (placeZ zs rs av 1280 0).2 ∧
    (placeZ zs rs av 1280 1).1 = (placeZ zs rs av 1280 0).1.map (fun p => moveP (freeZ av (placeZ zs rs av 1280 0).1 p) p) ∧
    (placeZ zs rs av 1280 2).1 = (placeZ zs rs av 1280 0).1.map (fun p => moveP (freeZ av (placeZ zs rs av 1280 0).1 p / 2) p) ∧
    ∀ p ∈ (placeZ zs rs av 1280 0).1, 0 ≤ p.x ∧ 0 ≤ p.w ∧ p.x + p.w ≤ 4611686018427387904 := by
  have hz : lineZ 1280 = 1280 := by decide
  have hF := glyphs_fine zs rs hsz
  have hA : Adv0 (glyphsL zs rs) := fun x hx => by obtain ⟨r, i, hr, hi, -, -, h1, -⟩ := inRuns_what (glyphsL_in zs rs x hx); exact h1
  obtain ⟨T0, e0, e1, e2, e3⟩ := aligns_gen rs (glyphsL zs rs) av hF hA
  have a1 := (place_aligned rs (glyphsL zs rs) av 1280 1 (glyphsL zs rs).length 0 0 0 (by omega)).2
  have a2 := (place_aligned rs (glyphsL zs rs) av 1280 2 (glyphsL zs rs).length 0 0 0 (by omega)).2
  unfold placeZ
  simp only [hz]
  rw [← linesI_zero]
  rw [← e0]
  exact ⟨a1, a2, e1, e2, e3⟩
end Go.Proofs.Ytmlnpphblicghaa
