import Derived.Test.YtmlnpphblicghaaRowFactQ
import Derived.Test.YtmlnpphblicghaaZQ
import Derived.Test.YtmlnpphblicghaaRefPlaceQ
/- What RowStands asks of pieces. -/
namespace Go.Proofs.Ytmlnpphblicghaa
open Go Go.RowKit
set_option linter.unusedVariables false
set_option linter.unusedSimpArgs false

theorem lnsL_in : ∀ k : Nat, 0 ≤ lnsL.getD k 0 ∧ lnsL.getD k 0 ≤ 2000
  | 0 => by decide
  | 1 => by decide
  | 2 => by decide
  | 3 => by decide
  | 4 => by decide
  | 5 => by decide
  | k + 6 => by simp [lnsL, List.getD]
theorem runsL_at (l : List Int) (i : Nat) (h : i < (runsL l).length) : (runsL l)[i].node = i ∧ 0 ≤ (runsL l)[i].line ∧ (runsL l)[i].line ≤ 2000 := by
  have h2 := lnsL_in ((l.getD i 0) / 256 % 256 % 6).toNat
  simp only [runsL, runsTo, List.getElem_map, List.getElem_range, runOf]
  exact ⟨by first | trivial | rfl, h2⟩
/-- Of one piece. -/
structure StandsP (rs : List Rn) (avail H : Int) (nl : Nat) (p : Pc) (r : Nat) : Prop where
  inr : r < rs.length
  node : p.node = r
  from0 : 0 ≤ p.from_
  fromto : p.from_ < p.to_
  to_ : p.to_ ≤ (rs[r]'inr).text.size
  x0 : 0 ≤ p.x
  xw : p.x + p.w ≤ avail
  w0 : 0 ≤ p.w
  y0 : 0 ≤ p.y
  yh : p.y + p.h ≤ H
  h : p.h = (rs[r]'inr).line
  h0 : 0 ≤ p.h
  h1 : p.h ≤ 2000
  ln0 : 0 ≤ p.line
  ln1 : p.line < nl
/-- Of one and the next. -/
def StandsN (p q : Pc) : Prop := (q.line = p.line ∧ q.y + upZ q.h = p.y + upZ p.h ∧ q.x = p.x + p.w) ∨ (p.line < q.line ∧ p.y + upZ p.h ≤ q.y + upZ q.h)
theorem adj_map {α β : Type} {R : β → β → Prop} {f : α → β} : ∀ (l : List α), adj (fun a b => R (f a) (f b)) l → adj R (l.map f)
  | [], h => trivial
  | [_], h => trivial
  | a :: b :: l, h => ⟨h.1, adj_map (b :: l) h.2⟩
theorem place_top (rs : List Rn) (g : List Gl) (avail strut align : Int) (hs : 0 ≤ strut ∧ strut ≤ 1073741824) : ∀ (f i n : Nat) (y : Int), g.length - i ≤ f → (placeL rs g avail strut align n y (linesI avail g i)).2 ≤ y + 2147483648 * ((linesI avail g i).length : Int)
  | 0, i, n, y, hf => by rw [place_end rs g avail strut align i n y (by omega), linesI_end avail g i (by omega)]; simp
  | f + 1, i, n, y, hf => by
    rcases Nat.lt_or_ge i g.length with hi | hi
    · obtain ⟨t, w, hL, h1, h2, h3, h4⟩ := place_step rs g avail strut align i n y hi
      have hz := upZ_bd strut hs.1
      have h5 := upI_bd rs g (upZ strut) i t (by omega)
      have h6 := dnI_bd rs g (strut - upZ strut) i t (by omega)
      have := place_top rs g avail strut align hs f (t + 1) (n + 1) (y + upI rs g (upZ strut) i t + dnI rs g (strut - upZ strut) i t) (by omega)
      rw [h4, h3, List.length_cons]
      simp only
      omega
    · rw [place_end rs g avail strut align i n y hi, linesI_end avail g i hi]; simp
theorem place_most (zs : List Int) (rs : List Rn) (av al : Int) (h : sizeAll rs ≤ 2000) : (placeZ zs rs av 1280 al).2 ≤ 4398046511104 := by
  have hz : lineZ 1280 = 1280 := by decide
  have h1 := place_top rs (glyphsL zs rs) av 1280 al (by decide) (glyphsL zs rs).length 0 0 0 (by omega)
  have h2 := linesI_length av (glyphsL zs rs) (glyphsL zs rs).length 0 (by omega)
  have h3 := glyphsL_length zs rs
  unfold placeZ
  simp only [hz]
  rw [← linesI_zero]
  omega
theorem stands_gen (rs : List Rn) (g : List Gl) (av al : Int) (hr : ∀ (i : Nat) (h : i < rs.length), rs[i].node = i ∧ 0 ≤ rs[i].line ∧ rs[i].line ≤ 2000) (hav : leastL g ≤ av) (hA : Adv0 g)
    (ho : ∀ (i : Nat) (h : i + 1 < g.length), Ahead g[i] g[i + 1]) (hin : ∀ (k : Nat) (hk : k < g.length), ∃ (r i : Nat) (hr : r < rs.length), g[k].run = r ∧ g[k].at_ = i ∧ i < rs[r].text.size) :
    (∀ p ∈ (placeL rs g av 1280 al 0 0 (linesI av g 0)).1.map (pcOf rs g), ∃ r, StandsP rs av (placeL rs g av 1280 al 0 0 (linesI av g 0)).2 (linesI av g 0).length p r) ∧ adj StandsN ((placeL rs g av 1280 al 0 0 (linesI av g 0)).1.map (pcOf rs g)) ∧
      (linesI av g 0).length * 1280 ≤ (placeL rs g av 1280 al 0 0 (linesI av g 0)).2 ∧ (g.length = 0 → (placeL rs g av 1280 al 0 0 (linesI av g 0)).2 = 0) := by
  refine ⟨fun p hp => ?_, ?_, ?_, fun h0 => ?_⟩
  · obtain ⟨v, hv, rfl⟩ := List.mem_map.1 hp
    obtain ⟨k1, k2, k3, k4, k5, k6⟩ := place_stands rs g av 1280 al hA (by decide) hav 0 0 v hv
    obtain ⟨hIP, k7⟩ := place_mem rs g av 1280 al (by decide) g.length 0 0 0 (by omega) v hv
    obtain ⟨⟨s, t, w, y0, q1, q2, q3, q4, q5, q6, q7, q8⟩, q9⟩ := hIP
    obtain ⟨r, i, hr1, e1, e2, hi⟩ := hin v.lo (by omega)
    obtain ⟨r', i', hr1', e1', e2', hi'⟩ := hin (v.hi - 1) (by omega)
    have hone := q5.one (v.hi - 1) (by omega) (by omega)
    rw [rnG_at g (v.hi - 1) (by omega), rnG_at g v.lo (by omega), e1, e1'] at hone
    have hrr : r' = r := by omega
    subst hrr
    obtain ⟨n1, n2, n3⟩ := hr r' hr1
    have hh : hRun rs (rnG g v.lo) = rs[r'].line := by rw [rnG_at g v.lo (by omega), e1, hRun_at rs r' hr1]; unfold lineZ; omega
    have hnd : nRun rs (rnG g v.lo) = r' := by rw [rnG_at g v.lo (by omega), e1, nRun_at rs r' hr1, n1]
    have hf : atG g v.lo = i := by rw [atG_at g v.lo (by omega), e2]
    have htt : atG g (v.hi - 1) = i' := by rw [atG_at g (v.hi - 1) (by omega), e2']
    have hle : i ≤ i' := by
      rcases Nat.eq_or_lt_of_le (show v.lo ≤ v.hi - 1 by omega) with h | h
      · have : atG g v.lo = atG g (v.hi - 1) := by rw [← h]
        omega
      · have := ahead_far ho (v.hi - 1 - v.lo - 1) v.lo (v.hi - 1) (by omega) (by omega) (by omega)
        unfold Ahead at this; omega
    rw [hh] at k5 k6
    refine ⟨r', ⟨hr1, ?_, ?_, ?_, ?_, k3, k4, sumT_pos hA _ _, ?_, ?_, ?_, ?_, ?_, ?_, ?_⟩⟩ <;> simp only [pcOf, hh, hnd, hf, htt] <;> omega
  · refine adj_map _ (adj_imp (fun v w h => ?_) _ (place_adj rs g av 1280 al (by decide) g.length 0 0 0 (by omega)))
    have e : ∀ u : Iv, (pcOf rs g u).y + upZ (pcOf rs g u).h = u.base := fun u => by simp only [pcOf]; omega
    unfold StandsN
    rw [e, e]
    rcases h with ⟨h1, h2, h3, h4⟩ | ⟨h1, h2, h3⟩
    · exact .inl ⟨by simp only [pcOf, h1], h3, by simp only [pcOf]; exact h4⟩
    · exact .inr ⟨by simp only [pcOf]; omega, h3⟩
  · have := place_high rs g av 1280 al (by decide) g.length 0 0 0 (by omega)
    omega
  · rw [place_end rs g av 1280 al 0 0 0 (by omega)]
theorem stands_facts (zs : List Int) (rs : List Rn) (av al : Int) (hr : ∀ (i : Nat) (h : i < rs.length), rs[i].node = i ∧ 0 ≤ rs[i].line ∧ rs[i].line ≤ 2000) (hav : leastL (glyphsL zs rs) ≤ av) :
    (∀ p ∈ (placeZ zs rs av 1280 al).1, ∃ r, StandsP rs av (placeZ zs rs av 1280 al).2 (linesL av (glyphsL zs rs)).length p r) ∧ adj StandsN (placeZ zs rs av 1280 al).1 ∧
      (linesL av (glyphsL zs rs)).length * 1280 ≤ (placeZ zs rs av 1280 al).2 ∧ ((glyphsL zs rs).length = 0 → (placeZ zs rs av 1280 al).2 = 0) := by
  have hz : lineZ 1280 = 1280 := by decide
  have := stands_gen rs (glyphsL zs rs) av al hr hav (fun x hx => by obtain ⟨r, i, hr, hi, -, -, h1, -⟩ := inRuns_what (glyphsL_in zs rs x hx); exact h1) (glyphsL_order zs rs) (fun k hk => by
    obtain ⟨r, i, hr, hi, e1, e2, -⟩ := inRuns_what (glyphsL_in zs rs _ (List.getElem_mem hk))
    exact ⟨r, i, hr, e1, e2, hi⟩)
  unfold placeZ
  simp only [hz]
  rw [← linesI_zero]
  exact this
end Go.Proofs.Ytmlnpphblicghaa
