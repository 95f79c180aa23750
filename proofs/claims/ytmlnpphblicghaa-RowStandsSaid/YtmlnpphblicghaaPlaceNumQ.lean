import Derived.Test.YtmlnpphblicghaaRowGeoQ
/- Lines are placed, a line at a time: pieces from 0 on, then set. No program is named here. -/
namespace Go.Proofs.Ytmlnpphblicghaa
open Go Go.RowKit
set_option linter.unusedVariables false
set_option linter.unusedSimpArgs false

/-- A piece ahead of its line's being set. -/
def rawOf (rs : List Rn) (g : List Gl) (v : Iv) : Pc := ⟨nRun rs (rnG g v.lo), v.x, 0, sumT g v.lo v.hi, hRun rs (rnG g v.lo), atG g v.lo, atG g (v.hi - 1) + 1, 0⟩
def setP (ln : Nat) (x base : Int) (p : Pc) : Pc := { p with x := p.x + x, y := base - upZ p.h, line := ln }
/-- The pieces of glyphs as if they were a line that begins at 0. -/
def rawL (rs : List Rn) (g : List Gl) : List Pc := (ivI g 0 0 g.length 0 0).map (rawOf rs g)
def highZ (u : Int) (ps : List Pc) : Int := ps.foldl (fun u p => max u p.h) u
def highG (rs : List Rn) (u : Int) (l : List Gl) : Int := l.foldl (fun u x => max u (hRun rs x.run)) u
def partG (g : List Gl) (s t : Nat) : List Gl := (g.drop s).take (t - s)

section
variable (g : List Gl) (s t : Nat)
theorem partG_length (hs : s ≤ t) (ht : t ≤ g.length) : (partG g s t).length = t - s := by unfold partG; rw [List.length_take, List.length_drop]; omega
theorem partG_get? (i : Nat) (hi : i < t - s) : (partG g s t)[i]? = g[s + i]? := by
  unfold partG
  rw [List.getElem?_take_of_lt hi, List.getElem?_drop]
theorem rnG_part (i : Nat) (hi : i < t - s) : rnG (partG g s t) i = rnG g (s + i) := by unfold rnG; rw [partG_get? g s t i hi]
theorem atG_part (i : Nat) (hi : i < t - s) : atG (partG g s t) i = atG g (s + i) := by unfold atG; rw [partG_get? g s t i hi]
theorem part_part (i k : Nat) (hk : k ≤ t - s) : ((partG g s t).drop i).take (k - i) = (g.drop (s + i)).take (k - i) := by
  unfold partG
  rw [List.drop_take, List.drop_drop, List.take_take, Nat.min_eq_left (by omega)]
theorem sumT_part (i k : Nat) (hk : k ≤ t - s) : sumT (partG g s t) i k = sumT g (s + i) (s + k) := by
  unfold sumT
  rw [part_part g s t i k hk, show s + k - (s + i) = k - i by omega]
theorem grpE_part (i : Nat) (hi : i < t - s) : s + grpE (partG g s t) i (t - s) = grpE g (s + i) t := by
  unfold grpE
  rw [part_part g s t i (t - s) (Nat.le_refl _), rnG_part g s t i hi, show t - s - i = t - (s + i) by omega, Nat.add_assoc]
theorem line_set' (rs : List Rn) (ln : Nat) (X base : Int) (hs : s ≤ t) (ht : t ≤ g.length) : ∀ (n i : Nat) (x : Int), t - s - i ≤ n →
    ((ivI (partG g s t) 0 0 (t - s) i x).map (rawOf rs (partG g s t))).map (setP ln X base) = (ivI g base ln t (s + i) (x + X)).map (pcOf rs g)
  | 0, i, x, hn => by rw [ivI_end _ _ _ _ _ _ (by omega), ivI_end _ _ _ _ _ _ (by omega)]; rfl
  | n + 1, i, x, hn => by
    rcases Nat.lt_or_ge i (t - s) with hi | hi
    · have hl := partG_length g s t hs ht
      obtain ⟨e1, e2, e3, e4⟩ := grpE_spec (partG g s t) i (t - s) hi (by omega)
      have hg := grpE_part g s t i hi
      rw [ivI_step (partG g s t) 0 0 (t - s) i x hi (by omega), ivI_step g base ln t (s + i) (x + X) (by omega) ht, ← hg]
      simp only [List.map_cons]
      have ih := line_set' rs ln X base hs ht n (grpE (partG g s t) i (t - s)) (x + sumT (partG g s t) i (grpE (partG g s t) i (t - s))) (by omega)
      have hsum := sumT_part g s t i _ e2
      rw [ih, hsum, show x + sumT g (s + i) (s + grpE (partG g s t) i (t - s)) + X = x + X + sumT g (s + i) (s + grpE (partG g s t) i (t - s)) by omega]
      congr 1
      simp only [rawOf, setP, pcOf, rnG_part g s t i hi, atG_part g s t i hi, hsum]
      rw [atG_part g s t _ (show grpE (partG g s t) i (t - s) - 1 < t - s by omega), show s + (grpE (partG g s t) i (t - s) - 1) = s + grpE (partG g s t) i (t - s) - 1 by omega]
    · rw [ivI_end _ _ _ _ _ _ hi, ivI_end _ _ _ _ _ _ (by omega)]; rfl
theorem line_set (rs : List Rn) (ln : Nat) (X base : Int) (hs : s ≤ t) (ht : t ≤ g.length) : (rawL rs (partG g s t)).map (setP ln X base) = (ivI g base ln t s X).map (pcOf rs g) := by
  have := line_set' g s t rs ln X base hs ht (t - s) 0 0 (by omega)
  unfold rawL
  rw [partG_length g s t hs ht, this, Nat.add_zero, Int.zero_add]
end
section
variable (rs : List Rn)
theorem highG_append (u : Int) (a b : List Gl) : highG rs u (a ++ b) = highG rs (highG rs u a) b := by unfold highG; rw [List.foldl_append]
theorem highG_same (r : Int) : ∀ (l : List Gl) (u : Int), (∀ x ∈ l, x.run = r) → l ≠ [] → highG rs u l = max u (hRun rs r)
  | [], u, h, hn => absurd rfl hn
  | [x], u, h, hn => by unfold highG; simp [h x (by simp)]
  | x :: y :: l, u, h, hn => by
    have := highG_same r (y :: l) (max u (hRun rs r)) (fun z hz => h z (by simp [List.mem_cons.1 hz])) (by simp)
    have e : highG rs u (x :: y :: l) = highG rs (max u (hRun rs x.run)) (y :: l) := rfl
    rw [e, h x (by simp), this]
    omega
theorem highZ_cons (u : Int) (p : Pc) (l : List Pc) : highZ u (p :: l) = highZ (max u p.h) l := rfl
theorem high_raw' (p : List Gl) : ∀ (n i : Nat) (x u : Int), p.length - i ≤ n → highZ u ((ivI p 0 0 p.length i x).map (rawOf rs p)) = highG rs u (p.drop i)
  | 0, i, x, u, hn => by rw [ivI_end _ _ _ _ _ _ (by omega), List.drop_eq_nil_of_le (by omega)]; rfl
  | n + 1, i, x, u, hn => by
    rcases Nat.lt_or_ge i p.length with hi | hi
    · obtain ⟨e1, e2, e3, e4⟩ := grpE_spec p i p.length hi (Nat.le_refl _)
      rw [ivI_step p 0 0 p.length i x hi (Nat.le_refl _), List.map_cons, highZ_cons, high_raw' p n _ _ _ (by omega)]
      generalize grpE p i p.length = e at *
      have hsp : p.drop i = (p.drop i).take (e - i) ++ p.drop e := by
        conv => lhs; rw [← List.take_append_drop (e - i) (p.drop i)]
        rw [List.drop_drop, show i + (e - i) = e by omega]
      have hsm := highG_same rs (rnG p i) ((p.drop i).take (e - i)) u (by
        intro y hy
        obtain ⟨j, hj, rfl⟩ := List.mem_iff_getElem.1 hy
        rw [List.length_take, List.length_drop] at hj
        rw [List.getElem_take, List.getElem_drop, ← rnG_at]
        exact e3 _ (by omega) (by omega)) (by
        intro h0
        have := congrArg List.length h0
        rw [List.length_take, List.length_drop, List.length_nil] at this
        omega)
      rw [hsp, highG_append, hsm]
      rfl
    · rw [ivI_end _ _ _ _ _ _ hi, List.drop_eq_nil_of_le hi]; rfl
theorem high_raw (p : List Gl) (u : Int) : highZ u (rawL rs p) = highG rs u p := by
  have := high_raw' rs p p.length 0 0 u (by omega)
  unfold rawL
  rw [this, List.drop_zero]
theorem highG_up : ∀ (l : List Gl) (u : Int), 0 ≤ u → l.foldl (fun u x => max u (upZ (hRun rs x.run))) (upZ u) = upZ (highG rs u l) ∧ l.foldl (fun u x => max u (hRun rs x.run - upZ (hRun rs x.run))) (u - upZ u) = highG rs u l - upZ (highG rs u l)
  | [], u, hu => ⟨rfl, rfl⟩
  | x :: l, u, hu => by
    have hh := hRun_bd rs x.run
    obtain ⟨h1, h2⟩ := highG_up l (max u (hRun rs x.run)) (by omega)
    have e : highG rs u (x :: l) = highG rs (max u (hRun rs x.run)) l := rfl
    have a1 : max (upZ u) (upZ (hRun rs x.run)) = upZ (max u (hRun rs x.run)) := by
      unfold upZ; split <;> split <;> split <;> omega
    have a2 : max (u - upZ u) (hRun rs x.run - upZ (hRun rs x.run)) = max u (hRun rs x.run) - upZ (max u (hRun rs x.run)) := by
      unfold upZ; split <;> split <;> split <;> omega
    simp only [List.foldl_cons]
    rw [a1, a2, h1, h2, e]
    exact ⟨rfl, rfl⟩
theorem highG_bd : ∀ (l : List Gl) (u : Int), 0 ≤ u → u ≤ 1073741824 → 0 ≤ highG rs u l ∧ highG rs u l ≤ 1073741824
  | [], u, h1, h2 => ⟨h1, h2⟩
  | x :: l, u, h1, h2 => by
    have hh := hRun_bd rs x.run
    exact highG_bd l (max u (hRun rs x.run)) (by omega) (by omega)
/-- A line's highest piece, and what the strut asks: above the baseline and below it. -/
theorem line_high (g : List Gl) (s t : Nat) (u : Int) (hu : 0 ≤ u ∧ u ≤ 1073741824) :
    ∃ H, highZ u (rawL rs (partG g s t)) = H ∧ upI rs g (upZ u) s t = upZ H ∧ dnI rs g (u - upZ u) s t = H - upZ H ∧ 0 ≤ H ∧ H ≤ 1073741824 := by
  obtain ⟨h1, h2⟩ := highG_up rs (partG g s t) u hu.1
  obtain ⟨h3, h4⟩ := highG_bd rs (partG g s t) u hu.1 hu.2
  exact ⟨_, high_raw rs _ u, h1, h2, h3, h4⟩
end
/-- The pieces of all lines, a line more. -/
theorem place_line (rs : List Rn) (g : List Gl) (avail strut align : Int) (hu : 0 ≤ strut ∧ strut ≤ 1073741824) (i n : Nat) (y : Int) (h : i < g.length) : ∃ (t : Nat) (w H : Int), LineAt avail g i t w ∧ i ≤ t ∧ t ≤ g.length ∧ linesI avail g i = ⟨i, t, w⟩ :: linesI avail g (t + 1) ∧
    highZ strut (rawL rs (partG g i t)) = H ∧ 0 ≤ H ∧ H ≤ 1073741824 ∧
    (placeL rs g avail strut align n y (linesI avail g i)).1.map (pcOf rs g) = (rawL rs (partG g i t)).map (setP n (startX avail w align) (y + upZ H)) ++ (placeL rs g avail strut align (n + 1) (y + H) (linesI avail g (t + 1))).1.map (pcOf rs g) ∧
    (placeL rs g avail strut align n y (linesI avail g i)).2 = (placeL rs g avail strut align (n + 1) (y + H) (linesI avail g (t + 1))).2 := by
  obtain ⟨t, w, hl, h1, h2, h3, h4⟩ := place_step rs g avail strut align i n y h
  obtain ⟨H, g1, g2, g3, g4, g5⟩ := line_high rs g i t strut hu
  refine ⟨t, w, H, hl, h1, h2, h3, g1, g4, g5, ?_⟩
  rw [h4, g2, g3, show y + upZ H + (H - upZ H) = y + H by omega, List.map_append, line_set g i t rs n _ _ h1 h2]
  exact ⟨rfl, rfl⟩
end Go.Proofs.Ytmlnpphblicghaa
