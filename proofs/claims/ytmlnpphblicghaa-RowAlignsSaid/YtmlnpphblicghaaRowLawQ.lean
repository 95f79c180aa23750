import Derived.Test.YtmlnpphblicghaaRowGeoQ
/- Lines are placed: heights, and the three ways of aligning. No program is named here. -/
namespace Go.Proofs.Ytmlnpphblicghaa
open Go Go.RowKit
set_option linter.unusedVariables false
set_option linter.unusedSimpArgs false

theorem foldl_le {f : Gl → Int} {U : Int} : ∀ (l : List Gl) (u : Int), u ≤ U → (∀ x ∈ l, f x ≤ U) → l.foldl (fun u x => max u (f x)) u ≤ U
  | [], u, h, _ => h
  | x :: l, u, h, hx => by
    simp only [List.foldl_cons]
    exact foldl_le l _ (Int.max_le.2 ⟨h, hx x (by simp)⟩) (fun y hy => hx y (by simp [hy]))
theorem mem_part {g : List Gl} {k n : Nat} {x : Gl} (h : x ∈ (g.drop k).take n) : x ∈ g := List.mem_of_mem_drop (List.mem_of_mem_take h)
theorem upZ_mono {a b : Int} (ha : 0 ≤ a) (h : a ≤ b) : upZ a ≤ upZ b ∧ a - upZ a ≤ b - upZ b := by unfold upZ; split <;> split <;> omega
section
variable (rs : List Rn) (g : List Gl) (avail strut align : Int)
/-- All runs that show have one line-height. -/
def OneHigh (line : Int) : Prop := ∀ x ∈ g, hRun rs x.run = line
theorem up_le {line M : Int} (h : OneHigh rs g line) (h0 : 0 ≤ line) (hl : line ≤ M) (h0' : 0 ≤ strut) (hs : strut ≤ M) (s t : Nat) : upI rs g (upZ strut) s t ≤ upZ M ∧ dnI rs g (strut - upZ strut) s t ≤ M - upZ M := by
  have h1 := upZ_mono h0 hl
  have h2 := upZ_mono h0' hs
  refine ⟨foldl_le _ _ h2.1 fun x hx => ?_, foldl_le _ _ h2.2 fun x hx => ?_⟩
  · rw [h x (mem_part hx)]; exact h1.1
  · rw [h x (mem_part hx)]; exact h1.2
theorem place_low {line M : Int} (h : OneHigh rs g line) (h0 : 0 ≤ line) (hl : line ≤ M) (h0' : 0 ≤ strut) (hs : strut ≤ M) : ∀ (f i n : Nat) (y : Int), g.length - i ≤ f → (placeL rs g avail strut align n y (linesI avail g i)).2 ≤ y + (linesI avail g i).length * M
  | 0, i, n, y, hf => by rw [place_end rs g avail strut align i n y (by omega), linesI_end avail g i (by omega)]; simp
  | f + 1, i, n, y, hf => by
    rcases Nat.lt_or_ge i g.length with hi | hi
    · obtain ⟨t, w, hL, h1, h2, h3, h4⟩ := place_step rs g avail strut align i n y hi
      rw [h4, h3]
      have := place_low h h0 hl h0' hs f (t + 1) (n + 1) (y + upI rs g (upZ strut) i t + dnI rs g (strut - upZ strut) i t) (by omega)
      obtain ⟨h5, h6⟩ := up_le rs g strut h h0 hl h0' hs i t
      rw [List.length_cons]
      have e : ((((linesI avail g (t + 1)).length + 1 : Nat) : Int)) * M = ((linesI avail g (t + 1)).length : Int) * M + M := by rw [Int.natCast_add, Int.add_mul]; simp
      rw [e]
      simp only
      omega
    · rw [place_end rs g avail strut align i n y hi, linesI_end avail g i hi]; simp
/-- One line-height, the strut the same: lines just so high. -/
theorem place_even (h : OneHigh rs g strut) (h0 : 0 ≤ strut) (f i n : Nat) (y : Int) (hf : g.length - i ≤ f) : (placeL rs g avail strut align n y (linesI avail g i)).2 = y + (linesI avail g i).length * strut := by
  have h1 := place_low rs g avail strut align h h0 (Int.le_refl _) h0 (Int.le_refl _) f i n y hf
  have h2 := place_high rs g avail strut align h0 f i n y hf
  omega
theorem up_even (h : OneHigh rs g strut) (h0 : 0 ≤ strut) (s t : Nat) : upI rs g (upZ strut) s t = upZ strut ∧ dnI rs g (strut - upZ strut) s t = strut - upZ strut := by
  have h1 := up_le rs g strut h h0 (Int.le_refl _) h0 (Int.le_refl _) s t
  have h2 := (upI_max rs g (upZ strut) s t).1
  have h3 := (dnI_max rs g (strut - upZ strut) s t).1
  omega
theorem place_rows (h : OneHigh rs g strut) (h0 : 0 ≤ strut) : ∀ (f i n : Nat) (y : Int), g.length - i ≤ f → ∀ v ∈ (placeL rs g avail strut align n y (linesI avail g i)).1, v.base - upZ strut = y + ((v.ln : Int) - n) * strut ∧ hRun rs (rnG g v.lo) = strut
  | 0, i, n, y, hf, v, hv => by rw [place_end rs g avail strut align i n y (by omega)] at hv; simp at hv
  | f + 1, i, n, y, hf, v, hv => by
    rcases Nat.lt_or_ge i g.length with hi | hi
    · obtain ⟨t, w, hL, h1, h2, h3, h4⟩ := place_step rs g avail strut align i n y hi
      have h5 := up_even rs g strut h h0 i t
      rw [h4] at hv
      simp only [List.mem_append] at hv
      rcases hv with hv | hv
      · have h8 := ivI_mem g _ n t h2 t i _ (by omega) v hv
        have k1 := h8.base
        have k2 := h8.ln
        have k3 := h8.lt
        have k4 := h8.hi
        refine ⟨by rw [k1, k2, Int.sub_self, Int.zero_mul]; omega, ?_⟩
        rw [rnG_at g v.lo (by omega)]
        exact h _ (List.getElem_mem (by omega))
      · obtain ⟨k1, k2⟩ := place_rows h h0 f (t + 1) (n + 1) _ (by omega) v hv
        refine ⟨?_, k2⟩
        have e : ((v.ln : Int) - n) * strut = ((v.ln : Int) - (n + 1 : Nat)) * strut + strut := by rw [show (v.ln : Int) - n = ((v.ln : Int) - (n + 1 : Nat)) + 1 by omega, Int.add_mul, Int.one_mul]
        rw [e, k1]
        omega
    · rw [place_end rs g avail strut align i n y hi] at hv; simp at hv
/- Aligning. -/
def movedV (d : Int) (v : Iv) : Iv := { v with x := v.x + d }
theorem ivI_moved (base : Int) (ln to_ : Nat) (ht : to_ ≤ g.length) (d : Int) : ∀ (n i : Nat) (x : Int), to_ - i ≤ n → ivI g base ln to_ i (x + d) = (ivI g base ln to_ i x).map (movedV d)
  | 0, i, x, hn => by rw [ivI_end g base ln to_ i _ (by omega), ivI_end g base ln to_ i _ (by omega)]; rfl
  | n + 1, i, x, hn => by
    rcases Nat.lt_or_ge i to_ with h | h
    · obtain ⟨e1, e2, e3, e4⟩ := grpE_spec g i to_ h ht
      rw [ivI_step g base ln to_ i _ h ht, ivI_step g base ln to_ i x h ht, List.map_cons, ← ivI_moved base ln to_ ht d n _ _ (by omega)]
      congr 1
      rw [show x + d + sumT g i (grpE g i to_) = x + sumT g i (grpE g i to_) + d by omega]
    · rw [ivI_end g base ln to_ i _ h, ivI_end g base ln to_ i _ h]; rfl
/-- The width of line k. -/
def wdL (L : List Sp) (k : Nat) : Int := (L[k]?.map (·.sw)).getD 0
theorem wdL_zero (s : Sp) (L : List Sp) : wdL (s :: L) 0 = s.sw := rfl
theorem wdL_succ (s : Sp) (L : List Sp) (k : Nat) : wdL (s :: L) (k + 1) = wdL L k := by simp [wdL]
theorem place_aligned : ∀ (f i n : Nat) (y : Int), g.length - i ≤ f → (placeL rs g avail strut align n y (linesI avail g i)).1 = (placeL rs g avail strut 0 n y (linesI avail g i)).1.map (fun v => movedV (startX avail (wdL (linesI avail g i) (v.ln - n)) align) v) ∧
    (placeL rs g avail strut align n y (linesI avail g i)).2 = (placeL rs g avail strut 0 n y (linesI avail g i)).2
  | 0, i, n, y, hf => by rw [place_end rs g avail strut align i n y (by omega), place_end rs g avail strut 0 i n y (by omega)]; exact ⟨rfl, rfl⟩
  | f + 1, i, n, y, hf => by
    rcases Nat.lt_or_ge i g.length with hi | hi
    · have h1 := lineAt avail g i
      have hle := h1.le
      have h2 := h1.len hi
      rw [linesI_step avail g i hi]
      generalize endL avail (g.drop i) i 0 none = p at *
      obtain ⟨t, w⟩ := p
      simp only at h1 hle h2 ⊢
      obtain ⟨k1, k2⟩ := place_aligned f (t + 1) (n + 1) (y + upI rs g (upZ strut) i t + dnI rs g (strut - upZ strut) i t) (by omega)
      simp only [placeL, Int.toNat_natCast]
      refine ⟨?_, k2⟩
      rw [k1, List.map_append]
      congr 1
      · have e0 : startX avail w 0 = 0 := by simp [startX]
        rw [e0]
        have := ivI_moved g (y + upI rs g (upZ strut) i t) n t h2 (startX avail w align) t i 0 (by omega)
        rw [Int.zero_add] at this
        rw [this]
        refine List.map_congr_left fun v hv => ?_
        have h3 := (ivI_mem g _ n t h2 t i _ (by omega) v hv).ln
        rw [h3, Nat.sub_self, wdL_zero]
      · refine List.map_congr_left fun v hv => ?_
        have h3 : n + 1 ≤ v.ln := by
          have hge : ∀ (f i n : Nat) (y : Int), g.length - i ≤ f → ∀ v ∈ (placeL rs g avail strut 0 n y (linesI avail g i)).1, n ≤ v.ln := by
            intro f
            induction f with
            | zero => intro i n y hf v hv; rw [place_end rs g avail strut 0 i n y (by omega)] at hv; simp at hv
            | succ f ih =>
              intro i n y hf v hv
              rcases Nat.lt_or_ge i g.length with hi | hi
              · obtain ⟨t, w, hL, q1, q2, q3, q4⟩ := place_step rs g avail strut 0 i n y hi
                rw [q4] at hv
                simp only [List.mem_append] at hv
                rcases hv with hv | hv
                · have := (ivI_mem g _ n t q2 t i _ (by omega) v hv).ln; omega
                · have := ih (t + 1) (n + 1) _ (by omega) v hv; omega
              · rw [place_end rs g avail strut 0 i n y hi] at hv; simp at hv
          exact hge g.length (t + 1) (n + 1) _ (by omega) v hv
        rw [show v.ln - n = (v.ln - (n + 1)) + 1 by omega, wdL_succ]
    · rw [place_end rs g avail strut align i n y hi, place_end rs g avail strut 0 i n y hi]; exact ⟨rfl, rfl⟩
end
end Go.Proofs.Ytmlnpphblicghaa
