import Derived.Test.YtmlnpphblicghaaMonoNumQ
/- Lines are placed: the document's answer by numbers: which glyphs are a piece, where it stands. No program is named here. -/
namespace Go.Proofs.Ytmlnpphblicghaa
open Go Go.RowKit
set_option linter.unusedVariables false
set_option linter.unusedSimpArgs false

theorem sumT_full' (g : List Gl) (k : Nat) (h : g.length ≤ k) (h2 : k ≤ g.length) : sumT g 0 k = sumA g := by
  rw [show k = g.length by omega]; unfold sumT; rw [List.drop_zero, Nat.sub_zero, List.take_length]
/-- A glyph's run; behind the end none. -/
def rnG (g : List Gl) (k : Nat) : Int := (g[k]?.map (·.run)).getD (-1)
theorem rnG_at (g : List Gl) (k : Nat) (h : k < g.length) : rnG g k = g[k].run := by simp [rnG, h]
def lineZ (n : Int) : Int := min (max n 0) 1073741824
theorem lineZ_bd (n : Int) : 0 ≤ lineZ n ∧ lineZ n ≤ 1073741824 := by unfold lineZ; omega
/-- The line-height of run r, held. -/
def hRun (rs : List Rn) (r : Int) : Int := lineZ ((rs[r.toNat]?.map (·.line)).getD 0)
theorem hRun_bd (rs : List Rn) (r : Int) : 0 ≤ hRun rs r ∧ hRun rs r ≤ 1073741824 := lineZ_bd _
def nRun (rs : List Rn) (r : Int) : Int := (rs[r.toNat]?.map (·.node)).getD 0
theorem upZ_bd (n : Int) (h : 0 ≤ n) : 0 ≤ upZ n ∧ upZ n ≤ n := by unfold upZ; split <;> omega
/-- Above and below a line's baseline: from glyph k to 'to', u till here. -/
def upI (rs : List Rn) (g : List Gl) (u : Int) (k to_ : Nat) : Int := ((g.drop k).take (to_ - k)).foldl (fun u x => max u (upZ (hRun rs x.run))) u
def dnI (rs : List Rn) (g : List Gl) (u : Int) (k to_ : Nat) : Int := ((g.drop k).take (to_ - k)).foldl (fun u x => max u (hRun rs x.run - upZ (hRun rs x.run))) u
section
variable (rs : List Rn) (g : List Gl) (u : Int) (k to_ : Nat)
theorem part_cons (h : k < to_) (hk : k < g.length) : (g.drop k).take (to_ - k) = g[k] :: (g.drop (k + 1)).take (to_ - (k + 1)) := by
  rw [List.drop_eq_getElem_cons hk, show to_ - k = to_ - (k + 1) + 1 by omega, List.take_succ_cons]
theorem part_none (h : to_ ≤ k) : (g.drop k).take (to_ - k) = [] := by rw [show to_ - k = 0 by omega, List.take_zero]
theorem upI_end (h : to_ ≤ k) : upI rs g u k to_ = u := by unfold upI; rw [part_none g k to_ h]; rfl
theorem dnI_end (h : to_ ≤ k) : dnI rs g u k to_ = u := by unfold dnI; rw [part_none g k to_ h]; rfl
theorem upI_step (h : k < to_) (hk : k < g.length) : upI rs g u k to_ = upI rs g (max u (upZ (hRun rs g[k].run))) (k + 1) to_ := by unfold upI; rw [part_cons g k to_ h hk]; rfl
theorem dnI_step (h : k < to_) (hk : k < g.length) : dnI rs g u k to_ = dnI rs g (max u (hRun rs g[k].run - upZ (hRun rs g[k].run))) (k + 1) to_ := by unfold dnI; rw [part_cons g k to_ h hk]; rfl
end
theorem foldl_max {f : Gl → Int} : ∀ (l : List Gl) (u : Int), u ≤ l.foldl (fun u x => max u (f x)) u ∧ (∀ x ∈ l, f x ≤ l.foldl (fun u x => max u (f x)) u) ∧ (l.foldl (fun u x => max u (f x)) u = u ∨ ∃ x ∈ l, l.foldl (fun u x => max u (f x)) u = f x)
  | [], u => ⟨Int.le_refl _, fun x hx => by simp at hx, .inl rfl⟩
  | x :: l, u => by
    obtain ⟨h1, h2, h3⟩ := foldl_max l (max u (f x))
    simp only [List.foldl_cons]
    refine ⟨Int.le_trans (Int.le_max_left u (f x)) h1, fun y hy => ?_, ?_⟩
    · rcases List.mem_cons.1 hy with rfl | hy
      · exact Int.le_trans (Int.le_max_right u (f y)) h1
      · exact h2 y hy
    · rcases h3 with h3 | ⟨y, hy, h3⟩
      · rw [h3]
        rcases Int.le_total u (f x) with h | h
        · exact .inr ⟨x, by simp, Int.max_eq_right h⟩
        · exact .inl (Int.max_eq_left h)
      · exact .inr ⟨y, by simp [hy], h3⟩
theorem upI_max (rs : List Rn) (g : List Gl) (u : Int) (k to_ : Nat) : u ≤ upI rs g u k to_ ∧ (∀ j (hj : j < g.length), k ≤ j → j < to_ → upZ (hRun rs g[j].run) ≤ upI rs g u k to_) ∧ (upI rs g u k to_ = u ∨ ∃ r, upI rs g u k to_ = upZ (hRun rs r)) := by
  obtain ⟨h1, h2, h3⟩ := foldl_max (f := fun x => upZ (hRun rs x.run)) ((g.drop k).take (to_ - k)) u
  refine ⟨h1, fun j hj h4 h5 => h2 g[j] ?_, ?_⟩
  · rw [List.mem_iff_getElem]
    refine ⟨j - k, by rw [List.length_take, List.length_drop]; omega, ?_⟩
    rw [List.getElem_take, List.getElem_drop]
    congr 1; omega
  · rcases h3 with h3 | ⟨x, -, h3⟩
    · exact .inl h3
    · exact .inr ⟨_, h3⟩
theorem dnI_max (rs : List Rn) (g : List Gl) (u : Int) (k to_ : Nat) : u ≤ dnI rs g u k to_ ∧ (∀ j (hj : j < g.length), k ≤ j → j < to_ → hRun rs g[j].run - upZ (hRun rs g[j].run) ≤ dnI rs g u k to_) ∧ (dnI rs g u k to_ = u ∨ ∃ r, dnI rs g u k to_ = hRun rs r - upZ (hRun rs r)) := by
  obtain ⟨h1, h2, h3⟩ := foldl_max (f := fun x => hRun rs x.run - upZ (hRun rs x.run)) ((g.drop k).take (to_ - k)) u
  refine ⟨h1, fun j hj h4 h5 => h2 g[j] ?_, ?_⟩
  · rw [List.mem_iff_getElem]
    refine ⟨j - k, by rw [List.length_take, List.length_drop]; omega, ?_⟩
    rw [List.getElem_take, List.getElem_drop]
    congr 1; omega
  · rcases h3 with h3 | ⟨x, -, h3⟩
    · exact .inl h3
    · exact .inr ⟨_, h3⟩
theorem upI_bd (rs : List Rn) (g : List Gl) (u : Int) (k to_ : Nat) (hu : 0 ≤ u ∧ u ≤ 1073741824) : 0 ≤ upI rs g u k to_ ∧ upI rs g u k to_ ≤ 1073741824 := by
  obtain ⟨h1, -, h3⟩ := upI_max rs g u k to_
  rcases h3 with h3 | ⟨r, h3⟩
  · omega
  · have h4 := hRun_bd rs r
    have h5 := upZ_bd _ h4.1
    omega
theorem dnI_bd (rs : List Rn) (g : List Gl) (u : Int) (k to_ : Nat) (hu : 0 ≤ u ∧ u ≤ 1073741824) : 0 ≤ dnI rs g u k to_ ∧ dnI rs g u k to_ ≤ 1073741824 := by
  obtain ⟨h1, -, h3⟩ := dnI_max rs g u k to_
  rcases h3 with h3 | ⟨r, h3⟩
  · omega
  · have h4 := hRun_bd rs r
    have h5 := upZ_bd _ h4.1
    omega
/-- How many glyphs ahead are of run r. -/
def sameN (r : Int) : List Gl → Nat
  | [] => 0
  | x :: l => if x.run = r then sameN r l + 1 else 0
theorem sameN_le (r : Int) : ∀ l, sameN r l ≤ l.length
  | [] => Nat.le_refl _
  | x :: l => by have := sameN_le r l; simp only [sameN, List.length_cons]; split <;> omega
theorem sameN_in (r : Int) : ∀ (l : List Gl) (k : Nat) (h : k < l.length), k < sameN r l → l[k].run = r
  | x :: l, k, h, hk => by
    simp only [sameN] at hk
    split at hk
    · cases k with
      | zero => assumption
      | succ k => exact sameN_in r l k (by simpa using h) (by omega)
    · omega
theorem sameN_out (r : Int) : ∀ (l : List Gl) (h : sameN r l < l.length), l[sameN r l].run ≠ r
  | x :: l, h => by
    by_cases hx : x.run = r
    · have e : sameN r (x :: l) = sameN r l + 1 := by simp [sameN, hx]
      have := sameN_out r l (by rw [e, List.length_cons] at h; omega)
      simpa [e] using this
    · have e : sameN r (x :: l) = 0 := by simp [sameN, hx]
      simpa [e] using hx
/-- Where the glyphs of one run that begin at i end. -/
def grpE (g : List Gl) (i to_ : Nat) : Nat := i + sameN (rnG g i) ((g.drop i).take (to_ - i))
theorem grpE_spec (g : List Gl) (i to_ : Nat) (hi : i < to_) (ht : to_ ≤ g.length) : i < grpE g i to_ ∧ grpE g i to_ ≤ to_ ∧ (∀ k, i ≤ k → k < grpE g i to_ → rnG g k = rnG g i) ∧ (grpE g i to_ < to_ → rnG g (grpE g i to_) ≠ rnG g i) := by
  have hl := sameN_le (rnG g i) ((g.drop i).take (to_ - i))
  have hlen : ((g.drop i).take (to_ - i)).length = to_ - i := by rw [List.length_take, List.length_drop]; omega
  have h1 := sameN_in (rnG g i) ((g.drop i).take (to_ - i))
  have h2 := sameN_out (rnG g i) ((g.drop i).take (to_ - i))
  have hat : ∀ k (h : k < ((g.drop i).take (to_ - i)).length), ((g.drop i).take (to_ - i))[k].run = rnG g (i + k) := fun k h => by
    rw [List.getElem_take, List.getElem_drop, rnG_at]
  have h0 : 0 < sameN (rnG g i) ((g.drop i).take (to_ - i)) := by
    rw [part_cons g i to_ hi (by omega), rnG_at g i (by omega)]
    simp [sameN]
  unfold grpE
  refine ⟨by omega, by omega, fun k h3 h4 => ?_, fun h3 => ?_⟩
  · have := h1 (k - i) (by omega) (by omega)
    rwa [hat, show i + (k - i) = k by omega] at this
  · have := h2 (by omega)
    rwa [hat] at this
theorem grpE_is (g : List Gl) (i to_ k : Nat) (hi : i < to_) (ht : to_ ≤ g.length) (h1 : i ≤ k) (h2 : k ≤ to_) (h3 : ∀ j, i ≤ j → j < k → rnG g j = rnG g i) (h4 : k < to_ → rnG g k ≠ rnG g i) : k = grpE g i to_ := by
  obtain ⟨e1, e2, e3, e4⟩ := grpE_spec g i to_ hi ht
  rcases Nat.lt_trichotomy k (grpE g i to_) with h | h | h
  · exact absurd (e3 k h1 h) (h4 (by omega))
  · exact h
  · exact absurd (h3 _ (by omega) h) (e4 (by omega))
/-- A piece: glyphs lo to hi of line ln, from x on, on the baseline base. -/
structure Iv where
  lo : Nat
  hi : Nat
  ln : Nat
  x : Int
  base : Int
def ivF (g : List Gl) (base : Int) (ln to_ : Nat) : Nat → Nat → Int → List Iv
  | 0, _, _ => []
  | f + 1, i, x => if i < to_ then ⟨i, grpE g i to_, ln, x, base⟩ :: ivF g base ln to_ f (grpE g i to_) (x + sumT g i (grpE g i to_)) else []
theorem ivF_fuel (g : List Gl) (base : Int) (ln to_ : Nat) (ht : to_ ≤ g.length) : ∀ (f f' i : Nat) (x : Int), to_ - i ≤ f → to_ - i ≤ f' → ivF g base ln to_ f i x = ivF g base ln to_ f' i x
  | 0, 0, i, x, _, _ => rfl
  | 0, f' + 1, i, x, h, _ => by rw [ivF, ivF, if_neg (by omega)]
  | f + 1, 0, i, x, _, h => by rw [ivF, ivF, if_neg (by omega)]
  | f + 1, f' + 1, i, x, h, h' => by
    rw [ivF, ivF]
    split
    · rename_i hi
      have := grpE_spec g i to_ hi ht
      rw [ivF_fuel g base ln to_ ht f f' _ _ (by omega) (by omega)]
    · rfl
/-- A line's pieces from glyph i on, from x on. -/
def ivI (g : List Gl) (base : Int) (ln to_ i : Nat) (x : Int) : List Iv := ivF g base ln to_ (to_ - i) i x
theorem ivI_end (g : List Gl) (base : Int) (ln to_ i : Nat) (x : Int) (h : to_ ≤ i) : ivI g base ln to_ i x = [] := by unfold ivI; rw [show to_ - i = 0 by omega]; rfl
theorem ivI_step (g : List Gl) (base : Int) (ln to_ i : Nat) (x : Int) (h : i < to_) (ht : to_ ≤ g.length) : ivI g base ln to_ i x = ⟨i, grpE g i to_, ln, x, base⟩ :: ivI g base ln to_ (grpE g i to_) (x + sumT g i (grpE g i to_)) := by
  have := grpE_spec g i to_ h ht
  unfold ivI
  obtain ⟨f, hf⟩ : ∃ f, to_ - i = f + 1 := ⟨to_ - i - 1, by omega⟩
  rw [hf, ivF, if_pos h, ivF_fuel g base ln to_ ht f (to_ - grpE g i to_) _ _ (by omega) (by omega)]
def startX (avail w : Int) (align : Int) : Int := if 0 < avail - w ∧ align = 1 then avail - w else if 0 < avail - w ∧ align = 2 then (avail - w) / 2 else 0
/-- All lines from line n on, the first at y: the pieces, and where the next one would stand. -/
def placeL (rs : List Rn) (g : List Gl) (avail strut align : Int) : Nat → Int → List Sp → List Iv × Int
  | _, y, [] => ([], y)
  | n, y, s :: L =>
    let up := upI rs g (upZ strut) s.sf.toNat s.st.toNat
    let dn := dnI rs g (strut - upZ strut) s.sf.toNat s.st.toNat
    let r := placeL rs g avail strut align (n + 1) (y + up + dn) L
    (ivI g (y + up) n s.st.toNat s.sf.toNat (startX avail s.sw align) ++ r.1, r.2)
/-- A piece as it is told. -/
structure Pc where
  node : Int
  x : Int
  y : Int
  w : Int
  h : Int
  from_ : Int
  to_ : Int
  line : Int
  deriving DecidableEq
def atG (g : List Gl) (k : Nat) : Int := (g[k]?.map (·.at_)).getD 0
theorem atG_at (g : List Gl) (k : Nat) (h : k < g.length) : atG g k = g[k].at_ := by simp [atG, h]
def pcOf (rs : List Rn) (g : List Gl) (v : Iv) : Pc :=
  ⟨nRun rs (rnG g v.lo), v.x, v.base - upZ (hRun rs (rnG g v.lo)), sumT g v.lo v.hi, hRun rs (rnG g v.lo), atG g v.lo, atG g (v.hi - 1) + 1, v.ln⟩
/-- The answer. -/
def placeZ (zs : List Int) (rs : List Rn) (avail line align : Int) : List Pc × Int :=
  let g := glyphsL zs rs
  let r := placeL rs g avail (lineZ line) align 0 0 (linesL avail g)
  (r.1.map (pcOf rs g), r.2)
end Go.Proofs.Ytmlnpphblicghaa
