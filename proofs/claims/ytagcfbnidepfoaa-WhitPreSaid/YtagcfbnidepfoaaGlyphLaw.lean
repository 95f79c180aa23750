import Derived.Test.YtagcfbnidepfoaaGlyphNum
/- What the laws of whit ask of glyphs. No program is named here. -/
namespace Go.Proofs.Ytagcfbnidepfoaa
open Go Go.RowKit
set_option linter.unusedVariables false
set_option linter.unusedSimpArgs false

/-- Of a glyph of some texts: its run, its byte, and what kind it may be. -/
theorem inRuns_what {zs : List Int} {rs : List Rn} {g : Gl} (h : InRuns zs rs g) : ∃ (r i : Nat) (hr : r < rs.length) (hi : i < rs[r].text.size), g.run = r ∧ g.at_ = i ∧ 0 ≤ g.adv ∧ g.adv ≤ 65536 ∧
    isB g = (!decide (rs[r].white = 2) && isW rs[r].text[i]) ∧ decide (g.kind = 4) = (decide (rs[r].white = 2) && decide ((rs[r].text[i].toNat : Int) = 10)) ∧ (g.kind = 3 → rs[r].white = 1) := by
  obtain ⟨r, i, hr, hi, rfl⟩ := h
  exact ⟨r, i, hr, hi, (rawG_run _ _ _ _ _).1, (rawG_run _ _ _ _ _).2, (rawG_adv _ _ _ _ _).1, (rawG_adv _ _ _ _ _).2, rawG_isB _ _ _ _ _, rawG_break _ _ _ _ _, rawG_hold _ _ _ _ _⟩
/- The order of glyphs. -/
def Ahead (a b : Gl) : Prop := a.run < b.run ∨ (a.run = b.run ∧ a.at_ < b.at_)
theorem rawRun_at (zs : List Int) (r w : Int) : ∀ (l : List UInt8) (i : Int) (g : Gl), g ∈ rawRun zs r w i l → g.run = r ∧ i ≤ g.at_
  | b :: l, i, g, hg => by
    simp only [rawRun, List.mem_cons] at hg
    rcases hg with rfl | hg
    · have := rawG_run zs r w i b
      exact ⟨this.1, by omega⟩
    · have := rawRun_at zs r w l (i + 1) g hg
      exact ⟨this.1, by omega⟩
theorem rawRun_order (zs : List Int) (r w : Int) : ∀ (l : List UInt8) (i : Int), (rawRun zs r w i l).Pairwise Ahead
  | [], i => List.Pairwise.nil
  | b :: l, i => by
    refine List.Pairwise.cons (fun g hg => ?_) (rawRun_order zs r w l (i + 1))
    have h1 := rawRun_at zs r w l (i + 1) g hg
    have h2 := rawG_run zs r w i b
    exact .inr ⟨by rw [h2.1, h1.1], by omega⟩
theorem rawAll_run (zs : List Int) : ∀ (rs : List Rn) (r : Int) (g : Gl), g ∈ rawAll zs r rs → r ≤ g.run
  | x :: l, r, g, hg => by
    simp only [rawAll, List.mem_append] at hg
    rcases hg with hg | hg
    · have := (rawRun_at zs r x.white _ 0 g hg).1; omega
    · have := rawAll_run zs l (r + 1) g hg; omega
theorem rawAll_order (zs : List Int) : ∀ (rs : List Rn) (r : Int), (rawAll zs r rs).Pairwise Ahead
  | [], r => List.Pairwise.nil
  | x :: l, r => by
    refine List.pairwise_append.2 ⟨rawRun_order _ _ _ _ _, rawAll_order zs l (r + 1), fun a ha b hb => .inl ?_⟩
    have h1 := (rawRun_at zs r x.white _ 0 a ha).1
    have h2 := rawAll_run zs l (r + 1) b hb
    omega
theorem glyphsL_order (zs : List Int) (rs : List Rn) (i : Nat) (h : i + 1 < (glyphsL zs rs).length) : Ahead (glyphsL zs rs)[i] (glyphsL zs rs)[i + 1] :=
  List.pairwise_iff_getElem.1 (List.Pairwise.sublist (glyphsL_sub zs rs) (rawAll_order zs rs 0)) i (i + 1) (by omega) h (by omega)
/- Blanks' neighbours. -/
def NoTwo : List Gl → Prop
  | [] => True
  | g :: l => (isB g = true → ∀ h ∈ l.head?, isB h = false) ∧ NoTwo l
theorem colG_head : ∀ (l : List Gl) (h : Gl), h ∈ (colG true l).head? → isB h = false
  | g :: l, h, hh => by
    simp only [colG, Bool.true_and] at hh
    split at hh
    · exact colG_head l h hh
    · rename_i hb
      simp at hh
      subst hh
      simpa using hb
theorem colG_two : ∀ (l : List Gl) (p : Bool), NoTwo (colG p l)
  | [], p => trivial
  | g :: l, p => by
    simp only [colG]
    split
    · exact colG_two l true
    · refine ⟨fun hg h hh => ?_, colG_two l (isB g)⟩
      rw [hg] at hh
      exact colG_head l h hh
/-- In a row: each blank has ink on both sides; 'left': ink stands ahead. -/
def okT : Bool → List Gl → Prop
  | _, [] => True
  | left, g :: l => (isB g = true → left = true ∧ ∃ h ∈ l.head?, h.kind = 1) ∧ okT (decide (g.kind = 1)) l
theorem trimG_ok : ∀ (l : List Gl) (e left : Bool), (∀ g ∈ l, g.kind = 1 ∨ g.kind = 2 ∨ g.kind = 3 ∨ g.kind = 4) → NoTwo l → ((∃ h ∈ l.head?, isB h = true) → e = true ∨ left = true) → okT left (trimG e l)
  | [], e, left, _, _, _ => trivial
  | g :: l, e, left, hk, hn, hc => by
    have hkl : ∀ g ∈ l, g.kind = 1 ∨ g.kind = 2 ∨ g.kind = 3 ∨ g.kind = 4 := fun x hx => hk x (List.mem_cons_of_mem _ hx)
    have hkg := hk g List.mem_cons_self
    cases hb : isB g with
    | false =>
      simp only [trimG, hb, Bool.false_and, Bool.false_eq_true, if_false]
      refine ⟨fun h => absurd h (by rw [hb]; decide), ?_⟩
      refine trimG_ok l _ _ hkl hn.2 fun _ => ?_
      have : g.kind = 1 ∨ g.kind = 4 := by
        simp only [isB, decide_eq_false_iff_not] at hb
        omega
      rcases this with h | h <;> simp [h]
    | true =>
      have hnb : ∀ h ∈ l.head?, isB h = false := hn.1 hb
      have hk4 : decide (g.kind = 4) = false := by
        simp only [isB, decide_eq_true_eq] at hb
        simp; omega
      have hvac : ∀ lf, (∃ h ∈ l.head?, isB h = true) → false = true ∨ lf = true := fun lf ⟨h, hh, h1⟩ => by rw [hnb h hh] at h1; cases h1
      simp only [trimG, hb, Bool.true_and, hk4]
      split
      · exact trimG_ok l false left hkl hn.2 (hvac _)
      · rename_i hx
        simp only [Bool.or_eq_true, not_or, Bool.not_eq_true] at hx
        obtain ⟨he, hl⟩ := hx
        cases l with
        | nil => simp [endsG] at hl
        | cons h r =>
          simp only [endsG, decide_eq_false_iff_not] at hl
          have hbh := hnb h (by simp)
          have h1 : h.kind = 1 := by
            have := hkl h List.mem_cons_self
            simp only [isB, decide_eq_false_iff_not] at hbh
            omega
          refine ⟨fun _ => ⟨?_, h, ?_, h1⟩, ?_⟩
          · rcases hc ⟨g, by simp, hb⟩ with h2 | h2
            · rw [he] at h2; cases h2
            · exact h2
          · simp [trimG, hbh]
          · exact trimG_ok (h :: r) false _ hkl hn.2 (hvac _)
theorem okT_at : ∀ (l : List Gl) (left : Bool), okT left l → ∀ (i : Nat) (h : i < l.length), isB l[i] = true → (i = 0 → left = true) ∧ (∀ h0 : 0 < i, (l[i - 1]'(by omega)).kind = 1) ∧ ∃ h1 : i + 1 < l.length, l[i + 1].kind = 1
  | g :: l, left, ho, 0, h, hb => by
    obtain ⟨h1, x, hx, h2⟩ := ho.1 hb
    refine ⟨fun _ => h1, fun h0 => absurd h0 (by omega), ?_⟩
    cases l with
    | nil => simp at hx
    | cons y r =>
      simp at hx
      subst hx
      exact ⟨by simp, h2⟩
  | g :: l, left, ho, i + 1, h, hb => by
    obtain ⟨h1, h2, h3, h4⟩ := okT_at l _ ho.2 i (by simpa using h) (by simpa using hb)
    refine ⟨fun h0 => absurd h0 (by omega), fun _ => ?_, by simpa using h3, by simpa using h4⟩
    cases i with
    | zero => simpa using h1 rfl
    | succ i => simpa using h2 (by omega)
theorem glyphsL_blank (zs : List Int) (rs : List Rn) (i : Nat) (h : i < (glyphsL zs rs).length) (hb : isB (glyphsL zs rs)[i] = true) :
    (∃ h0 : 0 < i, ((glyphsL zs rs)[i - 1]'(by omega)).kind = 1) ∧ ∃ h1 : i + 1 < (glyphsL zs rs).length, (glyphsL zs rs)[i + 1].kind = 1 := by
  have hk : ∀ g ∈ colG false (rawAll zs 0 rs), g.kind = 1 ∨ g.kind = 2 ∨ g.kind = 3 ∨ g.kind = 4 := fun g hg => by
    obtain ⟨r, k, _, _, e⟩ := mem_rawAll zs rs 0 g ((colG_sub _ _).subset hg)
    rw [e]; exact rawG_kind _ _ _ _ _
  have ho : okT false (glyphsL zs rs) := trimG_ok _ true false hk (colG_two _ _) (fun _ => .inl rfl)
  obtain ⟨h1, h2, h3⟩ := okT_at _ _ ho i h hb
  refine ⟨?_, h3⟩
  rcases Nat.eq_zero_or_pos i with h0 | h0
  · exact absurd (h1 h0) (by decide)
  · exact ⟨h0, h2 h0⟩
/- How many glyphs are of bytes that are not white. -/
def inkG (rs : List Rn) (g : Gl) : Bool := !isW (byteAt rs g)
theorem colG_count (P : Gl → Bool) : ∀ (l : List Gl) (p : Bool), (∀ g ∈ l, isB g = true → P g = false) → (colG p l).countP P = l.countP P
  | [], p, _ => rfl
  | g :: l, p, h => by
    have hl : ∀ g ∈ l, isB g = true → P g = false := fun x hx => h x (List.mem_cons_of_mem _ hx)
    simp only [colG]
    split
    · rename_i hx
      rw [List.countP_cons_of_neg (by rw [h g List.mem_cons_self (by simp at hx; exact hx.2)]; simp)]
      exact colG_count P l true hl
    · rw [List.countP_cons, List.countP_cons, colG_count P l _ hl]
theorem trimG_count (P : Gl → Bool) : ∀ (l : List Gl) (e : Bool), (∀ g ∈ l, isB g = true → P g = false) → (trimG e l).countP P = l.countP P
  | [], e, _ => rfl
  | g :: l, e, h => by
    have hl : ∀ g ∈ l, isB g = true → P g = false := fun x hx => h x (List.mem_cons_of_mem _ hx)
    simp only [trimG]
    split
    · rename_i hx
      rw [List.countP_cons_of_neg (by rw [h g List.mem_cons_self (by simp at hx; exact hx.1)]; simp)]
      exact trimG_count P l _ hl
    · rw [List.countP_cons, List.countP_cons, trimG_count P l _ hl]
def inkRun (l : List UInt8) : Nat := l.countP fun b => !isW b
def inkAll (rs : List Rn) : Nat := (rs.map fun x => inkRun (bytesOf x.text)).sum
theorem byteAt_raw (zs : List Int) (rs : List Rn) (r i : Nat) (w : Int) (hr : r < rs.length) (hi : i < rs[r].text.size) (b : UInt8) : byteAt rs (rawG zs r w i b) = rs[r].text[i] := by
  have h := rawG_run zs r w i b
  unfold byteAt
  rw [h.1, h.2]
  have hl : i < (bytesOf rs[r].text).length := by rw [bytesOf_length]; exact hi
  simp [List.getElem?_eq_getElem hr, List.getD, List.getElem?_eq_getElem hl]
  exact bytesOf_get _ _ hi
theorem countP_rawRun (zs : List Int) (r w : Int) (P : Gl → Bool) (q : UInt8 → Bool) : ∀ (l : List UInt8) (i : Int), (∀ (k : Nat) (h : k < l.length), P (rawG zs r w (i + k) l[k]) = q l[k]) → (rawRun zs r w i l).countP P = l.countP q
  | [], i, _ => rfl
  | b :: l, i, h => by
    have h0 := h 0 (by simp)
    simp at h0
    have ih := countP_rawRun zs r w P q l (i + 1) fun k hk => by
      have := h (k + 1) (by simpa using hk)
      simp only [List.getElem_cons_succ] at this
      rw [← this]
      congr 2
      omega
    rw [rawRun, List.countP_cons, List.countP_cons, ih, h0]
theorem countP_rawAll (zs : List Int) (P : Gl → Bool) : ∀ (rs : List Rn) (r0 : Nat), (∀ (r i : Nat) (h : r < rs.length) (h' : i < rs[r].text.size), P (rawG zs ((r0 + r : Nat) : Int) rs[r].white i rs[r].text[i]) = !isW rs[r].text[i]) →
    (rawAll zs r0 rs).countP P = inkAll rs
  | [], r0, _ => rfl
  | x :: l, r0, h => by
    have h1 := countP_rawRun zs r0 x.white P (fun b => !isW b) (bytesOf x.text) 0 fun k hk => by
      rw [bytesOf_length] at hk
      have := h 0 k (by simp) hk
      simp at this
      rw [bytesOf_get x.text k hk]
      simpa using this
    have h2 := countP_rawAll zs P l (r0 + 1) fun r i hr hi => by
      have := h (r + 1) i (by simpa using hr) (by simpa using hi)
      simp only [List.getElem_cons_succ] at this
      rw [show r0 + 1 + r = r0 + (r + 1) by omega]
      exact this
    rw [rawAll, List.countP_append, h1]
    have e : ((r0 : Int) + 1) = ((r0 + 1 : Nat) : Int) := by omega
    rw [e, h2]
    simp [inkAll, inkRun]
theorem glyphsL_ink (zs : List Int) (rs : List Rn) : (glyphsL zs rs).countP (inkG rs) = inkAll rs := by
  have hb : ∀ g ∈ rawAll zs 0 rs, isB g = true → inkG rs g = false := fun g hg hb => by
    obtain ⟨r, i, hr, hi, e⟩ := mem_rawAll zs rs 0 g hg
    simp only [Nat.zero_add] at e
    rw [e, rawG_isB] at hb
    unfold inkG
    rw [e, byteAt_raw zs rs r i _ hr hi]
    simp at hb
    simp [hb.2]
  unfold glyphsL
  rw [trimG_count _ _ _ fun g hg => hb g ((colG_sub _ _).subset hg), colG_count _ _ _ hb]
  refine countP_rawAll zs _ rs 0 fun r i hr hi => ?_
  unfold inkG
  rw [show ((0 + r : Nat) : Int) = (r : Int) by omega, byteAt_raw zs rs r i _ hr hi]
/-- Of a glyph of some texts: its run, its byte .., and the byte itself. -/
theorem inRuns_byte {zs : List Int} {rs : List Rn} {g : Gl} (h : InRuns zs rs g) : ∃ (r i : Nat) (hr : r < rs.length) (hi : i < rs[r].text.size), g.run = r ∧ g.at_ = i ∧ 0 ≤ g.adv ∧ byteAt rs g = rs[r].text[i] ∧
    isB g = (!decide (rs[r].white = 2) && isW rs[r].text[i]) ∧ decide (g.kind = 4) = (decide (rs[r].white = 2) && decide ((rs[r].text[i].toNat : Int) = 10)) ∧ (g.kind = 3 → rs[r].white = 1) := by
  obtain ⟨r, i, hr, hi, rfl⟩ := h
  exact ⟨r, i, hr, hi, (rawG_run _ _ _ _ _).1, (rawG_run _ _ _ _ _).2, (rawG_adv _ _ _ _ _).1, byteAt_raw _ _ _ _ _ hr hi _, rawG_isB _ _ _ _ _, rawG_break _ _ _ _ _, rawG_hold _ _ _ _ _⟩
/-- What the law asks of a glyph's kind, case by case. -/
theorem kind_cases (k w : Int) (b : UInt8) (bl : Bool) (hb : bl = (!decide (w = 2) && isW b)) (hk : bl = decide (k = 2 ∨ k = 3)) (h4 : decide (k = 4) = (decide (w = 2) && decide ((b.toNat : Int) = 10))) (h3 : k = 3 → w = 1) :
    ((w == 2) = true ∧ bl = false ∧ isW b = true ∧ ((b.toNat : Int) == 10) = true ∧ (k == 4) = true ∧ (k == 3) = false) ∨
    ((w == 2) = true ∧ bl = false ∧ isW b = true ∧ ((b.toNat : Int) == 10) = false ∧ (k == 4) = false ∧ (k == 3) = false) ∨
    ((w == 2) = true ∧ bl = false ∧ isW b = false ∧ ((b.toNat : Int) == 10) = false ∧ (k == 4) = false ∧ (k == 3) = false) ∨
    ((w == 2) = false ∧ bl = true ∧ isW b = true ∧ ((b.toNat : Int) == 10) = true ∧ (k == 4) = false ∧ (k == 3) = true ∧ (w == 1) = true) ∨
    ((w == 2) = false ∧ bl = true ∧ isW b = true ∧ ((b.toNat : Int) == 10) = true ∧ (k == 4) = false ∧ (k == 3) = false) ∨
    ((w == 2) = false ∧ bl = true ∧ isW b = true ∧ ((b.toNat : Int) == 10) = false ∧ (k == 4) = false ∧ (k == 3) = true ∧ (w == 1) = true) ∨
    ((w == 2) = false ∧ bl = true ∧ isW b = true ∧ ((b.toNat : Int) == 10) = false ∧ (k == 4) = false ∧ (k == 3) = false) ∨
    ((w == 2) = false ∧ bl = false ∧ isW b = false ∧ ((b.toNat : Int) == 10) = false ∧ (k == 4) = false ∧ (k == 3) = false) := by
  have hW : isW b = decide ((b.toNat : Int) = 32 ∨ (b.toNat : Int) = 9 ∨ (b.toNat : Int) = 10 ∨ (b.toNat : Int) = 13) := rfl
  simp only [beq_iff_eq, beq_eq_false_iff_ne]
  generalize (b.toNat : Int) = c at *
  by_cases hw : w = 2
  · have h3' : ¬ k = 3 := fun h => by have := h3 h; omega
    rw [decide_eq_true hw] at hb h4
    simp only [Bool.not_true, Bool.false_and, Bool.true_and] at hb h4
    subst hb
    by_cases h10 : c = 10
    · have : isW b = true := by rw [hW]; exact decide_eq_true (by omega)
      rw [decide_eq_true h10, decide_eq_true_eq] at h4
      simp [hw, this, h10, h4]
    · rw [decide_eq_false h10, decide_eq_false_iff_not] at h4
      cases hv : isW b <;> simp [hw, h10, h4, h3']
  · rw [decide_eq_false hw] at hb h4
    simp only [Bool.not_false, Bool.true_and, Bool.false_and, decide_eq_false_iff_not] at hb h4
    cases hv : isW b
    · rw [hv] at hb
      subst hb
      have h10 : ¬ c = 10 := fun h => by rw [hv] at hW; have := (decide_eq_false_iff_not.1 hW.symm); omega
      have hk3 : ¬ k = 3 := fun h => (decide_eq_false_iff_not.1 hk.symm) (.inr h)
      simp [hw, h10, h4, hk3]
    · rw [hv] at hb
      subst hb
      by_cases h10 : c = 10 <;> by_cases hk3 : k = 3
      · simp [hw, h10, h4, hk3, h3 hk3]
      · simp [hw, h10, h4, hk3]
      · simp [hw, h10, h4, hk3, h3 hk3]
      · simp [hw, h10, h4, hk3]
theorem countP_take {α : Type} (P : α → Bool) (l : List α) (k : Nat) (h : k < l.length) : (l.take (k + 1)).countP P = (l.take k).countP P + (if P l[k] then 1 else 0) := by
  rw [List.take_succ_eq_append_getElem h, List.countP_append]
  simp [List.countP_cons]
theorem inkAll_take (rs : List Rn) (k : Nat) (h : k < rs.length) : inkAll (rs.take (k + 1)) = inkAll (rs.take k) + inkRun (bytesOf rs[k].text) := by
  rw [List.take_succ_eq_append_getElem h]
  simp only [inkAll, List.map_append, List.sum_append, List.map_cons, List.map_nil, List.sum_cons, List.sum_nil, Nat.add_zero]
theorem inkRun_take (l : List UInt8) (k : Nat) (h : k < l.length) : inkRun (l.take (k + 1)) = inkRun (l.take k) + (if isW l[k] then 0 else 1) := by
  unfold inkRun
  rw [countP_take _ l k h]
  cases isW l[k] <;> rfl
theorem inkRun_le (l : List UInt8) : inkRun l ≤ l.length := List.countP_le_length
theorem inkAll_le : ∀ (rs : List Rn), inkAll rs ≤ sizeAll rs
  | [] => Nat.le_refl _
  | x :: l => by
    have h1 := inkAll_le l
    have h2 := inkRun_le (bytesOf x.text)
    rw [bytesOf_length] at h2
    simp only [inkAll, sizeAll, List.map_cons, List.sum_cons] at *
    omega
/-- All that the law asks of a row of glyphs. -/
structure RowFacts (zs : List Int) (rs : List Rn) (F : List Gl) : Prop where
  isin : ∀ g ∈ F, InRuns zs rs g
  blank : ∀ (i : Nat) (h : i < F.length), isB F[i] = true → (∃ h0 : 0 < i, (F[i - 1]'(by omega)).kind = 1) ∧ ∃ h1 : i + 1 < F.length, F[i + 1].kind = 1
  order : ∀ (i : Nat) (h : i + 1 < F.length), Ahead F[i] F[i + 1]
  ink : F.countP (inkG rs) = inkAll rs
  len : F.length ≤ sizeAll rs
theorem row_facts (zs : List Int) (rs : List Rn) : RowFacts zs rs (glyphsL zs rs) := ⟨glyphsL_in zs rs, glyphsL_blank zs rs, glyphsL_order zs rs, glyphsL_ink zs rs, glyphsL_length zs rs⟩
end Go.Proofs.Ytagcfbnidepfoaa
