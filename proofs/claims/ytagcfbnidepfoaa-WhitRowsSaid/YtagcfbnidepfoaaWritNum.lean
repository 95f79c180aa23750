import Derived.Test.YtagcfbnidepfoaaGlyphStep
/- Glyphs, one by one, with a row of blanks that waits: what is left to do. No program is named here. -/
namespace Go.Proofs.Ytagcfbnidepfoaa
open Go Go.RowKit
set_option linter.unusedVariables false
set_option linter.unusedSimpArgs false

structure Wr where
  cur : List Gl
  row : Gl
abbrev gl0 : Gl := ⟨0, 0, 0, 0⟩
/-- There is a glyph ahead, and it is no break. -/
def onL (l : List Gl) : Bool := (l.getLast?.map fun g => !decide (g.kind = 4)).getD false
theorem onL_nil : onL [] = false := rfl
theorem onL_push (l : List Gl) (g : Gl) : onL (l ++ [g]) = !decide (g.kind = 4) := by simp [onL]
theorem onL_push2 (l : List Gl) (a g : Gl) : onL (l ++ [a, g]) = !decide (g.kind = 4) := by simp [onL]
theorem onL_at (l : List Gl) (m : Nat) (h : l.length = m + 1) : onL l = !decide ((l[m]'(by omega)).kind = 4) := by
  have e : l.getLast? = some (l[m]'(by omega)) := by
    rw [List.getLast?_eq_getElem?, List.getElem?_eq_getElem (by omega)]
    simp [h]
  simp [onL, e]
def addW (s : Wr) (g : Gl) : Wr :=
  if isB g then (if s.row.kind = 0 then ⟨s.cur, g⟩ else s)
  else if (decide (g.kind = 1) && !decide (s.row.kind = 0) && onL s.cur) = true then ⟨s.cur ++ [s.row] ++ [g], gl0⟩
  else ⟨s.cur ++ [g], gl0⟩
/-- What waits: nothing, or a blank. -/
def OkW (s : Wr) : Prop := s.row = gl0 ∨ isB s.row = true
def leftW (s : Wr) (l : List Gl) : List Gl := s.cur ++ trimG (!onL s.cur) (if s.row.kind = 0 then colG false l else s.row :: colG true l)
theorem isB_kind {g : Gl} (h : isB g = true) : g.kind = 2 ∨ g.kind = 3 := by simpa [isB] using h
theorem isB_no {g : Gl} (h : isB g = false) : g.kind ≠ 2 ∧ g.kind ≠ 3 := by simpa [isB] using h
theorem addW_ok (s : Wr) (g : Gl) (h : OkW s) : OkW (addW s g) := by
  unfold addW
  split
  · split
    · exact .inr (by assumption)
    · exact h
  · split <;> exact .inl rfl
theorem addW_left (s : Wr) (g : Gl) (l : List Gl) (h : OkW s) (hk : g.kind = 1 ∨ g.kind = 2 ∨ g.kind = 3 ∨ g.kind = 4) : leftW s (g :: l) = leftW (addW s g) l := by
  obtain ⟨cur, row⟩ := s
  unfold addW leftW
  cases hb : isB g with
  | true =>
    have hb' := isB_kind hb
    simp only [if_true]
    by_cases h0 : row.kind = 0
    · have hg : ¬ g.kind = 0 := by omega
      simp only [h0, if_true, if_neg hg]
      simp [colG, hb]
    · simp only [if_neg h0]
      simp [colG, hb]
  | false =>
    have hb' := isB_no hb
    simp only [Bool.false_eq_true, if_false]
    by_cases h0 : row.kind = 0
    · have hg : g.kind = 1 ∨ g.kind = 4 := by omega
      simp only [h0, if_true, decide_true, Bool.not_true, Bool.and_false, Bool.false_and, Bool.false_eq_true, if_false]
      simp [colG, hb, trimG, onL_push]
    · have hr : isB row = true := by
        rcases h with h | h
        · exact absurd (by rw [show row = gl0 from h]) h0
        · exact h
      have hr4 : ¬ row.kind = 4 := by have := isB_kind hr; omega
      by_cases h1 : g.kind = 1
      · have h4 : ¬ g.kind = 4 := by omega
        cases ho : onL cur with
        | true => simp [h0, h1, ho, colG, hb, trimG, onL_push2, hr, hr4, h4, endsG]
        | false => simp [h0, h1, ho, colG, hb, trimG, onL_push, hr, hr4, h4, endsG]
      · have h4 : g.kind = 4 := by omega
        simp [h0, h1, h4, colG, hb, trimG, onL_push, hr, hr4, endsG]
theorem leftW_nil (s : Wr) (h : OkW s) : leftW s [] = s.cur := by
  obtain ⟨cur, row⟩ := s
  unfold leftW
  by_cases h0 : row.kind = 0
  · simp [h0, colG, trimG]
  · have hr : isB row = true := by
      rcases h with h | h
      · exact absurd (by rw [show row = gl0 from h]) h0
      · exact h
    simp [h0, colG, trimG, hr, endsG]
theorem leftW_zero (zs : List Int) (rs : List Rn) : leftW ⟨[], gl0⟩ (rawAll zs 0 rs) = glyphsL zs rs := by simp [leftW, onL, glyphsL]
/-- .. behind byte k of a run, and of the rest. -/
def wLeft (zs : List Int) (r w : Int) (l : List UInt8) (rest : List Gl) (k : Nat) (s : Wr) : List Gl := leftW s (rawRun zs r w k (l.drop k) ++ rest)
def wOut (zs : List Int) (rs : List Rn) (r : Nat) (s : Wr) : List Gl := leftW s (rawAll zs r (rs.drop r))
theorem wLeft_step (zs : List Int) (r w : Int) (l : List UInt8) (rest : List Gl) (k : Nat) (s : Wr) (hs : OkW s) (h : k < l.length) : wLeft zs r w l rest k s = wLeft zs r w l rest (k + 1) (addW s (rawG zs r w k l[k])) := by
  unfold wLeft
  rw [List.drop_eq_getElem_cons h, rawRun, List.cons_append, addW_left s _ _ hs (rawG_kind zs r w k l[k]), show ((k : Int) + 1) = ((k + 1 : Nat) : Int) by omega]
theorem wLeft_end (zs : List Int) (rs : List Rn) (r : Nat) (h : r < rs.length) (s : Wr) : wLeft zs r rs[r].white (bytesOf rs[r].text) (rawAll zs ((r + 1 : Nat) : Int) (rs.drop (r + 1))) rs[r].text.size s = wOut zs rs (r + 1) s := by
  unfold wLeft wOut
  rw [List.drop_of_length_le (by rw [bytesOf_length]; exact Nat.le_refl _)]
  rfl
theorem wOut_start (zs : List Int) (rs : List Rn) (r : Nat) (h : r < rs.length) (s : Wr) : wOut zs rs r s = wLeft zs r rs[r].white (bytesOf rs[r].text) (rawAll zs ((r + 1 : Nat) : Int) (rs.drop (r + 1))) 0 s := by
  unfold wLeft wOut
  rw [List.drop_eq_getElem_cons h, rawAll]
  rfl
theorem wOut_zero (zs : List Int) (rs : List Rn) : wOut zs rs 0 ⟨[], gl0⟩ = glyphsL zs rs := leftW_zero zs rs
theorem wOut_end (zs : List Int) (rs : List Rn) (s : Wr) (h : OkW s) : wOut zs rs rs.length s = s.cur := by
  unfold wOut; rw [List.drop_of_length_le (Nat.le_refl _)]; exact leftW_nil s h
theorem wLeft_len (zs : List Int) (r w : Int) (l : List UInt8) (rest : List Gl) (k : Nat) (s : Wr) (F : List Gl) (h : wLeft zs r w l rest k s = F) : s.cur.length ≤ F.length := by
  rw [← h]; unfold wLeft leftW; simp
/-- The kind of a byte's glyph, and how far it leads by it. -/
def kindZ (wh : Int) (b : UInt8) : Int := if wh = 2 then (if (b.toNat : Int) = 10 then 4 else 1) else if isW b then (if wh = 1 then 3 else 2) else 1
def kindAdv (zs : List Int) (k : Int) (s : ByteArray) : Int := if k = 4 then 0 else if k = 2 ∨ k = 3 then wideZ zs ⟨#[32]⟩ else wideZ zs s
theorem rawG_parts (zs : List Int) (r w : Int) (k : Nat) (s : ByteArray) (h : k < s.size) : (⟨kindZ w s[k], r, k, kindAdv zs (kindZ w s[k]) (s.extract k (k + 1))⟩ : Gl) = rawG zs r w k s[k] := by
  have e1 : wideZ zs ⟨#[32]⟩ = atZ zs 32 := by simp [wideZ, wideL, bytesOf]
  have e2 := wideZ_one zs s k h
  unfold rawG kindZ kindAdv
  rw [e1, e2]
  by_cases hw : w = 2
  · by_cases h10 : (s[k].toNat : Int) = 10
    · simp [hw, h10]
    · simp [hw, h10, atZ]
  · cases hb : isW s[k]
    · simp [hw, atZ]
    · by_cases h1 : w = 1 <;> simp [hw, h1]
end Go.Proofs.Ytagcfbnidepfoaa
