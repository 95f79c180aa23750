import Derived.Test.YtmlnpphblicghaaGaugNum
/- Glyphs as plain numbers: what shows of texts. No program is named here. -/
namespace Go.Proofs.Ytmlnpphblicghaa
open Go Go.RowKit
set_option linter.unusedVariables false
set_option linter.unusedSimpArgs false

structure Gl where
  kind : Int
  run : Int
  at_ : Int
  adv : Int
  deriving DecidableEq
structure Rn where
  node : Int
  text : ByteArray
  white : Int
  line : Int

def isW (b : UInt8) : Bool := decide ((b.toNat : Int) = 32 ∨ (b.toNat : Int) = 9 ∨ (b.toNat : Int) = 10 ∨ (b.toNat : Int) = 13)
def isB (g : Gl) : Bool := decide (g.kind = 2 ∨ g.kind = 3)
/-- A byte's glyph, ahead of all leaving out. -/
def rawG (zs : List Int) (r : Int) (white : Int) (i : Int) (b : UInt8) : Gl :=
  if white = 2 then (if (b.toNat : Int) = 10 then ⟨4, r, i, 0⟩ else ⟨1, r, i, atZ zs b⟩)
  else if isW b then ⟨if white = 1 then 3 else 2, r, i, atZ zs 32⟩ else ⟨1, r, i, atZ zs b⟩
def rawRun (zs : List Int) (r : Int) (white : Int) : Int → List UInt8 → List Gl
  | _, [] => []
  | i, b :: l => rawG zs r white i b :: rawRun zs r white (i + 1) l
def rawAll (zs : List Int) : Int → List Rn → List Gl
  | _, [] => []
  | r, x :: l => rawRun zs r x.white 0 (bytesOf x.text) ++ rawAll zs (r + 1) l
/-- A row of blanks is its first one. -/
def colG : Bool → List Gl → List Gl
  | _, [] => []
  | p, g :: l => if p && isB g then colG true l else g :: colG (isB g) l
/-- Nothing follows, or a break. -/
def endsG : List Gl → Bool
  | [] => true
  | h :: _ => decide (h.kind = 4)
/-- Blanks at the ends and beside breaks are left out. -/
def trimG : Bool → List Gl → List Gl
  | _, [] => []
  | e, g :: l => if isB g && (e || endsG l) then trimG (decide (g.kind = 4)) l else g :: trimG (decide (g.kind = 4)) l
def glyphsL (zs : List Int) (rs : List Rn) : List Gl := trimG true (colG false (rawAll zs 0 rs))
/-- What keeps blanks and breaks may be done ahead of the leaving out, or behind it. -/
structure Keeps (f : Gl → Gl) : Prop where
  b : ∀ g, isB (f g) = isB g
  k : ∀ g, decide ((f g).kind = 4) = decide (g.kind = 4)
theorem colG_map {f : Gl → Gl} (hf : Keeps f) : ∀ (l : List Gl) (p : Bool), colG p (l.map f) = (colG p l).map f
  | [], p => rfl
  | g :: l, p => by
    have h1 := colG_map hf l true
    have h2 := colG_map hf l (isB g)
    simp only [List.map_cons, colG, hf.b]
    split
    · exact h1
    · simp [h2]
theorem endsG_map {f : Gl → Gl} (hf : Keeps f) : ∀ (l : List Gl), endsG (l.map f) = endsG l
  | [] => rfl
  | g :: l => hf.k g
theorem trimG_map {f : Gl → Gl} (hf : Keeps f) : ∀ (l : List Gl) (e : Bool), trimG e (l.map f) = (trimG e l).map f
  | [], e => rfl
  | g :: l, e => by
    have h1 := trimG_map hf l (decide (g.kind = 4))
    simp only [List.map_cons, trimG, hf.b, hf.k, h1, endsG_map hf]
    split
    · rfl
    · rfl
/-- Every glyph that shows is a byte's. -/
theorem colG_sub : ∀ (l : List Gl) (p : Bool), (colG p l).Sublist l
  | [], p => List.Sublist.refl _
  | g :: l, p => by
    simp only [colG]
    split
    · exact (colG_sub l true).cons g
    · exact (colG_sub l (isB g)).cons_cons g
theorem trimG_sub : ∀ (l : List Gl) (e : Bool), (trimG e l).Sublist l
  | [], e => List.Sublist.refl _
  | g :: l, e => by
    simp only [trimG]
    have h := trimG_sub l (decide (g.kind = 4))
    split
    · exact h.cons g
    · exact h.cons_cons g
theorem glyphsL_sub (zs : List Int) (rs : List Rn) : (glyphsL zs rs).Sublist (rawAll zs 0 rs) := (trimG_sub _ _).trans (colG_sub _ _)
theorem rawRun_length (zs : List Int) (r w : Int) : ∀ (l : List UInt8) (i : Int), (rawRun zs r w i l).length = l.length
  | [], i => rfl
  | b :: l, i => by simp [rawRun, rawRun_length zs r w l (i + 1)]
theorem rawRun_get (zs : List Int) (r w : Int) : ∀ (l : List UInt8) (i : Int) (k : Nat) (h : k < l.length), (rawRun zs r w i l)[k]? = some (rawG zs r w (i + k) l[k])
  | b :: l, i, 0, h => by simp [rawRun]
  | b :: l, i, k + 1, h => by
    have := rawRun_get zs r w l (i + 1) k (by simpa using h)
    simp only [rawRun, List.getElem?_cons_succ, this, List.getElem_cons_succ, Option.some.injEq]
    congr 1
    omega
/-- How many bytes all texts have. -/
def sizeAll (rs : List Rn) : Nat := (rs.map fun x => x.text.size).sum
theorem rawAll_length (zs : List Int) : ∀ (rs : List Rn) (r : Int), (rawAll zs r rs).length = sizeAll rs
  | [], r => rfl
  | x :: l, r => by simp [rawAll, sizeAll, rawRun_length, bytesOf_length, rawAll_length zs l (r + 1)]
theorem glyphsL_length (zs : List Int) (rs : List Rn) : (glyphsL zs rs).length ≤ sizeAll rs := by
  rw [← rawAll_length zs rs 0]; exact (glyphsL_sub zs rs).length_le
/-- The run and the byte of a glyph. -/
def byteAt (rs : List Rn) (g : Gl) : UInt8 := ((rs[g.run.toNat]?.map fun x => bytesOf x.text).getD []).getD g.at_.toNat 0
def whiteAt (rs : List Rn) (g : Gl) : Int := (rs[g.run.toNat]?.map fun x => x.white).getD 0
def InRuns (zs : List Int) (rs : List Rn) (g : Gl) : Prop := ∃ (r i : Nat) (h : r < rs.length) (h' : i < rs[r].text.size), g = rawG zs r rs[r].white i (rs[r].text[i])
theorem mem_rawRun (zs : List Int) (r w : Int) (l : List UInt8) (i : Int) (g : Gl) (hg : g ∈ rawRun zs r w i l) : ∃ (k : Nat) (h : k < l.length), g = rawG zs r w (i + k) l[k] := by
  obtain ⟨k, hk, e⟩ := List.mem_iff_getElem.1 hg
  rw [rawRun_length] at hk
  have := rawRun_get zs r w l i k hk
  rw [List.getElem?_eq_getElem (by rw [rawRun_length]; exact hk), e] at this
  exact ⟨k, hk, by injection this⟩
theorem mem_rawAll (zs : List Int) : ∀ (rs : List Rn) (r0 : Nat) (g : Gl), g ∈ rawAll zs r0 rs → ∃ (r i : Nat) (h : r < rs.length) (h' : i < rs[r].text.size), g = rawG zs ((r0 + r : Nat) : Int) rs[r].white i (rs[r].text[i])
  | x :: l, r0, g, hg => by
    simp only [rawAll, List.mem_append] at hg
    rcases hg with hg | hg
    · obtain ⟨k, hk, e⟩ := mem_rawRun zs r0 x.white _ 0 g hg
      rw [bytesOf_length] at hk
      refine ⟨0, k, by simp, hk, ?_⟩
      rw [e, bytesOf_get x.text k hk]
      simp
    · obtain ⟨r, i, h, h', e⟩ := mem_rawAll zs l (r0 + 1) g (by simpa using hg)
      refine ⟨r + 1, i, by simpa using h, by simpa using h', ?_⟩
      rw [e]
      simp only [List.getElem_cons_succ]
      congr 1
      omega
theorem glyphsL_in (zs : List Int) (rs : List Rn) (g : Gl) (hg : g ∈ glyphsL zs rs) : InRuns zs rs g := by
  obtain ⟨r, i, h, h', e⟩ := mem_rawAll zs rs 0 g ((glyphsL_sub zs rs).subset hg)
  exact ⟨r, i, h, h', by rw [e]; simp⟩
theorem rawG_run (zs : List Int) (r w i : Int) (b : UInt8) : (rawG zs r w i b).run = r ∧ (rawG zs r w i b).at_ = i := by
  unfold rawG; split
  · split <;> exact ⟨rfl, rfl⟩
  · split <;> exact ⟨rfl, rfl⟩
theorem rawG_isB (zs : List Int) (r w i : Int) (b : UInt8) : isB (rawG zs r w i b) = (!decide (w = 2) && isW b) := by
  unfold rawG
  by_cases hw : w = 2
  · simp only [hw, if_true]
    split <;> simp [isB]
  · rw [if_neg hw]
    cases hb : isW b
    · simp [isB]
    · simp only [if_true, hw]
      split <;> simp [isB]
theorem rawG_break (zs : List Int) (r w i : Int) (b : UInt8) : decide ((rawG zs r w i b).kind = 4) = (decide (w = 2) && decide ((b.toNat : Int) = 10)) := by
  unfold rawG
  by_cases hw : w = 2
  · simp only [hw, if_true]
    split <;> simp_all
  · rw [if_neg hw]
    cases hb : isW b
    · simp [hw]
    · simp only [if_true, hw]
      split <;> simp [hw]
theorem rawG_hold (zs : List Int) (r w i : Int) (b : UInt8) (h : (rawG zs r w i b).kind = 3) : w = 1 := by
  unfold rawG at h
  split at h
  · split at h <;> simp at h
  · split at h
    · split at h
      · assumption
      · simp at h
    · simp at h
theorem rawG_adv (zs : List Int) (r w i : Int) (b : UInt8) : 0 ≤ (rawG zs r w i b).adv ∧ (rawG zs r w i b).adv ≤ 65536 := by
  have h1 := advZ_bd (zs.getD b.toNat 0)
  have h2 := advZ_bd (zs.getD (32 : UInt8).toNat 0)
  unfold rawG atZ
  split
  · split
    · simp
    · exact h1
  · split
    · exact h2
    · exact h1
theorem rawG_kind (zs : List Int) (r w i : Int) (b : UInt8) : (rawG zs r w i b).kind = 1 ∨ (rawG zs r w i b).kind = 2 ∨ (rawG zs r w i b).kind = 3 ∨ (rawG zs r w i b).kind = 4 := by
  unfold rawG
  split
  · split <;> simp
  · split
    · split <;> simp
    · simp
end Go.Proofs.Ytmlnpphblicghaa
