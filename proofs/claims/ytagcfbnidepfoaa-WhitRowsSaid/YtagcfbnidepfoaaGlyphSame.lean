import Derived.Test.YtagcfbnidepfoaaGlyphNum
/- Texts that show alike: held ones, parted ones, ones with more blanks. No program is named here. -/
namespace Go.Proofs.Ytagcfbnidepfoaa
open Go Go.RowKit
set_option linter.unusedVariables false
set_option linter.unusedSimpArgs false

theorem glyphs_by {zs : List Int} {rs rs' : List Rn} {f : Gl → Gl} (hf : Keeps f) (h : rawAll zs 0 rs' = (rawAll zs 0 rs).map f) : glyphsL zs rs' = (glyphsL zs rs).map f := by
  unfold glyphsL
  rw [h, colG_map hf, trimG_map hf]
/-- Held: each blank is one that parts no line. -/
def heldG (g : Gl) : Gl := if g.kind = 2 then { g with kind := 3 } else g
theorem heldG_keeps : Keeps heldG := ⟨fun g => by unfold heldG; split <;> simp_all [isB], fun g => by unfold heldG; split <;> simp_all⟩
def whiteR (w : Int) (x : Rn) : Rn := { x with white := w }
theorem rawRun_held (zs : List Int) (r : Int) : ∀ (l : List UInt8) (i : Int), rawRun zs r 1 i l = (rawRun zs r 0 i l).map heldG
  | [], i => rfl
  | b :: l, i => by
    simp only [rawRun, List.map_cons, rawRun_held zs r l (i + 1)]
    congr 1
    unfold rawG heldG
    cases isW b <;> simp
theorem rawAll_held (zs : List Int) : ∀ (rs : List Rn) (r : Int), rawAll zs r (rs.map (whiteR 1)) = (rawAll zs r (rs.map (whiteR 0))).map heldG
  | [], r => rfl
  | x :: l, r => by simp only [List.map_cons, rawAll, List.map_append, rawAll_held zs l (r + 1), whiteR, rawRun_held]
theorem glyphsL_held (zs : List Int) (rs : List Rn) : glyphsL zs (rs.map (whiteR 1)) = (glyphsL zs (rs.map (whiteR 0))).map heldG := glyphs_by heldG_keeps (rawAll_held zs rs 0)
/-- Parted: where each part begins. -/
def movedG (from_ : Int → Int) (g : Gl) : Gl := ⟨g.kind, 0, from_ g.run + g.at_, g.adv⟩
theorem movedG_keeps (f : Int → Int) : Keeps (movedG f) := ⟨fun g => rfl, fun g => rfl⟩
theorem rawRun_append (zs : List Int) (r w : Int) : ∀ (a b : List UInt8) (i : Int), rawRun zs r w i (a ++ b) = rawRun zs r w i a ++ rawRun zs r w (i + a.length) b
  | [], b, i => by simp [rawRun]
  | x :: a, b, i => by
    have := rawRun_append zs r w a b (i + 1)
    simp only [List.cons_append, rawRun, this, List.length_cons]
    rw [show i + 1 + (a.length : Int) = i + ((a.length + 1 : Nat) : Int) by omega]
theorem rawRun_moved (zs : List Int) (r w k : Int) (f : Int → Int) (hf : f r = k) : ∀ (l : List UInt8) (i : Int), rawRun zs 0 w (k + i) l = (rawRun zs r w i l).map (movedG f)
  | [], i => rfl
  | b :: l, i => by
    have := rawRun_moved zs r w k f hf l (i + 1)
    simp only [rawRun, List.map_cons]
    rw [show k + i + 1 = k + (i + 1) by omega, this]
    congr 1
    have e := rawG_run zs r w i b
    unfold movedG
    rw [e.1, e.2, hf]
    unfold rawG
    split
    · split <;> rfl
    · split <;> rfl
/-- All texts behind each other. -/
def catR (rs : List Rn) : List UInt8 := rs.flatMap fun x => bytesOf x.text
def startR (rs : List Rn) (r : Int) : Int := sizeAll (rs.take r.toNat)
theorem rawAll_moved (zs : List Int) (w : Int) (f : Int → Int) : ∀ (rs : List Rn) (r : Nat) (k : Int), (∀ x ∈ rs, x.white = w) → (∀ j : Nat, j ≤ rs.length → f ((r + j : Nat) : Int) = k + sizeAll (rs.take j)) → rawRun zs 0 w k (catR rs) = (rawAll zs r rs).map (movedG f)
  | [], r, k, _, _ => rfl
  | x :: l, r, k, hw, hf => by
    have h0 := hf 0 (by simp)
    simp [sizeAll] at h0
    have e1 := rawRun_moved zs r w k f h0 (bytesOf x.text) 0
    have ih := rawAll_moved zs w f l (r + 1) (k + (bytesOf x.text).length) (fun y hy => hw y (List.mem_cons_of_mem _ hy)) fun j hj => by
      have := hf (j + 1) (by simpa using hj)
      rw [show r + 1 + j = r + (j + 1) by omega, this, bytesOf_length]
      simp [sizeAll]
      omega
    have hx := hw x List.mem_cons_self
    rw [show k + 0 = k by omega] at e1
    have e2 : catR (x :: l) = bytesOf x.text ++ catR l := by simp [catR]
    rw [e2, rawRun_append, e1, ih, rawAll, List.map_append, hx]
    congr 2
theorem glyphsL_parted (zs : List Int) (w : Int) (rs : List Rn) (x : Rn) (hx : x.white = w) (hw : ∀ y ∈ rs, y.white = w) (hc : bytesOf x.text = catR rs) : glyphsL zs [x] = (glyphsL zs rs).map (movedG (startR rs)) := by
  refine glyphs_by (movedG_keeps _) ?_
  have := rawAll_moved zs w (startR rs) rs 0 0 hw fun j hj => by simp [startR]
  have e : rawAll zs 0 [x] = rawRun zs 0 w 0 (catR rs) := by simp [rawAll, hx, hc]
  rw [e, this]
  rfl
/-- With pre all bytes show. -/
theorem colG_none : ∀ (l : List Gl) (p : Bool), (∀ g ∈ l, isB g = false) → colG p l = l
  | [], p, _ => rfl
  | g :: l, p, h => by
    simp only [colG, h g List.mem_cons_self, Bool.and_false, Bool.false_eq_true, if_false]
    rw [colG_none l _ fun x hx => h x (List.mem_cons_of_mem _ hx)]
theorem trimG_none : ∀ (l : List Gl) (e : Bool), (∀ g ∈ l, isB g = false) → trimG e l = l
  | [], e, _ => rfl
  | g :: l, e, h => by
    simp only [trimG, h g List.mem_cons_self, Bool.false_and, Bool.false_eq_true, if_false]
    rw [trimG_none l _ fun x hx => h x (List.mem_cons_of_mem _ hx)]
theorem glyphsL_pre (zs : List Int) (x : Rn) (hx : x.white = 2) : (glyphsL zs [x]).length = x.text.size := by
  have hb : ∀ g ∈ rawAll zs 0 [x], isB g = false := fun g hg => by
    obtain ⟨r, i, hr, hi, e⟩ := mem_rawAll zs [x] 0 g hg
    have hr0 : r = 0 := by simpa using hr
    subst hr0
    rw [e, rawG_isB]
    simp [hx]
  unfold glyphsL
  rw [colG_none _ _ hb, trimG_none _ _ hb, rawAll_length]
  simp [sizeAll]
/-- More blanks behind a blank. -/
def plainG (g : Gl) : Gl := ⟨g.kind, 0, 0, g.adv⟩
theorem plainG_keeps : Keeps plainG := ⟨fun g => rfl, fun g => rfl⟩
def byteG (zs : List Int) (b : UInt8) : Gl := if isW b then ⟨2, 0, 0, atZ zs 32⟩ else ⟨1, 0, 0, atZ zs b⟩
theorem rawRun_plain (zs : List Int) (r : Int) : ∀ (l : List UInt8) (i : Int), (rawRun zs r 0 i l).map plainG = l.map (byteG zs)
  | [], i => rfl
  | b :: l, i => by
    simp only [rawRun, List.map_cons, rawRun_plain zs r l (i + 1)]
    congr 1
    unfold rawG plainG byteG
    cases isW b <;> simp
theorem glyphsL_plain (zs : List Int) (x : Rn) (hx : x.white = 0) : (glyphsL zs [x]).map plainG = trimG true (colG false ((bytesOf x.text).map (byteG zs))) := by
  have e : rawAll zs 0 [x] = rawRun zs 0 0 0 (bytesOf x.text) := by simp [rawAll, hx]
  unfold glyphsL
  rw [e, ← trimG_map plainG_keeps, ← colG_map plainG_keeps, rawRun_plain]
/-- The text with more blanks: behind each blank (32) of which 'at' says so. -/
def moreL (q : Nat → Bool) : Nat → List UInt8 → List UInt8
  | _, [] => []
  | i, b :: l => b :: ((if (b.toNat : Int) = 32 ∧ q i = true then [32, 10, 9] else []) ++ moreL q (i + 1) l)
theorem colG_more (zs : List Int) (q : Nat → Bool) : ∀ (l : List UInt8) (i : Nat) (p : Bool), colG p ((moreL q i l).map (byteG zs)) = colG p (l.map (byteG zs))
  | [], i, p => rfl
  | b :: l, i, p => by
    have ih := fun p => colG_more zs q l (i + 1) p
    have hW : ∀ c : UInt8, isW c = true → byteG zs c = ⟨2, 0, 0, atZ zs 32⟩ := fun c hc => by unfold byteG; rw [if_pos hc]
    by_cases h : (b.toNat : Int) = 32 ∧ q i = true
    · have hb : isW b = true := by unfold isW; exact decide_eq_true (.inl h.1)
      have h32 : isW 32 = true := by decide
      have h10 : isW 10 = true := by decide
      have h9 : isW 9 = true := by decide
      simp only [moreL, if_pos h, List.cons_append, List.nil_append, List.map_cons, hW _ hb, hW _ h32, hW _ h10, hW _ h9]
      have hB : isB (⟨2, 0, 0, atZ zs 32⟩ : Gl) = true := by simp [isB]
      cases p <;> simp [colG, hB, ih]
    · simp only [moreL, if_neg h, List.nil_append, List.map_cons, colG, ih]
theorem glyphsL_more (zs : List Int) (q : Nat → Bool) (x y : Rn) (hx : x.white = 0) (hy : y.white = 0) (h : bytesOf y.text = moreL q 0 (bytesOf x.text)) : (glyphsL zs [y]).map plainG = (glyphsL zs [x]).map plainG := by
  rw [glyphsL_plain zs x hx, glyphsL_plain zs y hy, h, colG_more]
theorem moreL_snoc (q : Nat → Bool) (b : UInt8) : ∀ (a : List UInt8) (i : Nat), moreL q i (a ++ [b]) = moreL q i a ++ (b :: (if (b.toNat : Int) = 32 ∧ q (i + a.length) = true then [32, 10, 9] else []))
  | [], i => by simp [moreL]
  | x :: a, i => by
    have := moreL_snoc q b a (i + 1)
    simp only [List.cons_append, moreL, this, List.append_assoc, List.length_cons]
    rw [show i + 1 + a.length = i + (a.length + 1) by omega]
theorem moreL_length (q : Nat → Bool) : ∀ (a : List UInt8) (i : Nat), (moreL q i a).length ≤ 4 * a.length
  | [], i => by simp [moreL]
  | x :: a, i => by
    have := moreL_length q a (i + 1)
    simp only [moreL, List.length_cons, List.length_append]
    split <;> simp <;> omega
theorem plain_at {L1 L2 : List Gl} (h : L2.map plainG = L1.map plainG) : L2.length = L1.length ∧ ∀ (k : Nat) (h1 : k < L1.length) (h2 : k < L2.length), L2[k].kind = L1[k].kind ∧ L2[k].adv = L1[k].adv := by
  have hl := congrArg List.length h
  simp only [List.length_map] at hl
  refine ⟨hl, fun k h1 h2 => ?_⟩
  have e : (L2.map plainG)[k]'(by simpa using h2) = (L1.map plainG)[k]'(by simpa using h1) := by simp only [h]
  simp only [List.getElem_map, plainG, Gl.mk.injEq] at e
  exact ⟨e.1, e.2.2.2⟩
/-- All texts as one. -/
def catS (rs : List Rn) : Nat → ByteArray
  | 0 => ⟨#[]⟩
  | k + 1 => catS rs k ++ ((rs[k]?.map fun x => x.text).getD ⟨#[]⟩)
theorem catS_size (rs : List Rn) : ∀ k, k ≤ rs.length → (catS rs k).size = sizeAll (rs.take k)
  | 0, _ => rfl
  | k + 1, h => by
    have ih := catS_size rs k (by omega)
    have hk : k < rs.length := by omega
    have e : sizeAll (rs.take (k + 1)) = sizeAll (rs.take k) + rs[k].text.size := by
      rw [List.take_succ_eq_append_getElem hk]
      simp only [sizeAll, List.map_append, List.sum_append, List.map_cons, List.map_nil, List.sum_cons, List.sum_nil, Nat.add_zero]
    simp only [catS, ByteArray.size_append, ih, List.getElem?_eq_getElem hk, Option.map_some, Option.getD_some]
    exact e.symm
theorem sizeAll_take (rs : List Rn) (k : Nat) : sizeAll (rs.take k) ≤ sizeAll rs := by
  have e : sizeAll (rs.take k ++ rs.drop k) = sizeAll (rs.take k) + sizeAll (rs.drop k) := by
    simp only [sizeAll, List.map_append, List.sum_append]
  rw [List.take_append_drop] at e
  omega
theorem catR_push (ps : List Rn) (x : Rn) : catR (ps ++ [x]) = catR ps ++ bytesOf x.text := by simp [catR]
theorem catS_bytes (rs : List Rn) : ∀ k, k ≤ rs.length → bytesOf (catS rs k) = catR (rs.take k)
  | 0, _ => rfl
  | k + 1, h => by
    have ih := catS_bytes rs k (by omega)
    have hk : k < rs.length := by omega
    simp only [catS, bytesOf_append, ih, List.getElem?_eq_getElem hk, Option.map_some, Option.getD_some]
    rw [List.take_succ_eq_append_getElem hk, catR_push]
theorem catR_length : ∀ (ps : List Rn), (catR ps).length = sizeAll ps
  | [] => rfl
  | x :: l => by
    have := catR_length l
    have e : catR (x :: l) = bytesOf x.text ++ catR l := by simp [catR]
    rw [e, List.length_append, this, bytesOf_length]
    simp [sizeAll]
theorem cut_step (ps : List Rn) (t : ByteArray) (k : Nat) (h : k ≤ t.size) (wh : Int) (b : List UInt8) (hc : catR ps ++ bytesOf t = b) : catR (ps ++ [⟨0, t.extract 0 k, wh, 0⟩]) ++ bytesOf (t.extract k t.size) = b := by
  have hl := bytesOf_length t
  rw [catR_push, List.append_assoc, ← hc]
  congr 1
  simp only [bytesOf_extract, List.drop_zero, Nat.sub_zero]
  rw [List.take_of_length_le (l := (bytesOf t).drop k) (by rw [List.length_drop]; omega), List.take_append_drop]
theorem white_push {ps : List Rn} {wh : Int} (h : ∀ x ∈ ps, x.white = wh) (s : ByteArray) : ∀ x ∈ ps ++ [⟨0, s, wh, 0⟩], x.white = wh := by
  intro x hx
  rcases List.mem_append.1 hx with hx | hx
  · exact h x hx
  · rw [List.mem_singleton.1 hx]
/-- Where the parts begin, as far as told. -/
def fromL (qs : List Rn) (k : Nat) : List Int := (List.range (qs.length + 1)).map fun j => if j ≤ k then (sizeAll (qs.take j) : Int) else 0
theorem fromL_length (qs : List Rn) (k : Nat) : (fromL qs k).length = qs.length + 1 := by simp [fromL]
theorem fromL_zero (qs : List Rn) : fromL qs 0 = List.replicate (qs.length + 1) 0 := by
  apply List.ext_getElem
  · simp [fromL]
  · intro i h1 h2
    simp only [fromL, List.getElem_map, List.getElem_range, List.getElem_replicate]
    split
    · rename_i h
      have : i = 0 := by omega
      subst this
      simp [sizeAll]
    · rfl
theorem fromL_at (qs : List Rn) (k j : Nat) (h : j ≤ k) (hj : j ≤ qs.length) : (fromL qs k)[j]? = some (sizeAll (qs.take j) : Int) := by
  simp [fromL, List.getElem?_range (show j < qs.length + 1 by omega), h]
theorem fromL_step (qs : List Rn) (k : Nat) (h : k < qs.length) : (fromL qs k).set (k + 1) (sizeAll (qs.take (k + 1)) : Int) = fromL qs (k + 1) := by
  apply List.ext_getElem
  · simp [fromL]
  · intro i h1 h2
    rw [List.getElem_set]
    simp only [fromL, List.getElem_map, List.getElem_range]
    by_cases he : k + 1 = i
    · subst he; simp
    · rw [if_neg he]
      by_cases hi : i ≤ k
      · rw [if_pos hi, if_pos (by omega)]
      · rw [if_neg hi, if_neg (by omega)]
theorem take_size (qs : List Rn) (k : Nat) (h : k < qs.length) : (sizeAll (qs.take (k + 1)) : Int) = sizeAll (qs.take k) + qs[k].text.size := by
  rw [List.take_succ_eq_append_getElem h]
  simp only [sizeAll, List.map_append, List.sum_append, List.map_cons, List.map_nil, List.sum_cons, List.sum_nil]
  omega
end Go.Proofs.Ytagcfbnidepfoaa
