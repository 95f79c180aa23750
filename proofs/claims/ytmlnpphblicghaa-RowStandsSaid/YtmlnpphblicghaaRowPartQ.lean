import Derived.Test.YtmlnpphblicghaaGlyphFineQ
import Derived.Test.YtmlnpphblicghaaPlaceLeafQ
import Derived.Test.YtmlnpphblicghaaBrkAppQ
import Derived.Test.YtmlnpphblicghaaRowGeoQ
import Derived.Test.YtmlnpphblicghaaZQ
import Derived.Test.YtmlnpphblicghaaWordNumQ
/- Parts of a row of glyphs; what glyphs of runs have. -/
namespace Go.Proofs.Ytmlnpphblicghaa
open Go Go.RowKit
set_option linter.unusedVariables false
set_option linter.unusedSimpArgs false
set_option maxRecDepth 20000
set_option maxHeartbeats 2000000

theorem text_leR : ∀ (rs : List Rn) (r : Nat) (h : r < rs.length), rs[r].text.size ≤ sizeAll rs
  | x :: l, 0, h => by simp [sizeAll]
  | x :: l, r + 1, h => by
    have := text_leR l r (by simpa using h)
    simp only [List.getElem_cons_succ]
    have e : sizeAll (x :: l) = x.text.size + sizeAll l := by simp [sizeAll]
    omega
theorem glyphs_run (zs : List Int) (rs : List Rn) (k : Nat) (hk : k < (glyphsL zs rs).length) : ∃ r : Nat, r < rs.length ∧ (glyphsL zs rs)[k].run = r := by
  obtain ⟨r, i, hr, hi, h1, -⟩ := inRuns_what (glyphsL_in zs rs _ (List.getElem_mem hk))
  exact ⟨r, hr, h1⟩
theorem hRun_at (rs : List Rn) (r : Nat) (h : r < rs.length) : hRun rs r = lineZ rs[r].line := by simp [hRun, h]
theorem nRun_at (rs : List Rn) (r : Nat) (h : r < rs.length) : nRun rs r = rs[r].node := by simp [nRun, h]
theorem Row.span {w : World} {B : Nat} {A : Option Addr} {l : List Sp} (h : Row w B A (l.flatMap spC)) {i : Nat} (hi : i < l.length) :
    ∃ ad, A = some ad ∧ ad.block < B ∧ w.cell? (ad.add (i * 3)) = some (.int .i64 l[i].sf) ∧ w.cell? ⟨(ad.add (i * 3)).block, (ad.add (i * 3)).off + 1, none⟩ = some (.int .i64 l[i].st) ∧
      w.cell? ⟨(ad.add (i * 3)).block, (ad.add (i * 3)).off + 2, none⟩ = some (.int .i64 l[i].sw) := by
  obtain ⟨ad, e, hb, h0, hj⟩ := h.rc spC_len (by decide) hi
  exact ⟨ad, e, hb, h0 _ rfl, hj 1 _ (by decide) rfl, hj 2 _ (by decide) rfl⟩
theorem gCells_drop : ∀ (l : List Gl) (k : Nat), (gCells l).drop (k * 4) = gCells (l.drop k)
  | l, 0 => by simp
  | [], k + 1 => by simp [gCells]
  | x :: l, k + 1 => by
    rw [show (k + 1) * 4 = k * 4 + 1 + 1 + 1 + 1 by omega]
    simp only [gCells, List.drop_succ_cons]
    exact gCells_drop l k
theorem gCells_take : ∀ (l : List Gl) (k : Nat), (gCells l).take (k * 4) = gCells (l.take k)
  | l, 0 => by simp [gCells]
  | [], k + 1 => by simp [gCells]
  | x :: l, k + 1 => by
    rw [show (k + 1) * 4 = k * 4 + 1 + 1 + 1 + 1 by omega]
    simp only [gCells, List.take_succ_cons]
    rw [gCells_take l k]
theorem row_part {w : World} {B : Nat} {ad : Addr} {g : List Gl} (h : Row w B (some ad) (i64s (gCells g))) (q n : Nat) : Row w B (some (ad.add (q * 4))) (i64s (gCells ((g.drop q).take n))) := by
  have := (h.drop (q * 4)).take (n * 4)
  rwa [i64s_drop, i64s_take, gCells_drop, gCells_take] at this
theorem fine_part {g : List Gl} (h : FineG g) (q n : Nat) : FineG ((g.drop q).take n) := ⟨by have := h.1; rw [List.length_take, List.length_drop]; omega, fun x hx => h.2 x (List.mem_of_mem_drop (List.mem_of_mem_take hx))⟩
theorem glyphs_at (zs : List Int) (rs : List Rn) (h : sizeAll rs ≤ 100000) (k : Nat) (hk : k < (glyphsL zs rs).length) : 0 ≤ (glyphsL zs rs)[k].at_ ∧ (glyphsL zs rs)[k].at_ ≤ 100000 := by
  obtain ⟨r, i, hr, hi, -, h1, -⟩ := inRuns_what (glyphsL_in zs rs _ (List.getElem_mem hk))
  have := text_leR rs r hr
  omega
end Go.Proofs.Ytmlnpphblicghaa
