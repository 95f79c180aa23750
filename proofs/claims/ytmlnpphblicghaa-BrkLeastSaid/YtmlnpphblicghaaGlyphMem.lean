import Derived.Test.YtmlnpphblicghaaRet
import Derived.Test.YtmlnpphblicghaaGlyphNum
import Derived.LoopTactic
/- Rows of glyphs and of texts in memory; what is white, what is a blank (quoinref9). -/
namespace Go.Proofs.Ytmlnpphblicghaa
open Go Go.RowKit
set_option linter.unusedVariables false
set_option linter.unusedSimpArgs false
set_option maxRecDepth 20000
set_option maxHeartbeats 4000000

def gCells : List Gl → List Int
  | [] => []
  | g :: r => g.kind :: g.run :: g.at_ :: g.adv :: gCells r
def rCells : List Rn → List Value
  | [] => []
  | x :: r => .int .i64 x.node :: .string x.text :: .int .i64 x.white :: .int .i64 x.line :: rCells r
theorem gCells_length : ∀ (l : List Gl), (gCells l).length = l.length * 4
  | [] => rfl
  | g :: r => by simp [gCells, gCells_length r]; omega
theorem gCells_append : ∀ (a b : List Gl), gCells (a ++ b) = gCells a ++ gCells b
  | [], b => rfl
  | g :: r, b => by simp [gCells, gCells_append r b]
theorem gCells_get : ∀ (l : List Gl) (k : Nat) (h : k < l.length), (gCells l)[k * 4]? = some l[k].kind ∧ (gCells l)[k * 4 + 1]? = some l[k].run ∧ (gCells l)[k * 4 + 2]? = some l[k].at_ ∧ (gCells l)[k * 4 + 3]? = some l[k].adv
  | g :: r, 0, h => ⟨rfl, rfl, rfl, rfl⟩
  | g :: r, k + 1, h => by
    have := gCells_get r k (by simpa using h)
    rw [show (k + 1) * 4 = k * 4 + 1 + 1 + 1 + 1 by omega]
    simpa [gCells] using this
theorem rCells_length : ∀ (l : List Rn), (rCells l).length = l.length * 4
  | [] => rfl
  | g :: r => by simp [rCells, rCells_length r]; omega
theorem rCells_append : ∀ (a b : List Rn), rCells (a ++ b) = rCells a ++ rCells b
  | [], b => rfl
  | g :: r, b => by simp [rCells, rCells_append r b]
theorem rCells_get : ∀ (l : List Rn) (k : Nat) (h : k < l.length), (rCells l)[k * 4]? = some (.int .i64 l[k].node) ∧ (rCells l)[k * 4 + 1]? = some (.string l[k].text) ∧ (rCells l)[k * 4 + 2]? = some (.int .i64 l[k].white) ∧ (rCells l)[k * 4 + 3]? = some (.int .i64 l[k].line)
  | g :: r, 0, h => ⟨rfl, rfl, rfl, rfl⟩
  | g :: r, k + 1, h => by
    have := rCells_get r k (by simpa using h)
    rw [show (k + 1) * 4 = k * 4 + 1 + 1 + 1 + 1 by omega]
    simpa [rCells] using this
theorem add_far (ad : Addr) (m j : Nat) (h : 0 < j) : (⟨(ad.add m).block, (ad.add m).off + j, none⟩ : Addr) = ad.add (m + j) := by
  have : (ad.add m).add j = ad.add (m + j) := add_of_add _ _ _
  rw [← this]
  generalize ad.add m = b
  unfold Addr.add
  rw [if_neg (by omega)]
/-- A row of records of four cells: the k-th one's, as a walk reads them. -/
theorem Row.rec4 {w : World} {B : Nat} {A : Option Addr} {xs : List Value} (h : Row w B A xs) {k : Nat} {a b c d : Value} (h0 : xs[k * 4]? = some a) (h1 : xs[k * 4 + 1]? = some b) (h2 : xs[k * 4 + 2]? = some c) (h3 : xs[k * 4 + 3]? = some d) :
    ∃ ad, A = some ad ∧ ad.block < B ∧ w.cell? (ad.add (k * 4)) = some a ∧ w.cell? ⟨(ad.add (k * 4)).block, (ad.add (k * 4)).off + 1, none⟩ = some b ∧
      w.cell? ⟨(ad.add (k * 4)).block, (ad.add (k * 4)).off + 2, none⟩ = some c ∧ w.cell? ⟨(ad.add (k * 4)).block, (ad.add (k * 4)).off + 3, none⟩ = some d := by
  obtain ⟨q3, e3⟩ := List.getElem?_eq_some_iff.1 h3
  obtain ⟨ad, e, hb, hc⟩ := h (by omega)
  have at_ : ∀ j, j < 4 → ∀ z, xs[k * 4 + j]? = some z → w.cell? (ad.add (k * 4 + j)) = some z := fun j hj z hz => by
    obtain ⟨q, e⟩ := List.getElem?_eq_some_iff.1 hz
    rw [hc _ q, e]
  refine ⟨ad, e, hb, at_ 0 (by omega) _ h0, ?_, ?_, ?_⟩
  · rw [add_far ad _ 1 (by omega)]; exact at_ 1 (by omega) _ h1
  · rw [add_far ad _ 2 (by omega)]; exact at_ 2 (by omega) _ h2
  · rw [add_far ad _ 3 (by omega)]; exact at_ 3 (by omega) _ h3
theorem i64s_at {l : List Int} {i : Nat} {z : Int} (h : l[i]? = some z) : (i64s l)[i]? = some (.int .i64 z) := by simp [i64s, h]
theorem Row.gl {w : World} {B : Nat} {A : Option Addr} {l : List Gl} (h : Row w B A (i64s (gCells l))) {k : Nat} (hk : k < l.length) :
    ∃ ad, A = some ad ∧ ad.block < B ∧ w.cell? (ad.add (k * 4)) = some (.int .i64 l[k].kind) ∧ w.cell? ⟨(ad.add (k * 4)).block, (ad.add (k * 4)).off + 1, none⟩ = some (.int .i64 l[k].run) ∧
      w.cell? ⟨(ad.add (k * 4)).block, (ad.add (k * 4)).off + 2, none⟩ = some (.int .i64 l[k].at_) ∧ w.cell? ⟨(ad.add (k * 4)).block, (ad.add (k * 4)).off + 3, none⟩ = some (.int .i64 l[k].adv) := by
  obtain ⟨h0, h1, h2, h3⟩ := gCells_get l k hk
  exact h.rec4 (i64s_at h0) (i64s_at h1) (i64s_at h2) (i64s_at h3)
theorem Row.rn {w : World} {B : Nat} {A : Option Addr} {l : List Rn} (h : Row w B A (rCells l)) {k : Nat} (hk : k < l.length) :
    ∃ ad, A = some ad ∧ ad.block < B ∧ w.cell? (ad.add (k * 4)) = some (.int .i64 l[k].node) ∧ w.cell? ⟨(ad.add (k * 4)).block, (ad.add (k * 4)).off + 1, none⟩ = some (.string l[k].text) ∧
      w.cell? ⟨(ad.add (k * 4)).block, (ad.add (k * 4)).off + 2, none⟩ = some (.int .i64 l[k].white) ∧ w.cell? ⟨(ad.add (k * 4)).block, (ad.add (k * 4)).off + 3, none⟩ = some (.int .i64 l[k].line) := by
  obtain ⟨h0, h1, h2, h3⟩ := rCells_get l k hk
  exact h.rec4 h0 h1 h2 h3
def glV (g : Gl) : Value := .agg #[.int .i64 g.kind, .int .i64 g.run, .int .i64 g.at_, .int .i64 g.adv]
theorem gl_info : (Try.prog.info? 24).map (fun i => (i.zero, i.size, i.bytes)) = some (some (.agg #[.int .i64 0, .int .i64 0, .int .i64 0, .int .i64 0]), 4, 32) := by kernel_rfl
/- What is white. -/
theorem isW_cases (b : UInt8) : ((b.toNat : Int) == 32) = true ∧ isW b = true ∨ ((b.toNat : Int) == 32) = false ∧ ((b.toNat : Int) == 9) = true ∧ isW b = true ∨
    ((b.toNat : Int) == 32) = false ∧ ((b.toNat : Int) == 9) = false ∧ ((b.toNat : Int) == 10) = true ∧ isW b = true ∨
    ((b.toNat : Int) == 32) = false ∧ ((b.toNat : Int) == 9) = false ∧ ((b.toNat : Int) == 10) = false ∧ ((b.toNat : Int) == 13) = true ∧ isW b = true ∨
    ((b.toNat : Int) == 32) = false ∧ ((b.toNat : Int) == 9) = false ∧ ((b.toNat : Int) == 10) = false ∧ ((b.toNat : Int) == 13) = false ∧ isW b = false := by
  have hd : isW b = decide ((b.toNat : Int) = 32 ∨ (b.toNat : Int) = 9 ∨ (b.toNat : Int) = 10 ∨ (b.toNat : Int) = 13) := rfl
  rw [hd]
  simp only [beq_iff_eq, beq_eq_false_iff_ne, decide_eq_true_eq, decide_eq_false_iff_not]
  omega
theorem isB_cases (k : Int) (g : Gl) (hg : g.kind = k) : (k == 2) = true ∧ isB g = true ∨ (k == 2) = false ∧ (k == 3) = true ∧ isB g = true ∨ (k == 2) = false ∧ (k == 3) = false ∧ isB g = false := by
  have hd : isB g = decide (g.kind = 2 ∨ g.kind = 3) := rfl
  rw [hd, hg]
  simp only [beq_iff_eq, beq_eq_false_iff_ne, decide_eq_true_eq, decide_eq_false_iff_not]
  omega
end Go.Proofs.Ytmlnpphblicghaa
