import Derived.Test.YtncaichachipkaaSizeTopQ
import Derived.Test.YtncaichachipkaaGlyphFineQ
import Derived.Test.YtncaichachipkaaZQ
/- SizeBoxes: numbers. -/
namespace Go.Proofs.Ytncaichachipkaa
open Go Go.RowKit
set_option linter.unusedVariables false
set_option linter.unusedSimpArgs false

theorem fineR_small (zs : List Int) (rs : List Rn) (h1 : rs.length ≤ 100000) (h2 : sizeAll rs ≤ 100000) : FineR zs rs := ⟨by omega, h2, glyphs_fine zs rs h2⟩
def abRn : List Rn := [⟨0, ⟨#[97, 98, 32, 99]⟩, 0, 0⟩]
def kSt (v lo hi p b m : Int) : List Int := [1, 0, 0, 0, 3, 0, 0, 0, 0,  1, v, 0, 0, 1, lo, 1, 0, 1, hi, 0, 0, 0, 0,  1, 0, 1, m, 1, 0, 1, 0,  0, p, 0, 0,  0, 0, 0, b,  0, 1, 0,  1280]
def bSt (d wr : Int) : List Int := [1, d, wr, 0, 3, 0, 0, 0, 0,  0, 0, 0, 0, 1, 0, 1, 0, 0, 0, 0, 0, 0, 0,  1, 0, 1, 0, 1, 0, 1, 0,  0, 0, 0, 0,  0, 0, 0, 0,  0, 1, 0,  1280]
/-- The six numbers of an item. -/
def xv (x : Int) : Int := x % 4096
def xlo (x : Int) : Int := x / 4096 % 4096
def xhi (x : Int) : Int := x / 16777216 % 4096
def xp (x : Int) : Int := x / 68719476736 % 16
def xb (x : Int) : Int := x / 1099511627776 % 16
def xm (x : Int) : Int := x / 17592186044416 % 16
def itemSt (x : Int) : List Int := kSt (xv x) (xlo x) (xhi x) (xp x) (xb x) (xm x)
def itemN (x : Int) : Int := max (min (xv x) (xhi x)) (xlo x) + xp x + xb x + xm x
theorem itemN_bd (x : Int) : 0 ≤ itemN x ∧ itemN x ≤ 4140 := by unfold itemN xv xlo xhi xp xb xm; omega
theorem itemSt_in (x : Int) : ∀ z ∈ itemSt x, I64 z := by
  intro z hz
  have hb : (0 ≤ xv x ∧ xv x < 4096) ∧ (0 ≤ xlo x ∧ xlo x < 4096) ∧ (0 ≤ xhi x ∧ xhi x < 4096) ∧ (0 ≤ xp x ∧ xp x < 16) ∧ (0 ≤ xb x ∧ xb x < 16) ∧ (0 ≤ xm x ∧ xm x < 16) := by unfold xv xlo xhi xp xb xm; omega
  simp only [itemSt, kSt, List.mem_cons, List.not_mem_nil, or_false] at hz
  unfold I64
  omega
def kidB (x : Int) : Bx := .mk 2 0 (itemSt x) [] abRn
def rowB (kd d wr : Int) (L : List Int) : Bx := .mk kd 0 (bSt d wr) (L.map kidB) []
theorem item_outer (x n : Int) : outerZ (itemSt x) n = itemN x := by
  have h := itemN_bd x
  have e : outerZ (itemSt x) n = heldT (max (max 0 (max 0 (xlo x))) (if 0 ≤ max 0 (xhi x) then min (xv x) (max 0 (xhi x)) else xv x) + (0 + xb x + 0) + (xp x + 0 + xm x)) := rfl
  rw [e, if_pos (by omega)]
  have e2 : max (max 0 (max 0 (xlo x))) (min (xv x) (max 0 (xhi x))) + (0 + xb x + 0) + (xp x + 0 + xm x) = itemN x := by unfold itemN xv xlo xhi xp xb xm; omega
  rw [e2, heldT_in ⟨by omega, by omega⟩]
theorem kid_fine (zs : List Int) (x : Int) : FineB zs (kidB x) := by
  unfold kidB
  rw [FineB, FinesB]
  exact ⟨fun _ => fineR_small zs abRn (by decide) (by decide +kernel), trivial⟩
theorem kids_fine (zs : List Int) : ∀ L : List Int, FinesB zs (L.map kidB)
  | [] => by rw [List.map_nil, FinesB]; trivial
  | x :: L => by rw [List.map_cons, FinesB]; exact ⟨kid_fine zs x, kids_fine zs L⟩
theorem row_fine (zs : List Int) (kd d wr : Int) (L : List Int) (h : kd = 1 ∨ kd = 3) : FineB zs (rowB kd d wr L) := by
  unfold rowB
  rw [FineB]
  exact ⟨fun e => by omega, kids_fine zs L⟩
theorem kid_cnt (x : Int) : (kidB x).cnt = 1 := rfl
theorem row_cnt (kd d wr : Int) : ∀ L : List Int, (rowB kd d wr L).cnt ≤ 1 + L.length := by
  intro L
  have h : ∀ L : List Int, cnts (L.map kidB) = L.length := by
    intro L
    induction L with
    | nil => rfl
    | cons x L ih => rw [List.map_cons, cnts, ih, kid_cnt]; simp; omega
  unfold rowB
  rw [Bx.cnt]
  split
  · rw [h]; exact Nat.le_refl _
  · omega
theorem row_outs (zs : List Int) (least : Bool) : ∀ L : List Int, outs zs least (L.map kidB) = L.map itemN := by
  intro L
  rw [outs_map, List.map_map]
  exact List.map_congr_left fun x _ => item_outer x _
theorem row_ctn (zs : List Int) (least : Bool) (kd d wr : Int) (L : List Int) (h : kd = 1 ∨ kd = 3) :
    ctn zs least (rowB kd d wr L) = if kd = 3 ∧ d ≠ 2 ∧ d ≠ 3 ∧ (least = false ∨ wr = 0) then heldT (L.map itemN).sum else (L.map itemN).foldr max 0 := by
  unfold rowB
  rw [ctn, if_pos h, row_outs]
  have hk : ¬ kd = 2 := by omega
  unfold partZ
  rw [if_neg hk]
  have : rowZ kd (bSt d wr) least = decide (kd = 3 ∧ d ≠ 2 ∧ d ≠ 3 ∧ (least = false ∨ wr = 0)) := rfl
  rw [this]
  simp only [decide_eq_true_eq]
theorem fold_snoc (L : List Int) (x : Int) (hx : 0 ≤ x) : (L ++ [x]).foldr max 0 = max (L.foldr max 0) x := by
  induction L with
  | nil => simp only [List.nil_append, List.foldr_cons, List.foldr_nil]; omega
  | cons y L ih => simp only [List.cons_append, List.foldr_cons, ih]; omega
def sumX (L : List Int) : Int := (L.map itemN).sum
def mostX (L : List Int) : Int := (L.map itemN).foldr max 0
theorem sumX_snoc (L : List Int) (x : Int) : sumX (L ++ [x]) = sumX L + itemN x := by unfold sumX; simp
theorem mostX_snoc (L : List Int) (x : Int) : mostX (L ++ [x]) = max (mostX L) (itemN x) := by
  unfold mostX
  rw [List.map_append, List.map_cons, List.map_nil, fold_snoc _ _ (itemN_bd x).1]
theorem sumX_bd (L : List Int) : 0 ≤ sumX L ∧ sumX L ≤ 4140 * (L.length : Int) := by
  unfold sumX
  induction L with
  | nil => simp
  | cons x L ih => have := itemN_bd x; simp only [List.map_cons, List.sum_cons, List.length_cons]; omega
theorem mostX_bd (L : List Int) : 0 ≤ mostX L ∧ mostX L ≤ 4140 := by
  unfold mostX
  induction L with
  | nil => simp
  | cons x L ih => have := itemN_bd x; simp only [List.map_cons, List.foldr_cons]; omega
end Go.Proofs.Ytncaichachipkaa
