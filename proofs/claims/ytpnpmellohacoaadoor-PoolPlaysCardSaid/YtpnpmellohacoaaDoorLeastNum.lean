import Derived.Test.YtpnpmellohacoaaDoorPoolLaw
/- PoolLeast's round in plain words. -/
namespace Go.Proofs.YtpnpmellohacoaaDoor
open Go Go.RowKit
set_option linter.unusedVariables false
set_option linter.unusedSimpArgs false

theorem length_take_in {pl : Pl} (h : leastF pl < pl.length) : (takeP pl).length = pl.length := by rw [length_take, if_pos h]
structure One (pl : Pl) (M y : Nat) : Prop where
  no : hasP (freeP pl y) y (turnOf pl y) = false
  room : countP (freeP pl y) + 1 = M
  least : leastF (freeP pl y) = y
  turn : turnOf (freeP pl y) y = turnOf pl y
  count : countP (takeP (freeP pl y)) = M
  len : (takeP (freeP pl y)).length = M
  all : ∀ i, i < M → takenOf (takeP (freeP pl y)) i = true
  hand : handles 0 (takeP (freeP pl y)) = (handles 0 pl).set y ((y : Int), turnOf pl y + 1)
theorem one_of {pl : Pl} {M y : Nat} (hl : pl.length = M) (ht : ∀ i, i < M → takenOf pl i = true) (hy : y < M) : One pl M y := by
  have hyl : y < pl.length := by omega
  have hc : countP pl = M := by rw [count_all pl (by rw [hl]; exact ht), hl]
  have hfree : ∀ j, takenOf (freeP pl y) j = if j = y then false else takenOf pl j := takenOf_free hyl
  have hle : leastF (freeP pl y) = y := leastF_eq (by rw [hfree, if_pos rfl]) fun j hj => by rw [hfree, if_neg (by omega)]; exact ht j (by omega)
  have hfl : (freeP pl y).length = M := by rw [length_free]; exact hl
  have hcf := count_freeP (ht y hy)
  have hlen : (takeP (freeP pl y)).length = M := by rw [length_take_in (by rw [hle, hfl]; exact hy), hfl]
  refine ⟨?_, by omega, hle, turnOf_free hyl y, by rw [count_take]; omega, hlen, fun i hi => ?_, ?_⟩
  · rw [hasP_in (by rw [hfl]; exact hy), hfree, if_pos rfl]; rfl
  · rw [takenOf_take, hle, hfree]; split
    · rfl
    · exact ht i hi
  · rw [handles_ext (b := pl.set y (turnOf pl y + 1, true)) (by rw [hlen]; simp [hl]) (fun i hi => by
      rw [turnOf_take, hle, turnOf_free hyl, turnOf_set _ hyl]; split
      · subst_vars; rfl
      · rfl) 0, handles_set _ _ _ _ _ hyl, Nat.zero_add]
structure Two (pl : Pl) (M x y : Nat) : Prop where
  tx : takenOf (freeP pl y) x = true
  ux : turnOf (freeP pl y) x = turnOf pl x
  no : hasP (freeP (freeP pl y) x) y (turnOf pl y) = false
  room : countP (freeP (freeP pl y) x) + 2 = M
  least : leastF (freeP (freeP pl y) x) = x
  turn : turnOf (freeP (freeP pl y) x) x = turnOf pl x
  room3 : countP (takeP (freeP (freeP pl y) x)) + 1 = M
  least3 : leastF (takeP (freeP (freeP pl y) x)) = y
  turn3 : turnOf (takeP (freeP (freeP pl y) x)) y = turnOf pl y
  count : countP (takeP (takeP (freeP (freeP pl y) x))) = M
  len : (takeP (takeP (freeP (freeP pl y) x))).length = M
  all : ∀ i, i < M → takenOf (takeP (takeP (freeP (freeP pl y) x))) i = true
  hand : handles 0 (takeP (takeP (freeP (freeP pl y) x))) = ((handles 0 pl).set x ((x : Int), turnOf pl x + 1)).set y ((y : Int), turnOf pl y + 1)
theorem two_of {pl : Pl} {M x y : Nat} (hl : pl.length = M) (ht : ∀ i, i < M → takenOf pl i = true) (hxy : x < y) (hy : y < M) : Two pl M x y := by
  have hyl : y < pl.length := by omega
  have hc : countP pl = M := by rw [count_all pl (by rw [hl]; exact ht), hl]
  have f1 : ∀ j, takenOf (freeP pl y) j = if j = y then false else takenOf pl j := takenOf_free hyl
  have l1 : (freeP pl y).length = M := by rw [length_free]; exact hl
  have hx1 : takenOf (freeP pl y) x = true := by rw [f1, if_neg (by omega)]; exact ht x (by omega)
  have f2 : ∀ j, takenOf (freeP (freeP pl y) x) j = if j = x then false else takenOf (freeP pl y) j := takenOf_free (by omega)
  have l2 : (freeP (freeP pl y) x).length = M := by rw [length_free]; exact l1
  have t2 : ∀ j, turnOf (freeP (freeP pl y) x) j = turnOf pl j := fun j => by rw [turnOf_free (by omega), turnOf_free hyl]
  have e2 : leastF (freeP (freeP pl y) x) = x := leastF_eq (by rw [f2, if_pos rfl]) fun j hj => by rw [f2, if_neg (by omega), f1, if_neg (by omega)]; exact ht j (by omega)
  have l3 : (takeP (freeP (freeP pl y) x)).length = M := by rw [length_take_in (by rw [e2, l2]; omega), l2]
  have f3 : ∀ j, takenOf (takeP (freeP (freeP pl y) x)) j = if j = x then true else takenOf (freeP (freeP pl y) x) j := fun j => by rw [takenOf_take, e2]
  have t3 : ∀ j, turnOf (takeP (freeP (freeP pl y) x)) j = if j = x then turnOf pl j + 1 else turnOf pl j := fun j => by rw [turnOf_take, e2, t2]
  have e3 : leastF (takeP (freeP (freeP pl y) x)) = y := leastF_eq (by rw [f3, if_neg (by omega), f2, if_neg (by omega), f1, if_pos rfl]) fun j hj => by
    rw [f3]; split
    · rfl
    · rw [f2, if_neg ‹_›, f1, if_neg (by omega)]; exact ht j (by omega)
  have c1 := count_freeP (ht y hy)
  have c2 := count_freeP hx1
  have l4 : (takeP (takeP (freeP (freeP pl y) x))).length = M := by rw [length_take_in (by rw [e3, l3]; exact hy), l3]
  refine ⟨hx1, turnOf_free hyl x, ?_, by omega, e2, t2 x, by rw [count_take]; omega, e3, by rw [t3, if_neg (by omega)], by rw [count_take, count_take]; omega, l4, fun i hi => ?_, ?_⟩
  · rw [hasP_in (by rw [l2]; exact hy), f2, if_neg (by omega), f1, if_pos rfl]; rfl
  · rw [takenOf_take, e3]; split
    · rfl
    · rw [f3]; split
      · rfl
      · rw [f2, if_neg ‹_›, f1, if_neg ‹_›]; exact ht i hi
  · have hxl : x < pl.length := by omega
    rw [handles_ext (b := (pl.set x (turnOf pl x + 1, true)).set y (turnOf pl y + 1, true)) (by rw [l4]; simp [hl]) (fun i hi => by
      rw [turnOf_take, e3, t3, turnOf_set _ (by simpa using hyl), turnOf_set _ hxl]
      by_cases h1 : i = y
      · subst h1; rw [if_pos rfl, if_neg (by omega), if_pos rfl]
      · rw [if_neg h1, if_neg h1]; split
        · subst_vars; rfl
        · rfl) 0, handles_set _ _ _ _ _ (by simpa using hyl), handles_set _ _ _ _ _ hxl, Nat.zero_add, Nat.zero_add]

section
variable {B g : Nat} {most T : Int} {pl : Pl} {S : List Nat} {w : World} {n b c : Nat} {hs : List (Int × Int)}
theorem Beside.putH (hp : PB B w g most pl T S) (h : Beside B w S 27 2 (.slice (some ⟨b, 0, none⟩) n c) n (hCells hs)) (k : Nat) (hk : k < n) (p t : Int) :
    PB B ((w.setCell ⟨b, k * 2, none⟩ (.int .i64 p)).setCell ⟨b, k * 2 + 1, none⟩ (.int .i64 t)) g most pl T S ∧ Beside B ((w.setCell ⟨b, k * 2, none⟩ (.int .i64 p)).setCell ⟨b, k * 2 + 1, none⟩ (.int .i64 t)) S 27 2 (.slice (some ⟨b, 0, none⟩) n c) n (hCells (hs.set k (p, t))) ∧
      Below B w ((w.setCell ⟨b, k * 2, none⟩ (.int .i64 p)).setCell ⟨b, k * 2 + 1, none⟩ (.int .i64 t)) := by
  have hl : hs.length = n := by have := h.row.1; rw [hCells_length] at this; omega
  obtain ⟨p1, l1, b1⟩ := Beside.put hp h (k * 2) (.int .i64 p)
  obtain ⟨p2, l2, b2⟩ := Beside.put p1 l1 (k * 2 + 1) (.int .i64 t)
  exact ⟨p2, by rw [hCells_set hs k (p, t) (by omega)]; exact l2, b1.trans b2⟩
theorem Beside.hand (h : Beside B w S 27 2 (.slice (some ⟨b, 0, none⟩) n c) n (hCells hs)) {k : Nat} (hk : k < n) {p t : Int} (he : hs[k]? = some (p, t)) :
    w.cell? ⟨b, k * 2, none⟩ = some (.int .i64 p) ∧ w.cell? ⟨b, k * 2 + 1, none⟩ = some (.int .i64 t) ∧ w.frozen? ⟨b, k * 2, none⟩ = false ∧ w.frozen? ⟨b, k * 2 + 1, none⟩ = false := by
  have hl : hs.length = n := by have := h.row.1; rw [hCells_length] at this; omega
  obtain ⟨e0, e1⟩ := hCells_get hs k (by omega)
  rw [List.getElem?_eq_getElem (by omega)] at he
  injection he with he
  rw [he] at e0 e1
  exact ⟨by rw [h.row.cellAt _ (by omega)]; exact e0, by rw [h.row.cellAt _ (by omega)]; exact e1, h.row.frozenAt _, h.row.frozenAt _⟩
end
theorem handles_at {pl : Pl} {k : Nat} (h : k < pl.length) : (handles 0 pl)[k]? = some ((k : Int), turnOf pl k) := by
  rw [List.getElem?_eq_getElem (by rw [handles_length]; exact h), handles_get, Nat.zero_add]
theorem set_at {l : List (Int × Int)} {k j : Nat} {p : Int × Int} (h : k ≠ j) : (l.set k p)[j]? = l[j]? := by rw [List.getElem?_set, if_neg h]
theorem set_hit {l : List (Int × Int)} {k : Nat} {p : Int × Int} (h : k < l.length) : (l.set k p)[k]? = some p := by rw [List.getElem?_set, if_pos rfl, if_pos h]
theorem mask255 (n : Int) : bits .and .i64 n 255 = n % 256 := and_mask_i64 n 8 (by decide)
theorem place_of (n : Int) (M : Nat) (h : 1 ≤ M) : ∃ a : Nat, (bits .and .i64 n 255).tmod (M : Int) = a ∧ a < M := by
  rw [mask255, Int.tmod_eq_emod_of_nonneg (by omega)]
  have h1 := Int.emod_nonneg (n % 256) (show (M : Int) ≠ 0 by omega)
  have h2 := Int.emod_lt_of_pos (n % 256) (show (0 : Int) < M by omega)
  exact ⟨(n % 256 % M).toNat, by omega, by omega⟩
end Go.Proofs.YtpnpmellohacoaaDoor
