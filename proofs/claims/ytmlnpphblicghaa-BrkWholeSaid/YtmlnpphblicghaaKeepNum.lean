import Derived.Test.YtmlnpphblicghaaMonoNum
import Derived.Test.YtmlnpphblicghaaGlyphMem
/- Rows that nothing parts, and two of them with a break between. No function of the program is named here. -/
namespace Go.Proofs.Ytmlnpphblicghaa
open Go Go.RowKit
set_option linter.unusedVariables false
set_option linter.unusedSimpArgs false

def setK (v : Int) (x : Gl) : Gl := ⟨v, x.run, x.at_, x.adv⟩
def midK (v : Int) : List Gl → Nat → List Gl
  | l, 0 => l
  | [], _ + 1 => []
  | x :: l, k + 1 => setK v x :: midK v l k
section
variable (v : Int)
theorem midK_length : ∀ (l : List Gl) (k : Nat), (midK v l k).length = l.length
  | l, 0 => by simp [midK]
  | [], k + 1 => rfl
  | x :: l, k + 1 => by simp [midK, midK_length l k]
theorem midK_zero (l : List Gl) : midK v l 0 = l := by cases l <;> rfl
theorem midK_get : ∀ (l : List Gl) (k : Nat) (h : k < l.length), (midK v l k)[k]'(by rw [midK_length]; exact h) = l[k]
  | x :: l, 0, h => rfl
  | x :: l, k + 1, h => by simp only [midK, List.getElem_cons_succ]; exact midK_get l k (by simpa using h)
theorem midK_succ : ∀ (l : List Gl) (k : Nat) (h : k < l.length), midK v l (k + 1) = (midK v l k).set k (setK v l[k])
  | x :: l, 0, h => by simp [midK]
  | x :: l, k + 1, h => by
    rw [midK, midK_succ l k (by simpa using h)]; simp [midK]
theorem midK_all : ∀ (l : List Gl), midK v l l.length = l.map (setK v)
  | [] => rfl
  | x :: l => by simp [midK, midK_all l]
theorem gCells_setKind : ∀ (l : List Gl) (k : Nat) (h : k < l.length), (gCells l).set (k * 4) v = gCells (l.set k (setK v l[k]))
  | x :: l, 0, h => rfl
  | x :: l, k + 1, h => by
    have := gCells_setKind l k (by simpa using h)
    rw [show (k + 1) * 4 = k * 4 + 1 + 1 + 1 + 1 by omega]
    simp only [gCells, List.set_cons_succ, List.getElem_cons_succ, this]
theorem i64s_put (zs : List Int) (i : Nat) (n : Int) : (i64s zs).set i (.int .i64 n) = i64s (zs.set i n) := by simp [i64s, List.map_set]
theorem midK_put (l : List Gl) (k : Nat) (h : k < l.length) : (i64s (gCells (midK v l k))).set (k * 4) (.int .i64 v) = i64s (gCells (midK v l (k + 1))) := by
  rw [i64s_put, gCells_setKind v (midK v l k) k (by rw [midK_length]; exact h), midK_get v l k h, midK_succ v l k h]
theorem sumA_setK : ∀ (l : List Gl), sumA (l.map (setK v)) = sumA l
  | [] => rfl
  | x :: l => by rw [List.map_cons, sumA_cons, sumA_cons, sumA_setK l]; rfl
theorem kd_setK (l : List Gl) (j : Nat) (h : j < l.length) : kd (l.map (setK v)) j = v := by
  rw [kd_at _ j (by rw [List.length_map]; exact h), List.getElem_map]; rfl
end
theorem sumT_full (g : List Gl) : sumT g 0 g.length = sumA g := by unfold sumT; rw [List.drop_zero, Nat.sub_zero, List.take_length]
theorem line_ends {a : Int} {g : List Gl} {i t e : Nat} {v : Int} (h : LineAt a g i t v) (hi : i < g.length) (he : e ≤ g.length) (hn : ∀ j, i ≤ j → j < e → kd g j ≠ 2 ∧ kd g j ≠ 4) (h4 : kd g e = 4) (hie : i ≤ e) : t = e := by
  have h1 := h.le
  rcases Nat.lt_trichotomy t e with hlt | heq | hgt
  · rcases h.ends with h2 | h2
    · exact absurd h2 (hn t h1 hlt).1
    · exact absurd h2 (hn t h1 hlt).2
  · exact heq
  · exact absurd h4 (h.noBreak e hie hgt)
theorem lines_one {a : Int} {g : List Gl} (h0 : 0 < g.length) (hn : ∀ j, j < g.length → kd g j ≠ 2 ∧ kd g j ≠ 4) : linesL a g = [⟨0, g.length, sumA g⟩] := by
  rw [← linesI_zero, linesI_step a g 0 h0]
  have hl := lineAt a g 0
  generalize endL a (g.drop 0) 0 0 none = p at *
  obtain ⟨t, v⟩ := p
  simp only at hl ⊢
  have ht := line_ends hl h0 (Nat.le_refl _) (fun j _ h => hn j h) (kd_out g _ (Nat.le_refl _)) (by omega)
  have hv := hl.sum
  subst ht
  rw [sumT_full] at hv
  subst hv
  rw [linesI_end a g _ (by omega)]
  rfl
/-- Two rows, a break between. -/
def bothL (x y : List Gl) : List Gl := x ++ [(⟨4, 0, 0, 0⟩ : Gl)] ++ y
theorem bothL_len (x y : List Gl) : (bothL x y).length = x.length + 1 + y.length := by simp [bothL]; omega
theorem kd_both (x y : List Gl) (j : Nat) : kd (bothL x y) j = if j < x.length then kd x j else if j = x.length then 4 else kd y (j - (x.length + 1)) := by
  unfold bothL kd
  by_cases h1 : j < x.length
  · rw [if_pos h1, List.getElem?_append_left (by simp; omega), List.getElem?_append_left h1]
  · rw [if_neg h1]
    by_cases h2 : j = x.length
    · rw [if_pos h2, List.getElem?_append_left (by simp; omega), List.getElem?_append_right (by omega)]
      subst h2
      simp
    · rw [if_neg h2, List.getElem?_append_right (by simp; omega)]
      simp
theorem sum_left (x y : List Gl) : sumT (bothL x y) 0 x.length = sumA x := by
  unfold sumT bothL
  rw [List.drop_zero, Nat.sub_zero, List.append_assoc, List.take_left]
theorem sum_right (x y : List Gl) : sumT (bothL x y) (x.length + 1) (x.length + 1 + y.length) = sumA y := by
  unfold sumT bothL
  rw [List.drop_left' (by simp), show x.length + 1 + y.length - (x.length + 1) = y.length by omega, List.take_length]
theorem lines_two {a : Int} {x y : List Gl} (h0 : 0 < y.length) (hx : ∀ j, j < x.length → kd x j ≠ 2 ∧ kd x j ≠ 4) (hy : ∀ j, j < y.length → kd y j ≠ 2 ∧ kd y j ≠ 4) :
    linesL a (bothL x y) = [⟨0, x.length, sumA x⟩, ⟨(x.length : Int) + 1, (x.length : Int) + 1 + y.length, sumA y⟩] := by
  have hlen := bothL_len x y
  have hk := kd_both x y
  rw [← linesI_zero, linesI_step a _ 0 (by omega)]
  have hl := lineAt a (bothL x y) 0
  generalize endL a ((bothL x y).drop 0) 0 0 none = p at *
  obtain ⟨t, v⟩ := p
  simp only at hl ⊢
  have ht := line_ends (e := x.length) hl (by omega) (by omega) (fun j _ h => by rw [hk, if_pos h]; exact hx j h) (by rw [hk, if_neg (by omega), if_pos rfl]) (by omega)
  have hv := hl.sum
  subst ht
  rw [sum_left] at hv
  subst hv
  rw [linesI_step a _ (x.length + 1) (by omega)]
  have hl2 := lineAt a (bothL x y) (x.length + 1)
  generalize endL a ((bothL x y).drop (x.length + 1)) (x.length + 1) 0 none = p at *
  obtain ⟨t, v⟩ := p
  simp only at hl2 ⊢
  have ht := line_ends (e := x.length + 1 + y.length) hl2 (by omega) (by omega) (fun j h1 h2 => by rw [hk, if_neg (by omega), if_neg (by omega)]; exact hy _ (by omega)) (kd_out _ _ (by omega)) (by omega)
  have hv := hl2.sum
  subst ht
  rw [sum_right] at hv
  subst hv
  rw [linesI_end a _ _ (by omega)]
  simp
theorem longL_row : ∀ (l r : List Gl) (most now : Int), Adv0 l → now ≤ most → (∀ x ∈ l, x.kind ≠ 4) → longL false (l ++ r) most now = longL false r (max most (now + sumA l)) (now + sumA l)
  | [], r, most, now, hg, h, hk => by rw [sumA_nil, Int.add_zero, List.nil_append, Int.max_eq_left h]
  | x :: l, r, most, now, hg, h, hk => by
    have hx := hg x (by simp)
    have hl : Adv0 l := fun y hy => hg y (by simp [hy])
    have hs := sumA_nonneg l hl
    have hn : ¬ (x.kind = 4 ∨ (false = true ∧ x.kind = 2)) := fun hc => by
      rcases hc with hc | ⟨hc, _⟩
      · exact hk x (by simp) hc
      · cases hc
    rw [List.cons_append, longL, if_neg hn, longL_row l r _ _ hl (by omega) (fun y hy => hk y (by simp [hy])), sumA_cons]
    congr 1 <;> omega
theorem most_two {x y : List Gl} (hx0 : Adv0 x) (hy0 : Adv0 y) (hx : ∀ z ∈ x, z.kind ≠ 4) (hy : ∀ z ∈ y, z.kind ≠ 4) : mostL (bothL x y) = max (sumA x) (sumA y) := by
  have h1 := sumA_nonneg x hx0
  have h2 := sumA_nonneg y hy0
  unfold mostL bothL
  rw [List.append_assoc, longL_row x _ 0 0 hx0 (Int.le_refl _) hx, Int.zero_add]
  have e : longL false ([(⟨4, 0, 0, 0⟩ : Gl)] ++ y) (max 0 (sumA x)) (sumA x) = longL false (y ++ []) (max (max 0 (sumA x)) 0) 0 := by simp [longL]
  rw [e, longL_row y [] _ 0 hy0 (by omega) hy, Int.zero_add]
  simp only [longL]
  omega
end Go.Proofs.Ytmlnpphblicghaa
