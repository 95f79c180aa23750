import Derived.Test.YtinnogplnpmcmaaProg
import Derived.WalkKit
import Derived.WalkLawsBesides
import Derived.WalkSpells
import Derived.Below
import Derived.Lib.Hide
import Derived.Outline
import Derived.BigQuiet
import Derived.Deep.QuietTactic
import Derived.Lib.MinMax
import Derived.IntWalk
/- rect's calls by their contracts: those without a list. -/
namespace Go.Proofs.Ytinnogplnpmcmaa
open Go.RowKit
set_option linter.unusedVariables false
set_option linter.unusedSimpArgs false

/-- A rectangle as a value. -/
abbrev rv (x y w h : Int) : Value := .agg #[.int .i64 x, .int .i64 y, .int .i64 w, .int .i64 h]
theorem ret_bool {a b : Bool} (h : a = b) : Ending.returned (.bool a) = .returned (.bool b) := by rw [h]
theorem bcell {W w1 : World} (hb : Below W.heap.size W w1) : (∀ b o, b < W.heap.size → w1.cell? ⟨b, o, none⟩ = W.cell? ⟨b, o, none⟩) ∧ (∀ b o, b < W.heap.size → w1.frozen? ⟨b, o, none⟩ = W.frozen? ⟨b, o, none⟩) :=
  ⟨fun b o h => hb.cell (p := ⟨b, o, none⟩) h, fun b o h => hb.frozen (p := ⟨b, o, none⟩) h⟩
theorem below_drewN {B : Nat} {a w : World} (h : Below B a w) (n : Nat) : Below B a (w.drewN n) := ⟨h.os, h.tape, h.output, h.size, h.block⟩
theorem below_put4 {B g : Nat} {a w : World} (h : Below B a w) (hg : B ≤ g) (u0 u1 u2 u3 : Value) : Below B a ((((w.setCell ⟨g, 0, none⟩ u0).setCell ⟨g, 1, none⟩ u1).setCell ⟨g, 2, none⟩ u2).setCell ⟨g, 3, none⟩ u3) :=
  (((h.setCell hg _).setCell hg _).setCell hg _).setCell hg _
theorem lt3 {n m : Nat} (h : n + 3 ≤ m) : n < m ∧ n + 1 < m ∧ n + 2 < m := by omega
def I64 (n : Int) : Prop := -9223372036854775808 ≤ n ∧ n ≤ 9223372036854775807

theorem isPlace_any (n : Int) (w : World) : Calls Try.prog 23 #[.int .i64 n] w fun e w' => e = .returned (.bool (decide (-35184372088832 ≤ n ∧ n ≤ 35184372088832))) ∧ w = w' := by
  go_enter Try.func23, Try.ntmps23
  go_wp2
  all_goals (go_ret; exact ⟨ret_bool (by simp <;> omega), rfl⟩)
theorem isSize_any (n : Int) (w : World) : Calls Try.prog 24 #[.int .i64 n] w fun e w' => e = .returned (.bool (decide (0 ≤ n ∧ n ≤ 35184372088832))) ∧ w = w' := by
  go_enter Try.func24, Try.ntmps24
  go_wp2
  all_goals (go_ret; exact ⟨ret_bool (by simp <;> omega), rfl⟩)
theorem between_any (x y a b : Int) (w : World) (h1 : -9223372036854775808 ≤ a - x ∧ a - x ≤ 9223372036854775807) (h2 : -9223372036854775808 ≤ b - y ∧ b - y ≤ 9223372036854775807) :
    Calls Try.prog 22 #[.int .i64 x, .int .i64 y, .int .i64 a, .int .i64 b] w fun e w' => e = .returned (rv x y (a - x) (b - y)) ∧ Below w.heap.size w w' := by
  obtain ⟨h1, h1'⟩ := h1
  obtain ⟨h2, h2'⟩ := h2
  go_enter Try.func22, Try.ntmps22
  go_wp2
  exact bodyPost_ret (v := rv x y (a - x) (b - y)) (by simp [results, Try.results22, go_sem]) rfl ⟨rfl, (Below.refl _ _).alloc (Nat.le_refl _) _⟩
theorem ends_any (x y a b : Int) (w : World) (h1 : -9223372036854775808 ≤ x + a ∧ x + a ≤ 9223372036854775807) (h2 : -9223372036854775808 ≤ y + b ∧ y + b ≤ 9223372036854775807) :
    Calls Try.prog 20 #[rv x y a b] w fun e w' => e = .returned (.tuple #[.int .i64 (x + a), .int .i64 (y + b)]) ∧ Below w.heap.size w w' := by
  obtain ⟨h1, h1'⟩ := h1
  obtain ⟨h2, h2'⟩ := h2
  go_enter Try.func20, Try.ntmps20
  go_wp2
  go_quiet (fail)
  go_wp2
  go_ret2
  exact ⟨rfl, below_drewN ((Below.refl _ _).alloc (Nat.le_refl _) _) _⟩
/-- .. as they stand in memory: the rectangle that is handed in is read. -/
def Small (x y a b : Int) : Prop := (-140737488355328 ≤ x ∧ x ≤ 140737488355328) ∧ (-140737488355328 ≤ y ∧ y ≤ 140737488355328) ∧ (-140737488355328 ≤ x + a ∧ x + a ≤ 140737488355328) ∧ (-140737488355328 ≤ y + b ∧ y + b ≤ 140737488355328)
theorem around_any (x y a b x' y' a' b' : Int) (w : World) (s : Small x y a b) (s' : Small x' y' a' b') :
    Calls Try.prog 21 #[rv x y a b, rv x' y' a' b'] w fun e w' => e = .returned (rv (min x x') (min y y') (max (x + a) (x' + a') - min x x') (max (y + b) (y' + b') - min y y')) ∧ Below w.heap.size w w' := by
  obtain ⟨⟨s1, s2⟩, ⟨s3, s4⟩, ⟨s5, s6⟩, s7, s8⟩ := s
  obtain ⟨⟨t1, t2⟩, ⟨t3, t4⟩, ⟨t5, t6⟩, t7, t8⟩ := s'
  go_enter Try.func21, Try.ntmps21
  go_wp2_with fail
  refine (ends_any x y a b _ ⟨by omega, by omega⟩ ⟨by omega, by omega⟩).mono ?_; rintro e w1 ⟨rfl, hb1⟩
  obtain ⟨c1, f1⟩ := bcell hb1
  obtain ⟨z1, z1', z1''⟩ := lt3 (n := w.heap.size) (m := w1.heap.size) (by have := hb1.size; simp at this; omega)
  have B1 := Lib.hid hb1; clear hb1
  go_wp2_with fail
  refine (ends_any x' y' a' b' _ ⟨by omega, by omega⟩ ⟨by omega, by omega⟩).mono ?_; rintro e w2 ⟨rfl, hb2⟩
  obtain ⟨c2, f2⟩ := bcell hb2
  obtain ⟨z2, z2', z2''⟩ := lt3 (n := w.heap.size) (m := w2.heap.size) (by have := hb2.size; omega)
  have B2 := Lib.hid hb2; clear hb2
  go_wp2_with fail
  refine (between_any _ _ _ _ _ ⟨by omega, by omega⟩ ⟨by omega, by omega⟩).mono ?_; rintro e w3 ⟨rfl, hb3⟩
  obtain ⟨c3, f3⟩ := bcell hb3
  obtain ⟨z3, z3', z3''⟩ := lt3 (n := w.heap.size) (m := w3.heap.size) (by have := hb3.size; omega)
  have B3 := Lib.hid hb3; clear hb3
  have HB := Lib.hid (((((((Below.refl w.heap.size w).alloc (Nat.le_refl _) _).alloc (by simp <;> omega) _).alloc (by simp <;> omega) _).trans (B1.out.mono (by simp <;> omega))).trans (B2.out.mono (by omega))).trans (B3.out.mono (by omega)))
  clear B1 B2 B3
  go_wp2
  refine bodyPost_ret (v := rv (min x x') (min y y') (max (x + a) (x' + a') - min x x') (max (y + b) (y' + b') - min y y')) ?_ rfl ⟨rfl, ?_⟩
  · simp [results, Try.results21, go_sem, c1, c2, c3, z1, z1', z1'', z2, z2', z2'', z3, z3', z3'']
  · exact (((HB.out.setCell (by simp <;> omega) _).setCell (by simp <;> omega) _).setCell (by simp <;> omega) _).setCell (by simp <;> omega) _
theorem meet_any (x y a b x' y' a' b' : Int) (w : World) (s : Small x y a b) (s' : Small x' y' a' b') (ok : Bool) (r0 r1 r2 r3 : Int)
    (hok : (min (x + a) (x' + a') - max x x' < 0 ∨ min (y + b) (y' + b') - max y y' < 0) ∧ ok = false ∧ r0 = 0 ∧ r1 = 0 ∧ r2 = 0 ∧ r3 = 0 ∨
      (0 ≤ min (x + a) (x' + a') - max x x' ∧ 0 ≤ min (y + b) (y' + b') - max y y') ∧ ok = true ∧ r0 = max x x' ∧ r1 = max y y' ∧ r2 = min (x + a) (x' + a') - max x x' ∧ r3 = min (y + b) (y' + b') - max y y') :
    Calls Try.prog 11 #[rv x y a b, rv x' y' a' b'] w fun e w' => e = .returned (.tuple #[rv r0 r1 r2 r3, .bool ok]) ∧ Below w.heap.size w w' := by
  obtain ⟨⟨s1, s2⟩, ⟨s3, s4⟩, ⟨s5, s6⟩, s7, s8⟩ := s
  obtain ⟨⟨t1, t2⟩, ⟨t3, t4⟩, ⟨t5, t6⟩, t7, t8⟩ := s'
  have HK := Lib.hid hok; clear hok
  go_enter Try.func11, Try.ntmps11
  go_wp2_with fail
  refine (ends_any x y a b _ ⟨by omega, by omega⟩ ⟨by omega, by omega⟩).mono ?_; rintro e w1 ⟨rfl, hb1⟩
  obtain ⟨c1, f1⟩ := bcell hb1
  obtain ⟨z1, z1', z1''⟩ := lt3 (n := w.heap.size) (m := w1.heap.size) (by have := hb1.size; simp at this; omega)
  have B1 := Lib.hid hb1; clear hb1
  go_wp2_with fail
  refine (ends_any x' y' a' b' _ ⟨by omega, by omega⟩ ⟨by omega, by omega⟩).mono ?_; rintro e w2 ⟨rfl, hb2⟩
  obtain ⟨c2, f2⟩ := bcell hb2
  obtain ⟨z2, z2', z2''⟩ := lt3 (n := w.heap.size) (m := w2.heap.size) (by have := hb2.size; omega)
  have B2 := Lib.hid hb2; clear hb2
  go_wp2_with fail
  refine (between_any _ _ _ _ _ ⟨by omega, by omega⟩ ⟨by omega, by omega⟩).mono ?_; rintro e w3 ⟨rfl, hb3⟩
  obtain ⟨c3, f3⟩ := bcell hb3
  obtain ⟨z3, z3', z3''⟩ := lt3 (n := w.heap.size) (m := w3.heap.size) (by have := hb3.size; omega)
  have B3 := Lib.hid hb3; clear hb3
  have HB := Lib.hid (((((((Below.refl w.heap.size w).alloc (Nat.le_refl _) _).alloc (by simp <;> omega) _).alloc (by simp <;> omega) _).trans (B1.out.mono (by simp <;> omega))).trans (B2.out.mono (by omega))).trans (B3.out.mono (by omega)))
  clear B1 B2 B3
  rcases HK.out with ⟨hd, rfl, rfl, rfl, rfl, rfl⟩ | ⟨⟨hd1, hd2⟩, rfl, rfl, rfl, rfl, rfl⟩
  · clear HK
    generalize max x x' = m0 at *
    generalize max y y' = m1 at *
    generalize min (x + a) (x' + a') = m2 at *
    generalize min (y + b) (y' + b') = m3 at *
    by_cases hd1 : m2 - m0 < 0
    · go_wp2
      refine bodyPost_ret (v := .tuple #[rv 0 0 0 0, .bool false]) ?_ rfl ⟨rfl, ?_⟩
      · simp [results, Try.results11, go_sem, c1, c2, c3, z1, z1', z1'', z2, z2', z2'', z3, z3', z3'']
      · exact ((((HB.out.setCell (by simp <;> omega) _).setCell (by simp <;> omega) _).setCell (by simp <;> omega) _).setCell (by simp <;> omega) _).alloc (by simp <;> omega) _
    · have hd2 : m3 - m1 < 0 := by omega
      have hd3 : 0 ≤ m2 - m0 := by omega
      go_wp2
      refine bodyPost_ret (v := .tuple #[rv 0 0 0 0, .bool false]) ?_ rfl ⟨rfl, ?_⟩
      · simp [results, Try.results11, go_sem, c1, c2, c3, z1, z1', z1'', z2, z2', z2'', z3, z3', z3'']
      · exact ((((HB.out.setCell (by simp <;> omega) _).setCell (by simp <;> omega) _).setCell (by simp <;> omega) _).setCell (by simp <;> omega) _).alloc (by simp <;> omega) _
  · clear HK
    go_wp2
    refine bodyPost_ret (v := .tuple #[rv (max x x') (max y y') (min (x + a) (x' + a') - max x x') (min (y + b) (y' + b') - max y y'), .bool true]) ?_ rfl ⟨rfl, ?_⟩
    · simp [results, Try.results11, go_sem, c1, c2, c3, z1, z1', z1'', z2, z2', z2'', z3, z3', z3'']
    · exact ((((HB.out.setCell (by simp <;> omega) _).setCell (by simp <;> omega) _).setCell (by simp <;> omega) _).setCell (by simp <;> omega) _).alloc (by simp <;> omega) _
def okB (x y a b : Int) : Bool := decide ((-35184372088832 ≤ x ∧ x ≤ 35184372088832) ∧ (-35184372088832 ≤ y ∧ y ≤ 35184372088832) ∧ (0 ≤ a ∧ a ≤ 35184372088832) ∧ 0 ≤ b ∧ b ≤ 35184372088832)
theorem ok_any (x y a b : Int) (w : World) : Calls Try.prog 14 #[rv x y a b] w fun e w' => e = .returned (.bool (okB x y a b)) ∧ Below w.heap.size w w' := by
  have h0 : okB x y a b = (decide (-35184372088832 ≤ x ∧ x ≤ 35184372088832) && (decide (-35184372088832 ≤ y ∧ y ≤ 35184372088832) && (decide (0 ≤ a ∧ a ≤ 35184372088832) && decide (0 ≤ b ∧ b ≤ 35184372088832)))) := by
    unfold okB; simp [Bool.decide_and]
  rw [h0]; clear h0
  have P1 := Lib.hid (isPlace_any x)
  have P2 := Lib.hid (isPlace_any y)
  have P3 := Lib.hid (isSize_any a)
  have P4 := Lib.hid (isSize_any b)
  generalize decide (-35184372088832 ≤ x ∧ x ≤ 35184372088832) = b1 at *
  generalize decide (-35184372088832 ≤ y ∧ y ≤ 35184372088832) = b2 at *
  generalize decide (0 ≤ a ∧ a ≤ 35184372088832) = b3 at *
  generalize decide (0 ≤ b ∧ b ≤ 35184372088832) = b4 at *
  go_enter Try.func14, Try.ntmps14
  cases b1
  case false =>
    go_wp2_with ((with_reducible refine (P1.out _).mono ?_); rintro e w' ⟨rfl, rfl⟩)
    go_ret
    exact ⟨ret_bool (by simp), (Below.refl _ _).alloc (Nat.le_refl _) _⟩
  cases b2
  case false =>
    go_wp2_with (first | ((with_reducible refine (P1.out _).mono ?_); rintro e w' ⟨rfl, rfl⟩) | ((with_reducible refine (P2.out _).mono ?_); rintro e w' ⟨rfl, rfl⟩))
    go_ret
    exact ⟨ret_bool (by simp), (Below.refl _ _).alloc (Nat.le_refl _) _⟩
  cases b3
  case false =>
    go_wp2_with (first | ((with_reducible refine (P1.out _).mono ?_); rintro e w' ⟨rfl, rfl⟩) | ((with_reducible refine (P2.out _).mono ?_); rintro e w' ⟨rfl, rfl⟩) | ((with_reducible refine (P3.out _).mono ?_); rintro e w' ⟨rfl, rfl⟩))
    go_ret
    exact ⟨ret_bool (by simp), (Below.refl _ _).alloc (Nat.le_refl _) _⟩
  go_wp2_with (first | ((with_reducible refine (P1.out _).mono ?_); rintro e w' ⟨rfl, rfl⟩) | ((with_reducible refine (P2.out _).mono ?_); rintro e w' ⟨rfl, rfl⟩) | ((with_reducible refine (P3.out _).mono ?_); rintro e w' ⟨rfl, rfl⟩) | ((with_reducible refine (P4.out _).mono ?_); rintro e w' ⟨rfl, rfl⟩))
  go_ret
  exact ⟨ret_bool (by simp), (Below.refl _ _).alloc (Nat.le_refl _) _⟩
def hasB (x y a b p q : Int) : Bool := decide ((x ≤ p ∧ p < x + a) ∧ y ≤ q ∧ q < y + b)
theorem has_any (x y a b p q : Int) (w : World) (s : Small x y a b) : Calls Try.prog 8 #[rv x y a b, .int .i64 p, .int .i64 q] w fun e w' => e = .returned (.bool (hasB x y a b p q)) ∧ Below w.heap.size w w' := by
  obtain ⟨⟨s1, s2⟩, ⟨s3, s4⟩, ⟨s5, s6⟩, s7, s8⟩ := s
  go_enter Try.func8, Try.ntmps8
  go_wp2_with fail
  refine (ends_any x y a b _ ⟨by omega, by omega⟩ ⟨by omega, by omega⟩).mono ?_; rintro e w1 ⟨rfl, hb1⟩
  obtain ⟨c1, f1⟩ := bcell hb1
  have z1 : w.heap.size < w1.heap.size := by have := hb1.size; simp at this; omega
  have HB := Lib.hid (((Below.refl w.heap.size w).alloc (Nat.le_refl _) _).trans (hb1.mono (by simp <;> omega))); clear hb1
  go_wp2
  all_goals
    go_ret
    exact ⟨ret_bool (by rw [Bool.eq_iff_iff]; simp [hasB] <;> omega), HB.out⟩
theorem move_any (x y a b p q : Int) (w : World) (h1 : -9223372036854775808 ≤ x + p ∧ x + p ≤ 9223372036854775807) (h2 : -9223372036854775808 ≤ y + q ∧ y + q ≤ 9223372036854775807) :
    Calls Try.prog 17 #[rv x y a b, .int .i64 p, .int .i64 q] w fun e w' => e = .returned (rv (x + p) (y + q) a b) ∧ Below w.heap.size w w' := by
  obtain ⟨h1, h1'⟩ := h1
  obtain ⟨h2, h2'⟩ := h2
  go_enter Try.func17, Try.ntmps17
  go_wp2
  refine bodyPost_ret (v := rv (x + p) (y + q) a b) (by simp [results, Try.results17, go_sem]) rfl ⟨rfl, ?_⟩
  exact ((Below.refl _ _).alloc (Nat.le_refl _) _).alloc (by simp <;> omega) _
end Go.Proofs.Ytinnogplnpmcmaa
