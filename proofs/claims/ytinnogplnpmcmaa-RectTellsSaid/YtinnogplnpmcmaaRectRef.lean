import Derived.Test.YtinnogplnpmcmaaRects
/- The document's own answers for rectangles, by their contracts. -/
namespace Go.Proofs.Ytinnogplnpmcmaa
open Go.RowKit
set_option linter.unusedVariables false
set_option linter.unusedSimpArgs false

theorem rok_any (x y a b : Int) (w : World) : Calls Try.prog 15 #[rv x y a b] w fun e w' => e = .returned (.bool (okB x y a b)) ∧ Below w.heap.size w w' := by
  go_enter Try.func15, Try.ntmps15
  go_wp2
  all_goals
    go_ret
    exact ⟨ret_bool (by rw [Bool.eq_iff_iff]; simp [okB] <;> omega), (Below.refl _ _).alloc (Nat.le_refl _) _⟩
theorem rhas_any (x y a b p q : Int) (w : World) (s : Small x y a b) : Calls Try.prog 16 #[rv x y a b, .int .i64 p, .int .i64 q] w fun e w' => e = .returned (.bool (hasB x y a b p q)) ∧ Below w.heap.size w w' := by
  obtain ⟨⟨s1, s2⟩, ⟨s3, s4⟩, ⟨s5, s6⟩, s7, s8⟩ := s
  go_enter Try.func16, Try.ntmps16
  go_wp2
  all_goals
    go_ret
    exact ⟨ret_bool (by rw [Bool.eq_iff_iff]; simp [hasB] <;> omega), (Below.refl _ _).alloc (Nat.le_refl _) _⟩
theorem rmove_any (x y a b p q : Int) (w : World) (h1 : -9223372036854775808 ≤ x + p ∧ x + p ≤ 9223372036854775807) (h2 : -9223372036854775808 ≤ y + q ∧ y + q ≤ 9223372036854775807) :
    Calls Try.prog 18 #[rv x y a b, .int .i64 p, .int .i64 q] w fun e w' => e = .returned (rv (x + p) (y + q) a b) ∧ Below w.heap.size w w' := by
  obtain ⟨h1, h1'⟩ := h1
  obtain ⟨h2, h2'⟩ := h2
  go_enter Try.func18, Try.ntmps18
  go_wp2
  refine bodyPost_ret (v := rv (x + p) (y + q) a b) (by simp [results, Try.results18, go_sem]) rfl ⟨rfl, ?_⟩
  exact ((Below.refl _ _).alloc (Nat.le_refl _) _).alloc (by simp <;> omega) _
set_option maxHeartbeats 2000000 in
theorem rmeet_any (x y a b x' y' a' b' : Int) (w : World) (s : Small x y a b) (s' : Small x' y' a' b') (ok : Bool) (r0 r1 r2 r3 : Int)
    (hok : (min (x + a) (x' + a') - max x x' < 0 ∨ min (y + b) (y' + b') - max y y' < 0) ∧ ok = false ∧ r0 = 0 ∧ r1 = 0 ∧ r2 = 0 ∧ r3 = 0 ∨
      (0 ≤ min (x + a) (x' + a') - max x x' ∧ 0 ≤ min (y + b) (y' + b') - max y y') ∧ ok = true ∧ r0 = max x x' ∧ r1 = max y y' ∧ r2 = min (x + a) (x' + a') - max x x' ∧ r3 = min (y + b) (y' + b') - max y y') :
    Calls Try.prog 13 #[rv x y a b, rv x' y' a' b'] w fun e w' => e = .returned (.tuple #[rv r0 r1 r2 r3, .bool ok]) ∧ Below w.heap.size w w' := by
  obtain ⟨⟨s1, s2⟩, ⟨s3, s4⟩, ⟨s5, s6⟩, s7, s8⟩ := s
  obtain ⟨⟨t1, t2⟩, ⟨t3, t4⟩, ⟨t5, t6⟩, t7, t8⟩ := s'
  have HK := Lib.hid hok; clear hok
  have i1 := IntWalk.i64_in (x + a) (by omega)
  have i2 := IntWalk.i64_in (y + b) (by omega)
  have i3 := IntWalk.i64_in (x' + a') (by omega)
  have i4 := IntWalk.i64_in (y' + b') (by omega)
  go_enter Try.func13, Try.ntmps13
  go_wp2
  go_quiet (fail)
  clear i1 i2 i3 i4
  rcases HK.out with ⟨hd, rfl, rfl, rfl, rfl, rfl⟩ | ⟨⟨hd1, hd2⟩, rfl, rfl, rfl, rfl, rfl⟩
  · clear HK
    generalize max x x' = m0 at *
    generalize max y y' = m1 at *
    generalize min (x + a) (x' + a') = m2 at *
    generalize min (y + b) (y' + b') = m3 at *
    by_cases hd1 : m2 < m0
    · go_wp2
      refine bodyPost_ret (v := .tuple #[rv 0 0 0 0, .bool false]) ?_ rfl ⟨rfl, ?_⟩
      · simp [results, Try.results13, go_sem]
      · exact below_put4 (below_drewN ((((Below.refl w.heap.size w).alloc (Nat.le_refl _) _).alloc (by simp) _).alloc (by simp <;> omega) _) _) (by omega) _ _ _ _
    · have hd2 : m3 < m1 := by omega
      have hd3 : m0 ≤ m2 := by omega
      go_wp2
      refine bodyPost_ret (v := .tuple #[rv 0 0 0 0, .bool false]) ?_ rfl ⟨rfl, ?_⟩
      · simp [results, Try.results13, go_sem]
      · exact below_put4 (below_drewN ((((Below.refl w.heap.size w).alloc (Nat.le_refl _) _).alloc (by simp) _).alloc (by simp <;> omega) _) _) (by omega) _ _ _ _
  · clear HK
    go_wp2
    refine bodyPost_ret (v := .tuple #[rv (max x x') (max y y') (min (x + a) (x' + a') - max x x') (min (y + b) (y' + b') - max y y'), .bool true]) ?_ rfl ⟨rfl, ?_⟩
    · simp [results, Try.results13, go_sem]
    · exact below_put4 (below_drewN ((((Below.refl w.heap.size w).alloc (Nat.le_refl _) _).alloc (by simp) _).alloc (by simp <;> omega) _) _) (by omega) _ _ _ _
end Go.Proofs.Ytinnogplnpmcmaa
