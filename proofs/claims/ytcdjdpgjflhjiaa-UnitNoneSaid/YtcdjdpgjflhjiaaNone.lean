import Derived.Test.YtcdjdpgjflhjiaaSame
/- quoinlaw1.UnitNone answers true, whatever it is given. -/
namespace Go.Proofs.Ytcdjdpgjflhjiaa
open Go.RowKit
set_option linter.unusedVariables false
set_option linter.unusedSimpArgs false

structure NoneFacts : Prop where
  k0 : ∀ m, shareOk m [1, -1] = false
  k1 : ∀ m, shareOk m [1125899906842625] = false
  k2 : shareOk 1152921504606846977 [1] = false
  k3 : ∀ m, -1000 < m → m < 1000 → shareOk m [] = true
  k4 : shareOk 1152921504606846976 [1] = true
  k5 : shareAt 1152921504606846976 [1] 0 = 1152921504606846976
theorem noneFacts : NoneFacts where
  k0 m := by simp [shareOk, sumOk, wOk]
  k1 m := by simp [shareOk, sumOk, wOk]
  k2 := by decide
  k3 m h1 h2 := by simp [shareOk, sumOk]; omega
  k4 := by decide
  k5 := by decide
def NRow (j g : Nat) (W : World) : Prop :=
  (j = 0 → Row W (g + 3) (some ⟨g + 1 + 1, 0, none⟩) (i64s [1, -1])) ∧ (j = 1 → Row W (g + 4) (some ⟨g + 1 + 1 + 1, 0, none⟩) (i64s [1125899906842625]))
theorem rz1 (m : Int) : ratZ m 1 0 = 0 := by simp [ratZ]
theorem rz2 (m : Int) : ratZ m (-1) 5 = 0 := by simp [ratZ]
theorem rz3 (m : Int) : ratZ m 6 5 = 0 := by simp [ratZ]
theorem rz4 : ratZ 1152921504606846977 1 5 = 0 := by decide
theorem rz5 : ratZ (-1152921504606846977) 1 5 = 0 := by decide
theorem rz6 (m : Int) : ratZ m 1 1152921504606846977 = 0 := by simp [ratZ]
theorem nrow_of (w : World) (o1 o2 o5 o6 : Obj) (j : Nat) : NRow j w.heap.size ((((((w.alloc o1).alloc o2).alloc (.cells #[.int .i64 1, .int .i64 (-1)] 2)).alloc (.cells #[.int .i64 1125899906842625] 2)).alloc o5).alloc o6) := by
  constructor
  · intro _
    exact ((((row_at ((w.alloc o1).alloc o2) (w.heap.size + 1 + 1) #[.int .i64 1, .int .i64 (-1)] _ (by simp)).alloc (by simp) _).alloc (by simp) _).alloc (by simp) _)
  · intro _
    exact (((row_at (((w.alloc o1).alloc o2).alloc _) (w.heap.size + 1 + 1 + 1) #[.int .i64 1125899906842625] _ (by simp)).alloc (by simp) _).alloc (by simp) _)
theorem below6 (w : World) (o1 o2 o3 o4 o5 o6 : Obj) : Below w.heap.size w ((((((w.alloc o1).alloc o2).alloc o3).alloc o4).alloc o5).alloc o6) :=
  below_next (below_next (below_next (below_next (below_next (below_next (Below.refl w.heap.size w) o1) o2) o3) o4) o5) o6

set_option maxHeartbeats 2000000 in
theorem none_walk_0_0 (wh n : Int) (l0 : -9223372036854775808 ≤ wh) (u0 : wh ≤ 9223372036854775807) (l1 : -9223372036854775808 ≤ n) (u1 : n ≤ 9223372036854775807) (w : World) (hi0 : wh % 256 % 6 = 0) (hj0 : wh / 256 % 256 % 3 = 0) :
    Calls Try.prog 4 #[.int .i64 wh, .int .i64 n] w fun e w' => e = .returned (.bool true) ∧ Below w.heap.size w w' := by
  have a255 := and255 wh
  have b255 := and255 (wh / 256)
  have hi : wh % 256 % 6 = ((0 : Nat) : Int) := hi0
  have hj : wh / 256 % 256 % 3 = ((0 : Nat) : Int) := hj0
  clear hi0 hj0
  obtain ⟨big, hmk⟩ : ∃ big : Array Value, ∀ W : World, (Instr.makeSlice 22 (.int .i64 1001) (.int .i64 1001)).run Try.prog W = .ok (.slice (some ⟨W.heap.size, 0, none⟩) 1001 1001) (W.alloc (.cells big 2)) :=
    ⟨_, fun W => run_make_row' (P := Try.prog) 22 2 (.int .i64 0) 8 Try.underlying22 int_info rfl .i64 .i64 1001 (by omega) (by omega) W⟩
  have l2 := Int.tmod_lt_of_pos n (show (0 : Int) < 1000 by decide)
  have u2 := Int.lt_tmod_of_pos n (show (0 : Int) < 1000 by decide)
  have HK := Lib.hid noneFacts
  go_enter Try.func4, Try.ntmps4
  go_wp2_with fail
  refine (?_ : ∀ W : World, Below w.heap.size w W → NRow 0 w.heap.size W → Calls _ _ _ W _) _ (below6 w _ _ _ _ _ _) (nrow_of w _ _ _ _ _)
  clear a255 b255 hi hj hmk
  intro W HB hrow
  have hr0 := hrow
  clear hrow
  refine (ratio_any _ _ _ _).mono ?_
  rintro e w' ⟨rfl, kk, rfl⟩
  simp only [rz1]
  have HB := Lib.hid HB
  go_wp2_with fail
  refine (share_no _ _ _ [1, -1] _ _ ((hr0.1 rfl).drewN _) (by decide) (HK.out.k0 _)).mono ?_
  rintro e w' ⟨rfl, rfl⟩
  clear hr0
  go_wp2_with fail
  refine (share_no _ _ _ [1] _ _ (row_at _ _ #[.int .i64 1] _ (by first | rfl | simp)) (by decide) HK.out.k2).mono ?_
  rintro e w' ⟨rfl, rfl⟩
  go_wp2_with fail
  refine (share_yes _ none 0 [] _ 0 (Nat.zero_le _) (Row.nil _ _ _) (HK.out.k3 _ u2 l2)).mono ?_
  rintro e w1 ⟨rfl, hrow1, hb1⟩
  clear hrow1
  have hB1 : Below w.heap.size w w1 := Below.trans (Below.drewN' (HB.out.alloc HB.out.size _) _) (hb1.mono (by have := HB.out.size; simp; omega))
  clear hb1 HB
  go_wp2_with fail
  refine (share_yes _ _ _ [1] _ _ (Nat.le_refl _) ((row_new w1 #[.int .i64 1] _).more (by simp)) HK.out.k4).mono ?_
  rintro e w2 ⟨rfl, hrow2, hb2⟩
  have hB2 : Below w.heap.size w w2 := Below.trans (hB1.alloc hB1.size _) (hb2.mono (by have := hB1.size; simp; omega))
  have hr2 : Row w2 w2.heap.size (some ⟨(w1.alloc (.cells #[.int .i64 1] 2)).heap.size, 0, none⟩) (i64s [1152921504606846976]) := by
    have h := row_of_rowIs hrow2 hrow2.lt
    rwa [show (List.range ([1] : List Int).length).map (shareAt 1152921504606846976 [1]) = [1152921504606846976] from by rw [← HK.out.k5]; rfl] at h
  simp only [World.size_alloc] at hr2
  clear hrow2 hb2 hB1
  go_wp2_with fail
  refine (same_yes _ _ _ _ 1 [1152921504606846976] _ _ _ (hr2.alloc (Nat.le_refl _) _) (row_new w2 #[.int .i64 1152921504606846976] _) rfl (by decide)).mono ?_
  rintro e w' ⟨rfl, q, rfl⟩
  go_wp2_with (go_at_call 9; refine (awake_any _).mono ?_; rintro e w' ⟨rfl, hbela⟩)
  go_ret
  exact ⟨rfl, Below.trans (Below.drewN' (hB2.alloc hB2.size _) q) (hbela.mono (by have := hB2.size; simp; omega))⟩

set_option maxHeartbeats 2000000 in
theorem none_walk_0_1 (wh n : Int) (l0 : -9223372036854775808 ≤ wh) (u0 : wh ≤ 9223372036854775807) (l1 : -9223372036854775808 ≤ n) (u1 : n ≤ 9223372036854775807) (w : World) (hi0 : wh % 256 % 6 = 0) (hj0 : wh / 256 % 256 % 3 = 1) :
    Calls Try.prog 4 #[.int .i64 wh, .int .i64 n] w fun e w' => e = .returned (.bool true) ∧ Below w.heap.size w w' := by
  have a255 := and255 wh
  have b255 := and255 (wh / 256)
  have hi : wh % 256 % 6 = ((0 : Nat) : Int) := hi0
  have hj : wh / 256 % 256 % 3 = ((1 : Nat) : Int) := hj0
  clear hi0 hj0
  obtain ⟨big, hmk⟩ : ∃ big : Array Value, ∀ W : World, (Instr.makeSlice 22 (.int .i64 1001) (.int .i64 1001)).run Try.prog W = .ok (.slice (some ⟨W.heap.size, 0, none⟩) 1001 1001) (W.alloc (.cells big 2)) :=
    ⟨_, fun W => run_make_row' (P := Try.prog) 22 2 (.int .i64 0) 8 Try.underlying22 int_info rfl .i64 .i64 1001 (by omega) (by omega) W⟩
  have l2 := Int.tmod_lt_of_pos n (show (0 : Int) < 1000 by decide)
  have u2 := Int.lt_tmod_of_pos n (show (0 : Int) < 1000 by decide)
  have HK := Lib.hid noneFacts
  go_enter Try.func4, Try.ntmps4
  go_wp2_with fail
  refine (?_ : ∀ W : World, Below w.heap.size w W → NRow 1 w.heap.size W → Calls _ _ _ W _) _ (below6 w _ _ _ _ _ _) (nrow_of w _ _ _ _ _)
  clear a255 b255 hi hj hmk
  intro W HB hrow
  have hr0 := hrow
  clear hrow
  refine (ratio_any _ _ _ _).mono ?_
  rintro e w' ⟨rfl, kk, rfl⟩
  simp only [rz1]
  have HB := Lib.hid HB
  go_wp2_with fail
  refine (share_no _ _ _ [1125899906842625] _ _ ((hr0.2 rfl).drewN _) (by decide) (HK.out.k1 _)).mono ?_
  rintro e w' ⟨rfl, rfl⟩
  clear hr0
  go_wp2_with fail
  refine (share_no _ _ _ [1] _ _ (row_at _ _ #[.int .i64 1] _ (by first | rfl | simp)) (by decide) HK.out.k2).mono ?_
  rintro e w' ⟨rfl, rfl⟩
  go_wp2_with fail
  refine (share_yes _ none 0 [] _ 0 (Nat.zero_le _) (Row.nil _ _ _) (HK.out.k3 _ u2 l2)).mono ?_
  rintro e w1 ⟨rfl, hrow1, hb1⟩
  clear hrow1
  have hB1 : Below w.heap.size w w1 := Below.trans (Below.drewN' (HB.out.alloc HB.out.size _) _) (hb1.mono (by have := HB.out.size; simp; omega))
  clear hb1 HB
  go_wp2_with fail
  refine (share_yes _ _ _ [1] _ _ (Nat.le_refl _) ((row_new w1 #[.int .i64 1] _).more (by simp)) HK.out.k4).mono ?_
  rintro e w2 ⟨rfl, hrow2, hb2⟩
  have hB2 : Below w.heap.size w w2 := Below.trans (hB1.alloc hB1.size _) (hb2.mono (by have := hB1.size; simp; omega))
  have hr2 : Row w2 w2.heap.size (some ⟨(w1.alloc (.cells #[.int .i64 1] 2)).heap.size, 0, none⟩) (i64s [1152921504606846976]) := by
    have h := row_of_rowIs hrow2 hrow2.lt
    rwa [show (List.range ([1] : List Int).length).map (shareAt 1152921504606846976 [1]) = [1152921504606846976] from by rw [← HK.out.k5]; rfl] at h
  simp only [World.size_alloc] at hr2
  clear hrow2 hb2 hB1
  go_wp2_with fail
  refine (same_yes _ _ _ _ 1 [1152921504606846976] _ _ _ (hr2.alloc (Nat.le_refl _) _) (row_new w2 #[.int .i64 1152921504606846976] _) rfl (by decide)).mono ?_
  rintro e w' ⟨rfl, q, rfl⟩
  go_wp2_with (go_at_call 9; refine (awake_any _).mono ?_; rintro e w' ⟨rfl, hbela⟩)
  go_ret
  exact ⟨rfl, Below.trans (Below.drewN' (hB2.alloc hB2.size _) q) (hbela.mono (by have := hB2.size; simp; omega))⟩

set_option maxHeartbeats 2000000 in
theorem none_walk_0_2 (wh n : Int) (l0 : -9223372036854775808 ≤ wh) (u0 : wh ≤ 9223372036854775807) (l1 : -9223372036854775808 ≤ n) (u1 : n ≤ 9223372036854775807) (w : World) (hi0 : wh % 256 % 6 = 0) (hj0 : wh / 256 % 256 % 3 = 2) :
    Calls Try.prog 4 #[.int .i64 wh, .int .i64 n] w fun e w' => e = .returned (.bool true) ∧ Below w.heap.size w w' := by
  have a255 := and255 wh
  have b255 := and255 (wh / 256)
  have hi : wh % 256 % 6 = ((0 : Nat) : Int) := hi0
  have hj : wh / 256 % 256 % 3 = ((2 : Nat) : Int) := hj0
  clear hi0 hj0
  obtain ⟨big, hmk⟩ : ∃ big : Array Value, ∀ W : World, (Instr.makeSlice 22 (.int .i64 1001) (.int .i64 1001)).run Try.prog W = .ok (.slice (some ⟨W.heap.size, 0, none⟩) 1001 1001) (W.alloc (.cells big 2)) :=
    ⟨_, fun W => run_make_row' (P := Try.prog) 22 2 (.int .i64 0) 8 Try.underlying22 int_info rfl .i64 .i64 1001 (by omega) (by omega) W⟩
  have l2 := Int.tmod_lt_of_pos n (show (0 : Int) < 1000 by decide)
  have u2 := Int.lt_tmod_of_pos n (show (0 : Int) < 1000 by decide)
  have HK := Lib.hid noneFacts
  go_enter Try.func4, Try.ntmps4
  go_wp2_with fail
  refine (?_ : ∀ W : World, Below w.heap.size w W → NRow 2 w.heap.size W → Calls _ _ _ W _) _ (below6 w _ _ _ _ _ _) (nrow_of w _ _ _ _ _)
  clear a255 b255 hi hj hmk
  intro W HB hrow
  have hr0 := hrow
  clear hrow
  refine (ratio_any _ _ _ _).mono ?_
  rintro e w' ⟨rfl, kk, rfl⟩
  simp only [rz1]
  have HB := Lib.hid HB
  go_wp2_with fail
  refine (share_long _ _ _ 1001 _ (by decide) (by decide)).mono ?_
  rintro e w' ⟨rfl, rfl⟩
  clear hr0
  go_wp2_with fail
  refine (share_no _ _ _ [1] _ _ (row_at _ _ #[.int .i64 1] _ (by first | rfl | simp)) (by decide) HK.out.k2).mono ?_
  rintro e w' ⟨rfl, rfl⟩
  go_wp2_with fail
  refine (share_yes _ none 0 [] _ 0 (Nat.zero_le _) (Row.nil _ _ _) (HK.out.k3 _ u2 l2)).mono ?_
  rintro e w1 ⟨rfl, hrow1, hb1⟩
  clear hrow1
  have hB1 : Below w.heap.size w w1 := Below.trans (Below.drewN' (HB.out.alloc HB.out.size _) _) (hb1.mono (by have := HB.out.size; simp; omega))
  clear hb1 HB
  go_wp2_with fail
  refine (share_yes _ _ _ [1] _ _ (Nat.le_refl _) ((row_new w1 #[.int .i64 1] _).more (by simp)) HK.out.k4).mono ?_
  rintro e w2 ⟨rfl, hrow2, hb2⟩
  have hB2 : Below w.heap.size w w2 := Below.trans (hB1.alloc hB1.size _) (hb2.mono (by have := hB1.size; simp; omega))
  have hr2 : Row w2 w2.heap.size (some ⟨(w1.alloc (.cells #[.int .i64 1] 2)).heap.size, 0, none⟩) (i64s [1152921504606846976]) := by
    have h := row_of_rowIs hrow2 hrow2.lt
    rwa [show (List.range ([1] : List Int).length).map (shareAt 1152921504606846976 [1]) = [1152921504606846976] from by rw [← HK.out.k5]; rfl] at h
  simp only [World.size_alloc] at hr2
  clear hrow2 hb2 hB1
  go_wp2_with fail
  refine (same_yes _ _ _ _ 1 [1152921504606846976] _ _ _ (hr2.alloc (Nat.le_refl _) _) (row_new w2 #[.int .i64 1152921504606846976] _) rfl (by decide)).mono ?_
  rintro e w' ⟨rfl, q, rfl⟩
  go_wp2_with (go_at_call 9; refine (awake_any _).mono ?_; rintro e w' ⟨rfl, hbela⟩)
  go_ret
  exact ⟨rfl, Below.trans (Below.drewN' (hB2.alloc hB2.size _) q) (hbela.mono (by have := hB2.size; simp; omega))⟩

set_option maxHeartbeats 2000000 in
theorem none_walk_1_0 (wh n : Int) (l0 : -9223372036854775808 ≤ wh) (u0 : wh ≤ 9223372036854775807) (l1 : -9223372036854775808 ≤ n) (u1 : n ≤ 9223372036854775807) (w : World) (hi0 : wh % 256 % 6 = 1) (hj0 : wh / 256 % 256 % 3 = 0) :
    Calls Try.prog 4 #[.int .i64 wh, .int .i64 n] w fun e w' => e = .returned (.bool true) ∧ Below w.heap.size w w' := by
  have a255 := and255 wh
  have b255 := and255 (wh / 256)
  have hi : wh % 256 % 6 = ((1 : Nat) : Int) := hi0
  have hj : wh / 256 % 256 % 3 = ((0 : Nat) : Int) := hj0
  clear hi0 hj0
  obtain ⟨big, hmk⟩ : ∃ big : Array Value, ∀ W : World, (Instr.makeSlice 22 (.int .i64 1001) (.int .i64 1001)).run Try.prog W = .ok (.slice (some ⟨W.heap.size, 0, none⟩) 1001 1001) (W.alloc (.cells big 2)) :=
    ⟨_, fun W => run_make_row' (P := Try.prog) 22 2 (.int .i64 0) 8 Try.underlying22 int_info rfl .i64 .i64 1001 (by omega) (by omega) W⟩
  have l2 := Int.tmod_lt_of_pos n (show (0 : Int) < 1000 by decide)
  have u2 := Int.lt_tmod_of_pos n (show (0 : Int) < 1000 by decide)
  have HK := Lib.hid noneFacts
  go_enter Try.func4, Try.ntmps4
  go_wp2_with fail
  refine (?_ : ∀ W : World, Below w.heap.size w W → NRow 0 w.heap.size W → Calls _ _ _ W _) _ (below6 w _ _ _ _ _ _) (nrow_of w _ _ _ _ _)
  clear a255 b255 hi hj hmk
  intro W HB hrow
  have hr0 := hrow
  clear hrow
  refine (ratio_any _ _ _ _).mono ?_
  rintro e w' ⟨rfl, kk, rfl⟩
  simp only [rz2]
  have HB := Lib.hid HB
  go_wp2_with fail
  refine (share_no _ _ _ [1, -1] _ _ ((hr0.1 rfl).drewN _) (by decide) (HK.out.k0 _)).mono ?_
  rintro e w' ⟨rfl, rfl⟩
  clear hr0
  go_wp2_with fail
  refine (share_no _ _ _ [1] _ _ (row_at _ _ #[.int .i64 1] _ (by first | rfl | simp)) (by decide) HK.out.k2).mono ?_
  rintro e w' ⟨rfl, rfl⟩
  go_wp2_with fail
  refine (share_yes _ none 0 [] _ 0 (Nat.zero_le _) (Row.nil _ _ _) (HK.out.k3 _ u2 l2)).mono ?_
  rintro e w1 ⟨rfl, hrow1, hb1⟩
  clear hrow1
  have hB1 : Below w.heap.size w w1 := Below.trans (Below.drewN' (HB.out.alloc HB.out.size _) _) (hb1.mono (by have := HB.out.size; simp; omega))
  clear hb1 HB
  go_wp2_with fail
  refine (share_yes _ _ _ [1] _ _ (Nat.le_refl _) ((row_new w1 #[.int .i64 1] _).more (by simp)) HK.out.k4).mono ?_
  rintro e w2 ⟨rfl, hrow2, hb2⟩
  have hB2 : Below w.heap.size w w2 := Below.trans (hB1.alloc hB1.size _) (hb2.mono (by have := hB1.size; simp; omega))
  have hr2 : Row w2 w2.heap.size (some ⟨(w1.alloc (.cells #[.int .i64 1] 2)).heap.size, 0, none⟩) (i64s [1152921504606846976]) := by
    have h := row_of_rowIs hrow2 hrow2.lt
    rwa [show (List.range ([1] : List Int).length).map (shareAt 1152921504606846976 [1]) = [1152921504606846976] from by rw [← HK.out.k5]; rfl] at h
  simp only [World.size_alloc] at hr2
  clear hrow2 hb2 hB1
  go_wp2_with fail
  refine (same_yes _ _ _ _ 1 [1152921504606846976] _ _ _ (hr2.alloc (Nat.le_refl _) _) (row_new w2 #[.int .i64 1152921504606846976] _) rfl (by decide)).mono ?_
  rintro e w' ⟨rfl, q, rfl⟩
  go_wp2_with (go_at_call 9; refine (awake_any _).mono ?_; rintro e w' ⟨rfl, hbela⟩)
  go_ret
  exact ⟨rfl, Below.trans (Below.drewN' (hB2.alloc hB2.size _) q) (hbela.mono (by have := hB2.size; simp; omega))⟩

set_option maxHeartbeats 2000000 in
theorem none_walk_1_1 (wh n : Int) (l0 : -9223372036854775808 ≤ wh) (u0 : wh ≤ 9223372036854775807) (l1 : -9223372036854775808 ≤ n) (u1 : n ≤ 9223372036854775807) (w : World) (hi0 : wh % 256 % 6 = 1) (hj0 : wh / 256 % 256 % 3 = 1) :
    Calls Try.prog 4 #[.int .i64 wh, .int .i64 n] w fun e w' => e = .returned (.bool true) ∧ Below w.heap.size w w' := by
  have a255 := and255 wh
  have b255 := and255 (wh / 256)
  have hi : wh % 256 % 6 = ((1 : Nat) : Int) := hi0
  have hj : wh / 256 % 256 % 3 = ((1 : Nat) : Int) := hj0
  clear hi0 hj0
  obtain ⟨big, hmk⟩ : ∃ big : Array Value, ∀ W : World, (Instr.makeSlice 22 (.int .i64 1001) (.int .i64 1001)).run Try.prog W = .ok (.slice (some ⟨W.heap.size, 0, none⟩) 1001 1001) (W.alloc (.cells big 2)) :=
    ⟨_, fun W => run_make_row' (P := Try.prog) 22 2 (.int .i64 0) 8 Try.underlying22 int_info rfl .i64 .i64 1001 (by omega) (by omega) W⟩
  have l2 := Int.tmod_lt_of_pos n (show (0 : Int) < 1000 by decide)
  have u2 := Int.lt_tmod_of_pos n (show (0 : Int) < 1000 by decide)
  have HK := Lib.hid noneFacts
  go_enter Try.func4, Try.ntmps4
  go_wp2_with fail
  refine (?_ : ∀ W : World, Below w.heap.size w W → NRow 1 w.heap.size W → Calls _ _ _ W _) _ (below6 w _ _ _ _ _ _) (nrow_of w _ _ _ _ _)
  clear a255 b255 hi hj hmk
  intro W HB hrow
  have hr0 := hrow
  clear hrow
  refine (ratio_any _ _ _ _).mono ?_
  rintro e w' ⟨rfl, kk, rfl⟩
  simp only [rz2]
  have HB := Lib.hid HB
  go_wp2_with fail
  refine (share_no _ _ _ [1125899906842625] _ _ ((hr0.2 rfl).drewN _) (by decide) (HK.out.k1 _)).mono ?_
  rintro e w' ⟨rfl, rfl⟩
  clear hr0
  go_wp2_with fail
  refine (share_no _ _ _ [1] _ _ (row_at _ _ #[.int .i64 1] _ (by first | rfl | simp)) (by decide) HK.out.k2).mono ?_
  rintro e w' ⟨rfl, rfl⟩
  go_wp2_with fail
  refine (share_yes _ none 0 [] _ 0 (Nat.zero_le _) (Row.nil _ _ _) (HK.out.k3 _ u2 l2)).mono ?_
  rintro e w1 ⟨rfl, hrow1, hb1⟩
  clear hrow1
  have hB1 : Below w.heap.size w w1 := Below.trans (Below.drewN' (HB.out.alloc HB.out.size _) _) (hb1.mono (by have := HB.out.size; simp; omega))
  clear hb1 HB
  go_wp2_with fail
  refine (share_yes _ _ _ [1] _ _ (Nat.le_refl _) ((row_new w1 #[.int .i64 1] _).more (by simp)) HK.out.k4).mono ?_
  rintro e w2 ⟨rfl, hrow2, hb2⟩
  have hB2 : Below w.heap.size w w2 := Below.trans (hB1.alloc hB1.size _) (hb2.mono (by have := hB1.size; simp; omega))
  have hr2 : Row w2 w2.heap.size (some ⟨(w1.alloc (.cells #[.int .i64 1] 2)).heap.size, 0, none⟩) (i64s [1152921504606846976]) := by
    have h := row_of_rowIs hrow2 hrow2.lt
    rwa [show (List.range ([1] : List Int).length).map (shareAt 1152921504606846976 [1]) = [1152921504606846976] from by rw [← HK.out.k5]; rfl] at h
  simp only [World.size_alloc] at hr2
  clear hrow2 hb2 hB1
  go_wp2_with fail
  refine (same_yes _ _ _ _ 1 [1152921504606846976] _ _ _ (hr2.alloc (Nat.le_refl _) _) (row_new w2 #[.int .i64 1152921504606846976] _) rfl (by decide)).mono ?_
  rintro e w' ⟨rfl, q, rfl⟩
  go_wp2_with (go_at_call 9; refine (awake_any _).mono ?_; rintro e w' ⟨rfl, hbela⟩)
  go_ret
  exact ⟨rfl, Below.trans (Below.drewN' (hB2.alloc hB2.size _) q) (hbela.mono (by have := hB2.size; simp; omega))⟩

set_option maxHeartbeats 2000000 in
theorem none_walk_1_2 (wh n : Int) (l0 : -9223372036854775808 ≤ wh) (u0 : wh ≤ 9223372036854775807) (l1 : -9223372036854775808 ≤ n) (u1 : n ≤ 9223372036854775807) (w : World) (hi0 : wh % 256 % 6 = 1) (hj0 : wh / 256 % 256 % 3 = 2) :
    Calls Try.prog 4 #[.int .i64 wh, .int .i64 n] w fun e w' => e = .returned (.bool true) ∧ Below w.heap.size w w' := by
  have a255 := and255 wh
  have b255 := and255 (wh / 256)
  have hi : wh % 256 % 6 = ((1 : Nat) : Int) := hi0
  have hj : wh / 256 % 256 % 3 = ((2 : Nat) : Int) := hj0
  clear hi0 hj0
  obtain ⟨big, hmk⟩ : ∃ big : Array Value, ∀ W : World, (Instr.makeSlice 22 (.int .i64 1001) (.int .i64 1001)).run Try.prog W = .ok (.slice (some ⟨W.heap.size, 0, none⟩) 1001 1001) (W.alloc (.cells big 2)) :=
    ⟨_, fun W => run_make_row' (P := Try.prog) 22 2 (.int .i64 0) 8 Try.underlying22 int_info rfl .i64 .i64 1001 (by omega) (by omega) W⟩
  have l2 := Int.tmod_lt_of_pos n (show (0 : Int) < 1000 by decide)
  have u2 := Int.lt_tmod_of_pos n (show (0 : Int) < 1000 by decide)
  have HK := Lib.hid noneFacts
  go_enter Try.func4, Try.ntmps4
  go_wp2_with fail
  refine (?_ : ∀ W : World, Below w.heap.size w W → NRow 2 w.heap.size W → Calls _ _ _ W _) _ (below6 w _ _ _ _ _ _) (nrow_of w _ _ _ _ _)
  clear a255 b255 hi hj hmk
  intro W HB hrow
  have hr0 := hrow
  clear hrow
  refine (ratio_any _ _ _ _).mono ?_
  rintro e w' ⟨rfl, kk, rfl⟩
  simp only [rz2]
  have HB := Lib.hid HB
  go_wp2_with fail
  refine (share_long _ _ _ 1001 _ (by decide) (by decide)).mono ?_
  rintro e w' ⟨rfl, rfl⟩
  clear hr0
  go_wp2_with fail
  refine (share_no _ _ _ [1] _ _ (row_at _ _ #[.int .i64 1] _ (by first | rfl | simp)) (by decide) HK.out.k2).mono ?_
  rintro e w' ⟨rfl, rfl⟩
  go_wp2_with fail
  refine (share_yes _ none 0 [] _ 0 (Nat.zero_le _) (Row.nil _ _ _) (HK.out.k3 _ u2 l2)).mono ?_
  rintro e w1 ⟨rfl, hrow1, hb1⟩
  clear hrow1
  have hB1 : Below w.heap.size w w1 := Below.trans (Below.drewN' (HB.out.alloc HB.out.size _) _) (hb1.mono (by have := HB.out.size; simp; omega))
  clear hb1 HB
  go_wp2_with fail
  refine (share_yes _ _ _ [1] _ _ (Nat.le_refl _) ((row_new w1 #[.int .i64 1] _).more (by simp)) HK.out.k4).mono ?_
  rintro e w2 ⟨rfl, hrow2, hb2⟩
  have hB2 : Below w.heap.size w w2 := Below.trans (hB1.alloc hB1.size _) (hb2.mono (by have := hB1.size; simp; omega))
  have hr2 : Row w2 w2.heap.size (some ⟨(w1.alloc (.cells #[.int .i64 1] 2)).heap.size, 0, none⟩) (i64s [1152921504606846976]) := by
    have h := row_of_rowIs hrow2 hrow2.lt
    rwa [show (List.range ([1] : List Int).length).map (shareAt 1152921504606846976 [1]) = [1152921504606846976] from by rw [← HK.out.k5]; rfl] at h
  simp only [World.size_alloc] at hr2
  clear hrow2 hb2 hB1
  go_wp2_with fail
  refine (same_yes _ _ _ _ 1 [1152921504606846976] _ _ _ (hr2.alloc (Nat.le_refl _) _) (row_new w2 #[.int .i64 1152921504606846976] _) rfl (by decide)).mono ?_
  rintro e w' ⟨rfl, q, rfl⟩
  go_wp2_with (go_at_call 9; refine (awake_any _).mono ?_; rintro e w' ⟨rfl, hbela⟩)
  go_ret
  exact ⟨rfl, Below.trans (Below.drewN' (hB2.alloc hB2.size _) q) (hbela.mono (by have := hB2.size; simp; omega))⟩

set_option maxHeartbeats 2000000 in
theorem none_walk_2_0 (wh n : Int) (l0 : -9223372036854775808 ≤ wh) (u0 : wh ≤ 9223372036854775807) (l1 : -9223372036854775808 ≤ n) (u1 : n ≤ 9223372036854775807) (w : World) (hi0 : wh % 256 % 6 = 2) (hj0 : wh / 256 % 256 % 3 = 0) :
    Calls Try.prog 4 #[.int .i64 wh, .int .i64 n] w fun e w' => e = .returned (.bool true) ∧ Below w.heap.size w w' := by
  have a255 := and255 wh
  have b255 := and255 (wh / 256)
  have hi : wh % 256 % 6 = ((2 : Nat) : Int) := hi0
  have hj : wh / 256 % 256 % 3 = ((0 : Nat) : Int) := hj0
  clear hi0 hj0
  obtain ⟨big, hmk⟩ : ∃ big : Array Value, ∀ W : World, (Instr.makeSlice 22 (.int .i64 1001) (.int .i64 1001)).run Try.prog W = .ok (.slice (some ⟨W.heap.size, 0, none⟩) 1001 1001) (W.alloc (.cells big 2)) :=
    ⟨_, fun W => run_make_row' (P := Try.prog) 22 2 (.int .i64 0) 8 Try.underlying22 int_info rfl .i64 .i64 1001 (by omega) (by omega) W⟩
  have l2 := Int.tmod_lt_of_pos n (show (0 : Int) < 1000 by decide)
  have u2 := Int.lt_tmod_of_pos n (show (0 : Int) < 1000 by decide)
  have HK := Lib.hid noneFacts
  go_enter Try.func4, Try.ntmps4
  go_wp2_with fail
  refine (?_ : ∀ W : World, Below w.heap.size w W → NRow 0 w.heap.size W → Calls _ _ _ W _) _ (below6 w _ _ _ _ _ _) (nrow_of w _ _ _ _ _)
  clear a255 b255 hi hj hmk
  intro W HB hrow
  have hr0 := hrow
  clear hrow
  refine (ratio_any _ _ _ _).mono ?_
  rintro e w' ⟨rfl, kk, rfl⟩
  simp only [rz3]
  have HB := Lib.hid HB
  go_wp2_with fail
  refine (share_no _ _ _ [1, -1] _ _ ((hr0.1 rfl).drewN _) (by decide) (HK.out.k0 _)).mono ?_
  rintro e w' ⟨rfl, rfl⟩
  clear hr0
  go_wp2_with fail
  refine (share_no _ _ _ [1] _ _ (row_at _ _ #[.int .i64 1] _ (by first | rfl | simp)) (by decide) HK.out.k2).mono ?_
  rintro e w' ⟨rfl, rfl⟩
  go_wp2_with fail
  refine (share_yes _ none 0 [] _ 0 (Nat.zero_le _) (Row.nil _ _ _) (HK.out.k3 _ u2 l2)).mono ?_
  rintro e w1 ⟨rfl, hrow1, hb1⟩
  clear hrow1
  have hB1 : Below w.heap.size w w1 := Below.trans (Below.drewN' (HB.out.alloc HB.out.size _) _) (hb1.mono (by have := HB.out.size; simp; omega))
  clear hb1 HB
  go_wp2_with fail
  refine (share_yes _ _ _ [1] _ _ (Nat.le_refl _) ((row_new w1 #[.int .i64 1] _).more (by simp)) HK.out.k4).mono ?_
  rintro e w2 ⟨rfl, hrow2, hb2⟩
  have hB2 : Below w.heap.size w w2 := Below.trans (hB1.alloc hB1.size _) (hb2.mono (by have := hB1.size; simp; omega))
  have hr2 : Row w2 w2.heap.size (some ⟨(w1.alloc (.cells #[.int .i64 1] 2)).heap.size, 0, none⟩) (i64s [1152921504606846976]) := by
    have h := row_of_rowIs hrow2 hrow2.lt
    rwa [show (List.range ([1] : List Int).length).map (shareAt 1152921504606846976 [1]) = [1152921504606846976] from by rw [← HK.out.k5]; rfl] at h
  simp only [World.size_alloc] at hr2
  clear hrow2 hb2 hB1
  go_wp2_with fail
  refine (same_yes _ _ _ _ 1 [1152921504606846976] _ _ _ (hr2.alloc (Nat.le_refl _) _) (row_new w2 #[.int .i64 1152921504606846976] _) rfl (by decide)).mono ?_
  rintro e w' ⟨rfl, q, rfl⟩
  go_wp2_with (go_at_call 9; refine (awake_any _).mono ?_; rintro e w' ⟨rfl, hbela⟩)
  go_ret
  exact ⟨rfl, Below.trans (Below.drewN' (hB2.alloc hB2.size _) q) (hbela.mono (by have := hB2.size; simp; omega))⟩

set_option maxHeartbeats 2000000 in
theorem none_walk_2_1 (wh n : Int) (l0 : -9223372036854775808 ≤ wh) (u0 : wh ≤ 9223372036854775807) (l1 : -9223372036854775808 ≤ n) (u1 : n ≤ 9223372036854775807) (w : World) (hi0 : wh % 256 % 6 = 2) (hj0 : wh / 256 % 256 % 3 = 1) :
    Calls Try.prog 4 #[.int .i64 wh, .int .i64 n] w fun e w' => e = .returned (.bool true) ∧ Below w.heap.size w w' := by
  have a255 := and255 wh
  have b255 := and255 (wh / 256)
  have hi : wh % 256 % 6 = ((2 : Nat) : Int) := hi0
  have hj : wh / 256 % 256 % 3 = ((1 : Nat) : Int) := hj0
  clear hi0 hj0
  obtain ⟨big, hmk⟩ : ∃ big : Array Value, ∀ W : World, (Instr.makeSlice 22 (.int .i64 1001) (.int .i64 1001)).run Try.prog W = .ok (.slice (some ⟨W.heap.size, 0, none⟩) 1001 1001) (W.alloc (.cells big 2)) :=
    ⟨_, fun W => run_make_row' (P := Try.prog) 22 2 (.int .i64 0) 8 Try.underlying22 int_info rfl .i64 .i64 1001 (by omega) (by omega) W⟩
  have l2 := Int.tmod_lt_of_pos n (show (0 : Int) < 1000 by decide)
  have u2 := Int.lt_tmod_of_pos n (show (0 : Int) < 1000 by decide)
  have HK := Lib.hid noneFacts
  go_enter Try.func4, Try.ntmps4
  go_wp2_with fail
  refine (?_ : ∀ W : World, Below w.heap.size w W → NRow 1 w.heap.size W → Calls _ _ _ W _) _ (below6 w _ _ _ _ _ _) (nrow_of w _ _ _ _ _)
  clear a255 b255 hi hj hmk
  intro W HB hrow
  have hr0 := hrow
  clear hrow
  refine (ratio_any _ _ _ _).mono ?_
  rintro e w' ⟨rfl, kk, rfl⟩
  simp only [rz3]
  have HB := Lib.hid HB
  go_wp2_with fail
  refine (share_no _ _ _ [1125899906842625] _ _ ((hr0.2 rfl).drewN _) (by decide) (HK.out.k1 _)).mono ?_
  rintro e w' ⟨rfl, rfl⟩
  clear hr0
  go_wp2_with fail
  refine (share_no _ _ _ [1] _ _ (row_at _ _ #[.int .i64 1] _ (by first | rfl | simp)) (by decide) HK.out.k2).mono ?_
  rintro e w' ⟨rfl, rfl⟩
  go_wp2_with fail
  refine (share_yes _ none 0 [] _ 0 (Nat.zero_le _) (Row.nil _ _ _) (HK.out.k3 _ u2 l2)).mono ?_
  rintro e w1 ⟨rfl, hrow1, hb1⟩
  clear hrow1
  have hB1 : Below w.heap.size w w1 := Below.trans (Below.drewN' (HB.out.alloc HB.out.size _) _) (hb1.mono (by have := HB.out.size; simp; omega))
  clear hb1 HB
  go_wp2_with fail
  refine (share_yes _ _ _ [1] _ _ (Nat.le_refl _) ((row_new w1 #[.int .i64 1] _).more (by simp)) HK.out.k4).mono ?_
  rintro e w2 ⟨rfl, hrow2, hb2⟩
  have hB2 : Below w.heap.size w w2 := Below.trans (hB1.alloc hB1.size _) (hb2.mono (by have := hB1.size; simp; omega))
  have hr2 : Row w2 w2.heap.size (some ⟨(w1.alloc (.cells #[.int .i64 1] 2)).heap.size, 0, none⟩) (i64s [1152921504606846976]) := by
    have h := row_of_rowIs hrow2 hrow2.lt
    rwa [show (List.range ([1] : List Int).length).map (shareAt 1152921504606846976 [1]) = [1152921504606846976] from by rw [← HK.out.k5]; rfl] at h
  simp only [World.size_alloc] at hr2
  clear hrow2 hb2 hB1
  go_wp2_with fail
  refine (same_yes _ _ _ _ 1 [1152921504606846976] _ _ _ (hr2.alloc (Nat.le_refl _) _) (row_new w2 #[.int .i64 1152921504606846976] _) rfl (by decide)).mono ?_
  rintro e w' ⟨rfl, q, rfl⟩
  go_wp2_with (go_at_call 9; refine (awake_any _).mono ?_; rintro e w' ⟨rfl, hbela⟩)
  go_ret
  exact ⟨rfl, Below.trans (Below.drewN' (hB2.alloc hB2.size _) q) (hbela.mono (by have := hB2.size; simp; omega))⟩

set_option maxHeartbeats 2000000 in
theorem none_walk_2_2 (wh n : Int) (l0 : -9223372036854775808 ≤ wh) (u0 : wh ≤ 9223372036854775807) (l1 : -9223372036854775808 ≤ n) (u1 : n ≤ 9223372036854775807) (w : World) (hi0 : wh % 256 % 6 = 2) (hj0 : wh / 256 % 256 % 3 = 2) :
    Calls Try.prog 4 #[.int .i64 wh, .int .i64 n] w fun e w' => e = .returned (.bool true) ∧ Below w.heap.size w w' := by
  have a255 := and255 wh
  have b255 := and255 (wh / 256)
  have hi : wh % 256 % 6 = ((2 : Nat) : Int) := hi0
  have hj : wh / 256 % 256 % 3 = ((2 : Nat) : Int) := hj0
  clear hi0 hj0
  obtain ⟨big, hmk⟩ : ∃ big : Array Value, ∀ W : World, (Instr.makeSlice 22 (.int .i64 1001) (.int .i64 1001)).run Try.prog W = .ok (.slice (some ⟨W.heap.size, 0, none⟩) 1001 1001) (W.alloc (.cells big 2)) :=
    ⟨_, fun W => run_make_row' (P := Try.prog) 22 2 (.int .i64 0) 8 Try.underlying22 int_info rfl .i64 .i64 1001 (by omega) (by omega) W⟩
  have l2 := Int.tmod_lt_of_pos n (show (0 : Int) < 1000 by decide)
  have u2 := Int.lt_tmod_of_pos n (show (0 : Int) < 1000 by decide)
  have HK := Lib.hid noneFacts
  go_enter Try.func4, Try.ntmps4
  go_wp2_with fail
  refine (?_ : ∀ W : World, Below w.heap.size w W → NRow 2 w.heap.size W → Calls _ _ _ W _) _ (below6 w _ _ _ _ _ _) (nrow_of w _ _ _ _ _)
  clear a255 b255 hi hj hmk
  intro W HB hrow
  have hr0 := hrow
  clear hrow
  refine (ratio_any _ _ _ _).mono ?_
  rintro e w' ⟨rfl, kk, rfl⟩
  simp only [rz3]
  have HB := Lib.hid HB
  go_wp2_with fail
  refine (share_long _ _ _ 1001 _ (by decide) (by decide)).mono ?_
  rintro e w' ⟨rfl, rfl⟩
  clear hr0
  go_wp2_with fail
  refine (share_no _ _ _ [1] _ _ (row_at _ _ #[.int .i64 1] _ (by first | rfl | simp)) (by decide) HK.out.k2).mono ?_
  rintro e w' ⟨rfl, rfl⟩
  go_wp2_with fail
  refine (share_yes _ none 0 [] _ 0 (Nat.zero_le _) (Row.nil _ _ _) (HK.out.k3 _ u2 l2)).mono ?_
  rintro e w1 ⟨rfl, hrow1, hb1⟩
  clear hrow1
  have hB1 : Below w.heap.size w w1 := Below.trans (Below.drewN' (HB.out.alloc HB.out.size _) _) (hb1.mono (by have := HB.out.size; simp; omega))
  clear hb1 HB
  go_wp2_with fail
  refine (share_yes _ _ _ [1] _ _ (Nat.le_refl _) ((row_new w1 #[.int .i64 1] _).more (by simp)) HK.out.k4).mono ?_
  rintro e w2 ⟨rfl, hrow2, hb2⟩
  have hB2 : Below w.heap.size w w2 := Below.trans (hB1.alloc hB1.size _) (hb2.mono (by have := hB1.size; simp; omega))
  have hr2 : Row w2 w2.heap.size (some ⟨(w1.alloc (.cells #[.int .i64 1] 2)).heap.size, 0, none⟩) (i64s [1152921504606846976]) := by
    have h := row_of_rowIs hrow2 hrow2.lt
    rwa [show (List.range ([1] : List Int).length).map (shareAt 1152921504606846976 [1]) = [1152921504606846976] from by rw [← HK.out.k5]; rfl] at h
  simp only [World.size_alloc] at hr2
  clear hrow2 hb2 hB1
  go_wp2_with fail
  refine (same_yes _ _ _ _ 1 [1152921504606846976] _ _ _ (hr2.alloc (Nat.le_refl _) _) (row_new w2 #[.int .i64 1152921504606846976] _) rfl (by decide)).mono ?_
  rintro e w' ⟨rfl, q, rfl⟩
  go_wp2_with (go_at_call 9; refine (awake_any _).mono ?_; rintro e w' ⟨rfl, hbela⟩)
  go_ret
  exact ⟨rfl, Below.trans (Below.drewN' (hB2.alloc hB2.size _) q) (hbela.mono (by have := hB2.size; simp; omega))⟩

set_option maxHeartbeats 2000000 in
theorem none_walk_3_0 (wh n : Int) (l0 : -9223372036854775808 ≤ wh) (u0 : wh ≤ 9223372036854775807) (l1 : -9223372036854775808 ≤ n) (u1 : n ≤ 9223372036854775807) (w : World) (hi0 : wh % 256 % 6 = 3) (hj0 : wh / 256 % 256 % 3 = 0) :
    Calls Try.prog 4 #[.int .i64 wh, .int .i64 n] w fun e w' => e = .returned (.bool true) ∧ Below w.heap.size w w' := by
  have a255 := and255 wh
  have b255 := and255 (wh / 256)
  have hi : wh % 256 % 6 = ((3 : Nat) : Int) := hi0
  have hj : wh / 256 % 256 % 3 = ((0 : Nat) : Int) := hj0
  clear hi0 hj0
  obtain ⟨big, hmk⟩ : ∃ big : Array Value, ∀ W : World, (Instr.makeSlice 22 (.int .i64 1001) (.int .i64 1001)).run Try.prog W = .ok (.slice (some ⟨W.heap.size, 0, none⟩) 1001 1001) (W.alloc (.cells big 2)) :=
    ⟨_, fun W => run_make_row' (P := Try.prog) 22 2 (.int .i64 0) 8 Try.underlying22 int_info rfl .i64 .i64 1001 (by omega) (by omega) W⟩
  have l2 := Int.tmod_lt_of_pos n (show (0 : Int) < 1000 by decide)
  have u2 := Int.lt_tmod_of_pos n (show (0 : Int) < 1000 by decide)
  have HK := Lib.hid noneFacts
  go_enter Try.func4, Try.ntmps4
  go_wp2_with fail
  refine (?_ : ∀ W : World, Below w.heap.size w W → NRow 0 w.heap.size W → Calls _ _ _ W _) _ (below6 w _ _ _ _ _ _) (nrow_of w _ _ _ _ _)
  clear a255 b255 hi hj hmk
  intro W HB hrow
  have hr0 := hrow
  clear hrow
  refine (ratio_any _ _ _ _).mono ?_
  rintro e w' ⟨rfl, kk, rfl⟩
  simp only [rz4]
  have HB := Lib.hid HB
  go_wp2_with fail
  refine (share_no _ _ _ [1, -1] _ _ ((hr0.1 rfl).drewN _) (by decide) (HK.out.k0 _)).mono ?_
  rintro e w' ⟨rfl, rfl⟩
  clear hr0
  go_wp2_with fail
  refine (share_no _ _ _ [1] _ _ (row_at _ _ #[.int .i64 1] _ (by first | rfl | simp)) (by decide) HK.out.k2).mono ?_
  rintro e w' ⟨rfl, rfl⟩
  go_wp2_with fail
  refine (share_yes _ none 0 [] _ 0 (Nat.zero_le _) (Row.nil _ _ _) (HK.out.k3 _ u2 l2)).mono ?_
  rintro e w1 ⟨rfl, hrow1, hb1⟩
  clear hrow1
  have hB1 : Below w.heap.size w w1 := Below.trans (Below.drewN' (HB.out.alloc HB.out.size _) _) (hb1.mono (by have := HB.out.size; simp; omega))
  clear hb1 HB
  go_wp2_with fail
  refine (share_yes _ _ _ [1] _ _ (Nat.le_refl _) ((row_new w1 #[.int .i64 1] _).more (by simp)) HK.out.k4).mono ?_
  rintro e w2 ⟨rfl, hrow2, hb2⟩
  have hB2 : Below w.heap.size w w2 := Below.trans (hB1.alloc hB1.size _) (hb2.mono (by have := hB1.size; simp; omega))
  have hr2 : Row w2 w2.heap.size (some ⟨(w1.alloc (.cells #[.int .i64 1] 2)).heap.size, 0, none⟩) (i64s [1152921504606846976]) := by
    have h := row_of_rowIs hrow2 hrow2.lt
    rwa [show (List.range ([1] : List Int).length).map (shareAt 1152921504606846976 [1]) = [1152921504606846976] from by rw [← HK.out.k5]; rfl] at h
  simp only [World.size_alloc] at hr2
  clear hrow2 hb2 hB1
  go_wp2_with fail
  refine (same_yes _ _ _ _ 1 [1152921504606846976] _ _ _ (hr2.alloc (Nat.le_refl _) _) (row_new w2 #[.int .i64 1152921504606846976] _) rfl (by decide)).mono ?_
  rintro e w' ⟨rfl, q, rfl⟩
  go_wp2_with (go_at_call 9; refine (awake_any _).mono ?_; rintro e w' ⟨rfl, hbela⟩)
  go_ret
  exact ⟨rfl, Below.trans (Below.drewN' (hB2.alloc hB2.size _) q) (hbela.mono (by have := hB2.size; simp; omega))⟩

set_option maxHeartbeats 2000000 in
theorem none_walk_3_1 (wh n : Int) (l0 : -9223372036854775808 ≤ wh) (u0 : wh ≤ 9223372036854775807) (l1 : -9223372036854775808 ≤ n) (u1 : n ≤ 9223372036854775807) (w : World) (hi0 : wh % 256 % 6 = 3) (hj0 : wh / 256 % 256 % 3 = 1) :
    Calls Try.prog 4 #[.int .i64 wh, .int .i64 n] w fun e w' => e = .returned (.bool true) ∧ Below w.heap.size w w' := by
  have a255 := and255 wh
  have b255 := and255 (wh / 256)
  have hi : wh % 256 % 6 = ((3 : Nat) : Int) := hi0
  have hj : wh / 256 % 256 % 3 = ((1 : Nat) : Int) := hj0
  clear hi0 hj0
  obtain ⟨big, hmk⟩ : ∃ big : Array Value, ∀ W : World, (Instr.makeSlice 22 (.int .i64 1001) (.int .i64 1001)).run Try.prog W = .ok (.slice (some ⟨W.heap.size, 0, none⟩) 1001 1001) (W.alloc (.cells big 2)) :=
    ⟨_, fun W => run_make_row' (P := Try.prog) 22 2 (.int .i64 0) 8 Try.underlying22 int_info rfl .i64 .i64 1001 (by omega) (by omega) W⟩
  have l2 := Int.tmod_lt_of_pos n (show (0 : Int) < 1000 by decide)
  have u2 := Int.lt_tmod_of_pos n (show (0 : Int) < 1000 by decide)
  have HK := Lib.hid noneFacts
  go_enter Try.func4, Try.ntmps4
  go_wp2_with fail
  refine (?_ : ∀ W : World, Below w.heap.size w W → NRow 1 w.heap.size W → Calls _ _ _ W _) _ (below6 w _ _ _ _ _ _) (nrow_of w _ _ _ _ _)
  clear a255 b255 hi hj hmk
  intro W HB hrow
  have hr0 := hrow
  clear hrow
  refine (ratio_any _ _ _ _).mono ?_
  rintro e w' ⟨rfl, kk, rfl⟩
  simp only [rz4]
  have HB := Lib.hid HB
  go_wp2_with fail
  refine (share_no _ _ _ [1125899906842625] _ _ ((hr0.2 rfl).drewN _) (by decide) (HK.out.k1 _)).mono ?_
  rintro e w' ⟨rfl, rfl⟩
  clear hr0
  go_wp2_with fail
  refine (share_no _ _ _ [1] _ _ (row_at _ _ #[.int .i64 1] _ (by first | rfl | simp)) (by decide) HK.out.k2).mono ?_
  rintro e w' ⟨rfl, rfl⟩
  go_wp2_with fail
  refine (share_yes _ none 0 [] _ 0 (Nat.zero_le _) (Row.nil _ _ _) (HK.out.k3 _ u2 l2)).mono ?_
  rintro e w1 ⟨rfl, hrow1, hb1⟩
  clear hrow1
  have hB1 : Below w.heap.size w w1 := Below.trans (Below.drewN' (HB.out.alloc HB.out.size _) _) (hb1.mono (by have := HB.out.size; simp; omega))
  clear hb1 HB
  go_wp2_with fail
  refine (share_yes _ _ _ [1] _ _ (Nat.le_refl _) ((row_new w1 #[.int .i64 1] _).more (by simp)) HK.out.k4).mono ?_
  rintro e w2 ⟨rfl, hrow2, hb2⟩
  have hB2 : Below w.heap.size w w2 := Below.trans (hB1.alloc hB1.size _) (hb2.mono (by have := hB1.size; simp; omega))
  have hr2 : Row w2 w2.heap.size (some ⟨(w1.alloc (.cells #[.int .i64 1] 2)).heap.size, 0, none⟩) (i64s [1152921504606846976]) := by
    have h := row_of_rowIs hrow2 hrow2.lt
    rwa [show (List.range ([1] : List Int).length).map (shareAt 1152921504606846976 [1]) = [1152921504606846976] from by rw [← HK.out.k5]; rfl] at h
  simp only [World.size_alloc] at hr2
  clear hrow2 hb2 hB1
  go_wp2_with fail
  refine (same_yes _ _ _ _ 1 [1152921504606846976] _ _ _ (hr2.alloc (Nat.le_refl _) _) (row_new w2 #[.int .i64 1152921504606846976] _) rfl (by decide)).mono ?_
  rintro e w' ⟨rfl, q, rfl⟩
  go_wp2_with (go_at_call 9; refine (awake_any _).mono ?_; rintro e w' ⟨rfl, hbela⟩)
  go_ret
  exact ⟨rfl, Below.trans (Below.drewN' (hB2.alloc hB2.size _) q) (hbela.mono (by have := hB2.size; simp; omega))⟩

set_option maxHeartbeats 2000000 in
theorem none_walk_3_2 (wh n : Int) (l0 : -9223372036854775808 ≤ wh) (u0 : wh ≤ 9223372036854775807) (l1 : -9223372036854775808 ≤ n) (u1 : n ≤ 9223372036854775807) (w : World) (hi0 : wh % 256 % 6 = 3) (hj0 : wh / 256 % 256 % 3 = 2) :
    Calls Try.prog 4 #[.int .i64 wh, .int .i64 n] w fun e w' => e = .returned (.bool true) ∧ Below w.heap.size w w' := by
  have a255 := and255 wh
  have b255 := and255 (wh / 256)
  have hi : wh % 256 % 6 = ((3 : Nat) : Int) := hi0
  have hj : wh / 256 % 256 % 3 = ((2 : Nat) : Int) := hj0
  clear hi0 hj0
  obtain ⟨big, hmk⟩ : ∃ big : Array Value, ∀ W : World, (Instr.makeSlice 22 (.int .i64 1001) (.int .i64 1001)).run Try.prog W = .ok (.slice (some ⟨W.heap.size, 0, none⟩) 1001 1001) (W.alloc (.cells big 2)) :=
    ⟨_, fun W => run_make_row' (P := Try.prog) 22 2 (.int .i64 0) 8 Try.underlying22 int_info rfl .i64 .i64 1001 (by omega) (by omega) W⟩
  have l2 := Int.tmod_lt_of_pos n (show (0 : Int) < 1000 by decide)
  have u2 := Int.lt_tmod_of_pos n (show (0 : Int) < 1000 by decide)
  have HK := Lib.hid noneFacts
  go_enter Try.func4, Try.ntmps4
  go_wp2_with fail
  refine (?_ : ∀ W : World, Below w.heap.size w W → NRow 2 w.heap.size W → Calls _ _ _ W _) _ (below6 w _ _ _ _ _ _) (nrow_of w _ _ _ _ _)
  clear a255 b255 hi hj hmk
  intro W HB hrow
  have hr0 := hrow
  clear hrow
  refine (ratio_any _ _ _ _).mono ?_
  rintro e w' ⟨rfl, kk, rfl⟩
  simp only [rz4]
  have HB := Lib.hid HB
  go_wp2_with fail
  refine (share_long _ _ _ 1001 _ (by decide) (by decide)).mono ?_
  rintro e w' ⟨rfl, rfl⟩
  clear hr0
  go_wp2_with fail
  refine (share_no _ _ _ [1] _ _ (row_at _ _ #[.int .i64 1] _ (by first | rfl | simp)) (by decide) HK.out.k2).mono ?_
  rintro e w' ⟨rfl, rfl⟩
  go_wp2_with fail
  refine (share_yes _ none 0 [] _ 0 (Nat.zero_le _) (Row.nil _ _ _) (HK.out.k3 _ u2 l2)).mono ?_
  rintro e w1 ⟨rfl, hrow1, hb1⟩
  clear hrow1
  have hB1 : Below w.heap.size w w1 := Below.trans (Below.drewN' (HB.out.alloc HB.out.size _) _) (hb1.mono (by have := HB.out.size; simp; omega))
  clear hb1 HB
  go_wp2_with fail
  refine (share_yes _ _ _ [1] _ _ (Nat.le_refl _) ((row_new w1 #[.int .i64 1] _).more (by simp)) HK.out.k4).mono ?_
  rintro e w2 ⟨rfl, hrow2, hb2⟩
  have hB2 : Below w.heap.size w w2 := Below.trans (hB1.alloc hB1.size _) (hb2.mono (by have := hB1.size; simp; omega))
  have hr2 : Row w2 w2.heap.size (some ⟨(w1.alloc (.cells #[.int .i64 1] 2)).heap.size, 0, none⟩) (i64s [1152921504606846976]) := by
    have h := row_of_rowIs hrow2 hrow2.lt
    rwa [show (List.range ([1] : List Int).length).map (shareAt 1152921504606846976 [1]) = [1152921504606846976] from by rw [← HK.out.k5]; rfl] at h
  simp only [World.size_alloc] at hr2
  clear hrow2 hb2 hB1
  go_wp2_with fail
  refine (same_yes _ _ _ _ 1 [1152921504606846976] _ _ _ (hr2.alloc (Nat.le_refl _) _) (row_new w2 #[.int .i64 1152921504606846976] _) rfl (by decide)).mono ?_
  rintro e w' ⟨rfl, q, rfl⟩
  go_wp2_with (go_at_call 9; refine (awake_any _).mono ?_; rintro e w' ⟨rfl, hbela⟩)
  go_ret
  exact ⟨rfl, Below.trans (Below.drewN' (hB2.alloc hB2.size _) q) (hbela.mono (by have := hB2.size; simp; omega))⟩

set_option maxHeartbeats 2000000 in
theorem none_walk_4_0 (wh n : Int) (l0 : -9223372036854775808 ≤ wh) (u0 : wh ≤ 9223372036854775807) (l1 : -9223372036854775808 ≤ n) (u1 : n ≤ 9223372036854775807) (w : World) (hi0 : wh % 256 % 6 = 4) (hj0 : wh / 256 % 256 % 3 = 0) :
    Calls Try.prog 4 #[.int .i64 wh, .int .i64 n] w fun e w' => e = .returned (.bool true) ∧ Below w.heap.size w w' := by
  have a255 := and255 wh
  have b255 := and255 (wh / 256)
  have hi : wh % 256 % 6 = ((4 : Nat) : Int) := hi0
  have hj : wh / 256 % 256 % 3 = ((0 : Nat) : Int) := hj0
  clear hi0 hj0
  obtain ⟨big, hmk⟩ : ∃ big : Array Value, ∀ W : World, (Instr.makeSlice 22 (.int .i64 1001) (.int .i64 1001)).run Try.prog W = .ok (.slice (some ⟨W.heap.size, 0, none⟩) 1001 1001) (W.alloc (.cells big 2)) :=
    ⟨_, fun W => run_make_row' (P := Try.prog) 22 2 (.int .i64 0) 8 Try.underlying22 int_info rfl .i64 .i64 1001 (by omega) (by omega) W⟩
  have l2 := Int.tmod_lt_of_pos n (show (0 : Int) < 1000 by decide)
  have u2 := Int.lt_tmod_of_pos n (show (0 : Int) < 1000 by decide)
  have HK := Lib.hid noneFacts
  go_enter Try.func4, Try.ntmps4
  go_wp2_with fail
  refine (?_ : ∀ W : World, Below w.heap.size w W → NRow 0 w.heap.size W → Calls _ _ _ W _) _ (below6 w _ _ _ _ _ _) (nrow_of w _ _ _ _ _)
  clear a255 b255 hi hj hmk
  intro W HB hrow
  have hr0 := hrow
  clear hrow
  refine (ratio_any _ _ _ _).mono ?_
  rintro e w' ⟨rfl, kk, rfl⟩
  simp only [rz5]
  have HB := Lib.hid HB
  go_wp2_with fail
  refine (share_no _ _ _ [1, -1] _ _ ((hr0.1 rfl).drewN _) (by decide) (HK.out.k0 _)).mono ?_
  rintro e w' ⟨rfl, rfl⟩
  clear hr0
  go_wp2_with fail
  refine (share_no _ _ _ [1] _ _ (row_at _ _ #[.int .i64 1] _ (by first | rfl | simp)) (by decide) HK.out.k2).mono ?_
  rintro e w' ⟨rfl, rfl⟩
  go_wp2_with fail
  refine (share_yes _ none 0 [] _ 0 (Nat.zero_le _) (Row.nil _ _ _) (HK.out.k3 _ u2 l2)).mono ?_
  rintro e w1 ⟨rfl, hrow1, hb1⟩
  clear hrow1
  have hB1 : Below w.heap.size w w1 := Below.trans (Below.drewN' (HB.out.alloc HB.out.size _) _) (hb1.mono (by have := HB.out.size; simp; omega))
  clear hb1 HB
  go_wp2_with fail
  refine (share_yes _ _ _ [1] _ _ (Nat.le_refl _) ((row_new w1 #[.int .i64 1] _).more (by simp)) HK.out.k4).mono ?_
  rintro e w2 ⟨rfl, hrow2, hb2⟩
  have hB2 : Below w.heap.size w w2 := Below.trans (hB1.alloc hB1.size _) (hb2.mono (by have := hB1.size; simp; omega))
  have hr2 : Row w2 w2.heap.size (some ⟨(w1.alloc (.cells #[.int .i64 1] 2)).heap.size, 0, none⟩) (i64s [1152921504606846976]) := by
    have h := row_of_rowIs hrow2 hrow2.lt
    rwa [show (List.range ([1] : List Int).length).map (shareAt 1152921504606846976 [1]) = [1152921504606846976] from by rw [← HK.out.k5]; rfl] at h
  simp only [World.size_alloc] at hr2
  clear hrow2 hb2 hB1
  go_wp2_with fail
  refine (same_yes _ _ _ _ 1 [1152921504606846976] _ _ _ (hr2.alloc (Nat.le_refl _) _) (row_new w2 #[.int .i64 1152921504606846976] _) rfl (by decide)).mono ?_
  rintro e w' ⟨rfl, q, rfl⟩
  go_wp2_with (go_at_call 9; refine (awake_any _).mono ?_; rintro e w' ⟨rfl, hbela⟩)
  go_ret
  exact ⟨rfl, Below.trans (Below.drewN' (hB2.alloc hB2.size _) q) (hbela.mono (by have := hB2.size; simp; omega))⟩

set_option maxHeartbeats 2000000 in
theorem none_walk_4_1 (wh n : Int) (l0 : -9223372036854775808 ≤ wh) (u0 : wh ≤ 9223372036854775807) (l1 : -9223372036854775808 ≤ n) (u1 : n ≤ 9223372036854775807) (w : World) (hi0 : wh % 256 % 6 = 4) (hj0 : wh / 256 % 256 % 3 = 1) :
    Calls Try.prog 4 #[.int .i64 wh, .int .i64 n] w fun e w' => e = .returned (.bool true) ∧ Below w.heap.size w w' := by
  have a255 := and255 wh
  have b255 := and255 (wh / 256)
  have hi : wh % 256 % 6 = ((4 : Nat) : Int) := hi0
  have hj : wh / 256 % 256 % 3 = ((1 : Nat) : Int) := hj0
  clear hi0 hj0
  obtain ⟨big, hmk⟩ : ∃ big : Array Value, ∀ W : World, (Instr.makeSlice 22 (.int .i64 1001) (.int .i64 1001)).run Try.prog W = .ok (.slice (some ⟨W.heap.size, 0, none⟩) 1001 1001) (W.alloc (.cells big 2)) :=
    ⟨_, fun W => run_make_row' (P := Try.prog) 22 2 (.int .i64 0) 8 Try.underlying22 int_info rfl .i64 .i64 1001 (by omega) (by omega) W⟩
  have l2 := Int.tmod_lt_of_pos n (show (0 : Int) < 1000 by decide)
  have u2 := Int.lt_tmod_of_pos n (show (0 : Int) < 1000 by decide)
  have HK := Lib.hid noneFacts
  go_enter Try.func4, Try.ntmps4
  go_wp2_with fail
  refine (?_ : ∀ W : World, Below w.heap.size w W → NRow 1 w.heap.size W → Calls _ _ _ W _) _ (below6 w _ _ _ _ _ _) (nrow_of w _ _ _ _ _)
  clear a255 b255 hi hj hmk
  intro W HB hrow
  have hr0 := hrow
  clear hrow
  refine (ratio_any _ _ _ _).mono ?_
  rintro e w' ⟨rfl, kk, rfl⟩
  simp only [rz5]
  have HB := Lib.hid HB
  go_wp2_with fail
  refine (share_no _ _ _ [1125899906842625] _ _ ((hr0.2 rfl).drewN _) (by decide) (HK.out.k1 _)).mono ?_
  rintro e w' ⟨rfl, rfl⟩
  clear hr0
  go_wp2_with fail
  refine (share_no _ _ _ [1] _ _ (row_at _ _ #[.int .i64 1] _ (by first | rfl | simp)) (by decide) HK.out.k2).mono ?_
  rintro e w' ⟨rfl, rfl⟩
  go_wp2_with fail
  refine (share_yes _ none 0 [] _ 0 (Nat.zero_le _) (Row.nil _ _ _) (HK.out.k3 _ u2 l2)).mono ?_
  rintro e w1 ⟨rfl, hrow1, hb1⟩
  clear hrow1
  have hB1 : Below w.heap.size w w1 := Below.trans (Below.drewN' (HB.out.alloc HB.out.size _) _) (hb1.mono (by have := HB.out.size; simp; omega))
  clear hb1 HB
  go_wp2_with fail
  refine (share_yes _ _ _ [1] _ _ (Nat.le_refl _) ((row_new w1 #[.int .i64 1] _).more (by simp)) HK.out.k4).mono ?_
  rintro e w2 ⟨rfl, hrow2, hb2⟩
  have hB2 : Below w.heap.size w w2 := Below.trans (hB1.alloc hB1.size _) (hb2.mono (by have := hB1.size; simp; omega))
  have hr2 : Row w2 w2.heap.size (some ⟨(w1.alloc (.cells #[.int .i64 1] 2)).heap.size, 0, none⟩) (i64s [1152921504606846976]) := by
    have h := row_of_rowIs hrow2 hrow2.lt
    rwa [show (List.range ([1] : List Int).length).map (shareAt 1152921504606846976 [1]) = [1152921504606846976] from by rw [← HK.out.k5]; rfl] at h
  simp only [World.size_alloc] at hr2
  clear hrow2 hb2 hB1
  go_wp2_with fail
  refine (same_yes _ _ _ _ 1 [1152921504606846976] _ _ _ (hr2.alloc (Nat.le_refl _) _) (row_new w2 #[.int .i64 1152921504606846976] _) rfl (by decide)).mono ?_
  rintro e w' ⟨rfl, q, rfl⟩
  go_wp2_with (go_at_call 9; refine (awake_any _).mono ?_; rintro e w' ⟨rfl, hbela⟩)
  go_ret
  exact ⟨rfl, Below.trans (Below.drewN' (hB2.alloc hB2.size _) q) (hbela.mono (by have := hB2.size; simp; omega))⟩

set_option maxHeartbeats 2000000 in
theorem none_walk_4_2 (wh n : Int) (l0 : -9223372036854775808 ≤ wh) (u0 : wh ≤ 9223372036854775807) (l1 : -9223372036854775808 ≤ n) (u1 : n ≤ 9223372036854775807) (w : World) (hi0 : wh % 256 % 6 = 4) (hj0 : wh / 256 % 256 % 3 = 2) :
    Calls Try.prog 4 #[.int .i64 wh, .int .i64 n] w fun e w' => e = .returned (.bool true) ∧ Below w.heap.size w w' := by
  have a255 := and255 wh
  have b255 := and255 (wh / 256)
  have hi : wh % 256 % 6 = ((4 : Nat) : Int) := hi0
  have hj : wh / 256 % 256 % 3 = ((2 : Nat) : Int) := hj0
  clear hi0 hj0
  obtain ⟨big, hmk⟩ : ∃ big : Array Value, ∀ W : World, (Instr.makeSlice 22 (.int .i64 1001) (.int .i64 1001)).run Try.prog W = .ok (.slice (some ⟨W.heap.size, 0, none⟩) 1001 1001) (W.alloc (.cells big 2)) :=
    ⟨_, fun W => run_make_row' (P := Try.prog) 22 2 (.int .i64 0) 8 Try.underlying22 int_info rfl .i64 .i64 1001 (by omega) (by omega) W⟩
  have l2 := Int.tmod_lt_of_pos n (show (0 : Int) < 1000 by decide)
  have u2 := Int.lt_tmod_of_pos n (show (0 : Int) < 1000 by decide)
  have HK := Lib.hid noneFacts
  go_enter Try.func4, Try.ntmps4
  go_wp2_with fail
  refine (?_ : ∀ W : World, Below w.heap.size w W → NRow 2 w.heap.size W → Calls _ _ _ W _) _ (below6 w _ _ _ _ _ _) (nrow_of w _ _ _ _ _)
  clear a255 b255 hi hj hmk
  intro W HB hrow
  have hr0 := hrow
  clear hrow
  refine (ratio_any _ _ _ _).mono ?_
  rintro e w' ⟨rfl, kk, rfl⟩
  simp only [rz5]
  have HB := Lib.hid HB
  go_wp2_with fail
  refine (share_long _ _ _ 1001 _ (by decide) (by decide)).mono ?_
  rintro e w' ⟨rfl, rfl⟩
  clear hr0
  go_wp2_with fail
  refine (share_no _ _ _ [1] _ _ (row_at _ _ #[.int .i64 1] _ (by first | rfl | simp)) (by decide) HK.out.k2).mono ?_
  rintro e w' ⟨rfl, rfl⟩
  go_wp2_with fail
  refine (share_yes _ none 0 [] _ 0 (Nat.zero_le _) (Row.nil _ _ _) (HK.out.k3 _ u2 l2)).mono ?_
  rintro e w1 ⟨rfl, hrow1, hb1⟩
  clear hrow1
  have hB1 : Below w.heap.size w w1 := Below.trans (Below.drewN' (HB.out.alloc HB.out.size _) _) (hb1.mono (by have := HB.out.size; simp; omega))
  clear hb1 HB
  go_wp2_with fail
  refine (share_yes _ _ _ [1] _ _ (Nat.le_refl _) ((row_new w1 #[.int .i64 1] _).more (by simp)) HK.out.k4).mono ?_
  rintro e w2 ⟨rfl, hrow2, hb2⟩
  have hB2 : Below w.heap.size w w2 := Below.trans (hB1.alloc hB1.size _) (hb2.mono (by have := hB1.size; simp; omega))
  have hr2 : Row w2 w2.heap.size (some ⟨(w1.alloc (.cells #[.int .i64 1] 2)).heap.size, 0, none⟩) (i64s [1152921504606846976]) := by
    have h := row_of_rowIs hrow2 hrow2.lt
    rwa [show (List.range ([1] : List Int).length).map (shareAt 1152921504606846976 [1]) = [1152921504606846976] from by rw [← HK.out.k5]; rfl] at h
  simp only [World.size_alloc] at hr2
  clear hrow2 hb2 hB1
  go_wp2_with fail
  refine (same_yes _ _ _ _ 1 [1152921504606846976] _ _ _ (hr2.alloc (Nat.le_refl _) _) (row_new w2 #[.int .i64 1152921504606846976] _) rfl (by decide)).mono ?_
  rintro e w' ⟨rfl, q, rfl⟩
  go_wp2_with (go_at_call 9; refine (awake_any _).mono ?_; rintro e w' ⟨rfl, hbela⟩)
  go_ret
  exact ⟨rfl, Below.trans (Below.drewN' (hB2.alloc hB2.size _) q) (hbela.mono (by have := hB2.size; simp; omega))⟩

set_option maxHeartbeats 2000000 in
theorem none_walk_5_0 (wh n : Int) (l0 : -9223372036854775808 ≤ wh) (u0 : wh ≤ 9223372036854775807) (l1 : -9223372036854775808 ≤ n) (u1 : n ≤ 9223372036854775807) (w : World) (hi0 : wh % 256 % 6 = 5) (hj0 : wh / 256 % 256 % 3 = 0) :
    Calls Try.prog 4 #[.int .i64 wh, .int .i64 n] w fun e w' => e = .returned (.bool true) ∧ Below w.heap.size w w' := by
  have a255 := and255 wh
  have b255 := and255 (wh / 256)
  have hi : wh % 256 % 6 = ((5 : Nat) : Int) := hi0
  have hj : wh / 256 % 256 % 3 = ((0 : Nat) : Int) := hj0
  clear hi0 hj0
  obtain ⟨big, hmk⟩ : ∃ big : Array Value, ∀ W : World, (Instr.makeSlice 22 (.int .i64 1001) (.int .i64 1001)).run Try.prog W = .ok (.slice (some ⟨W.heap.size, 0, none⟩) 1001 1001) (W.alloc (.cells big 2)) :=
    ⟨_, fun W => run_make_row' (P := Try.prog) 22 2 (.int .i64 0) 8 Try.underlying22 int_info rfl .i64 .i64 1001 (by omega) (by omega) W⟩
  have l2 := Int.tmod_lt_of_pos n (show (0 : Int) < 1000 by decide)
  have u2 := Int.lt_tmod_of_pos n (show (0 : Int) < 1000 by decide)
  have HK := Lib.hid noneFacts
  go_enter Try.func4, Try.ntmps4
  go_wp2_with fail
  refine (?_ : ∀ W : World, Below w.heap.size w W → NRow 0 w.heap.size W → Calls _ _ _ W _) _ (below6 w _ _ _ _ _ _) (nrow_of w _ _ _ _ _)
  clear a255 b255 hi hj hmk
  intro W HB hrow
  have hr0 := hrow
  clear hrow
  refine (ratio_any _ _ _ _).mono ?_
  rintro e w' ⟨rfl, kk, rfl⟩
  simp only [rz6]
  have HB := Lib.hid HB
  go_wp2_with fail
  refine (share_no _ _ _ [1, -1] _ _ ((hr0.1 rfl).drewN _) (by decide) (HK.out.k0 _)).mono ?_
  rintro e w' ⟨rfl, rfl⟩
  clear hr0
  go_wp2_with fail
  refine (share_no _ _ _ [1] _ _ (row_at _ _ #[.int .i64 1] _ (by first | rfl | simp)) (by decide) HK.out.k2).mono ?_
  rintro e w' ⟨rfl, rfl⟩
  go_wp2_with fail
  refine (share_yes _ none 0 [] _ 0 (Nat.zero_le _) (Row.nil _ _ _) (HK.out.k3 _ u2 l2)).mono ?_
  rintro e w1 ⟨rfl, hrow1, hb1⟩
  clear hrow1
  have hB1 : Below w.heap.size w w1 := Below.trans (Below.drewN' (HB.out.alloc HB.out.size _) _) (hb1.mono (by have := HB.out.size; simp; omega))
  clear hb1 HB
  go_wp2_with fail
  refine (share_yes _ _ _ [1] _ _ (Nat.le_refl _) ((row_new w1 #[.int .i64 1] _).more (by simp)) HK.out.k4).mono ?_
  rintro e w2 ⟨rfl, hrow2, hb2⟩
  have hB2 : Below w.heap.size w w2 := Below.trans (hB1.alloc hB1.size _) (hb2.mono (by have := hB1.size; simp; omega))
  have hr2 : Row w2 w2.heap.size (some ⟨(w1.alloc (.cells #[.int .i64 1] 2)).heap.size, 0, none⟩) (i64s [1152921504606846976]) := by
    have h := row_of_rowIs hrow2 hrow2.lt
    rwa [show (List.range ([1] : List Int).length).map (shareAt 1152921504606846976 [1]) = [1152921504606846976] from by rw [← HK.out.k5]; rfl] at h
  simp only [World.size_alloc] at hr2
  clear hrow2 hb2 hB1
  go_wp2_with fail
  refine (same_yes _ _ _ _ 1 [1152921504606846976] _ _ _ (hr2.alloc (Nat.le_refl _) _) (row_new w2 #[.int .i64 1152921504606846976] _) rfl (by decide)).mono ?_
  rintro e w' ⟨rfl, q, rfl⟩
  go_wp2_with (go_at_call 9; refine (awake_any _).mono ?_; rintro e w' ⟨rfl, hbela⟩)
  go_ret
  exact ⟨rfl, Below.trans (Below.drewN' (hB2.alloc hB2.size _) q) (hbela.mono (by have := hB2.size; simp; omega))⟩

set_option maxHeartbeats 2000000 in
theorem none_walk_5_1 (wh n : Int) (l0 : -9223372036854775808 ≤ wh) (u0 : wh ≤ 9223372036854775807) (l1 : -9223372036854775808 ≤ n) (u1 : n ≤ 9223372036854775807) (w : World) (hi0 : wh % 256 % 6 = 5) (hj0 : wh / 256 % 256 % 3 = 1) :
    Calls Try.prog 4 #[.int .i64 wh, .int .i64 n] w fun e w' => e = .returned (.bool true) ∧ Below w.heap.size w w' := by
  have a255 := and255 wh
  have b255 := and255 (wh / 256)
  have hi : wh % 256 % 6 = ((5 : Nat) : Int) := hi0
  have hj : wh / 256 % 256 % 3 = ((1 : Nat) : Int) := hj0
  clear hi0 hj0
  obtain ⟨big, hmk⟩ : ∃ big : Array Value, ∀ W : World, (Instr.makeSlice 22 (.int .i64 1001) (.int .i64 1001)).run Try.prog W = .ok (.slice (some ⟨W.heap.size, 0, none⟩) 1001 1001) (W.alloc (.cells big 2)) :=
    ⟨_, fun W => run_make_row' (P := Try.prog) 22 2 (.int .i64 0) 8 Try.underlying22 int_info rfl .i64 .i64 1001 (by omega) (by omega) W⟩
  have l2 := Int.tmod_lt_of_pos n (show (0 : Int) < 1000 by decide)
  have u2 := Int.lt_tmod_of_pos n (show (0 : Int) < 1000 by decide)
  have HK := Lib.hid noneFacts
  go_enter Try.func4, Try.ntmps4
  go_wp2_with fail
  refine (?_ : ∀ W : World, Below w.heap.size w W → NRow 1 w.heap.size W → Calls _ _ _ W _) _ (below6 w _ _ _ _ _ _) (nrow_of w _ _ _ _ _)
  clear a255 b255 hi hj hmk
  intro W HB hrow
  have hr0 := hrow
  clear hrow
  refine (ratio_any _ _ _ _).mono ?_
  rintro e w' ⟨rfl, kk, rfl⟩
  simp only [rz6]
  have HB := Lib.hid HB
  go_wp2_with fail
  refine (share_no _ _ _ [1125899906842625] _ _ ((hr0.2 rfl).drewN _) (by decide) (HK.out.k1 _)).mono ?_
  rintro e w' ⟨rfl, rfl⟩
  clear hr0
  go_wp2_with fail
  refine (share_no _ _ _ [1] _ _ (row_at _ _ #[.int .i64 1] _ (by first | rfl | simp)) (by decide) HK.out.k2).mono ?_
  rintro e w' ⟨rfl, rfl⟩
  go_wp2_with fail
  refine (share_yes _ none 0 [] _ 0 (Nat.zero_le _) (Row.nil _ _ _) (HK.out.k3 _ u2 l2)).mono ?_
  rintro e w1 ⟨rfl, hrow1, hb1⟩
  clear hrow1
  have hB1 : Below w.heap.size w w1 := Below.trans (Below.drewN' (HB.out.alloc HB.out.size _) _) (hb1.mono (by have := HB.out.size; simp; omega))
  clear hb1 HB
  go_wp2_with fail
  refine (share_yes _ _ _ [1] _ _ (Nat.le_refl _) ((row_new w1 #[.int .i64 1] _).more (by simp)) HK.out.k4).mono ?_
  rintro e w2 ⟨rfl, hrow2, hb2⟩
  have hB2 : Below w.heap.size w w2 := Below.trans (hB1.alloc hB1.size _) (hb2.mono (by have := hB1.size; simp; omega))
  have hr2 : Row w2 w2.heap.size (some ⟨(w1.alloc (.cells #[.int .i64 1] 2)).heap.size, 0, none⟩) (i64s [1152921504606846976]) := by
    have h := row_of_rowIs hrow2 hrow2.lt
    rwa [show (List.range ([1] : List Int).length).map (shareAt 1152921504606846976 [1]) = [1152921504606846976] from by rw [← HK.out.k5]; rfl] at h
  simp only [World.size_alloc] at hr2
  clear hrow2 hb2 hB1
  go_wp2_with fail
  refine (same_yes _ _ _ _ 1 [1152921504606846976] _ _ _ (hr2.alloc (Nat.le_refl _) _) (row_new w2 #[.int .i64 1152921504606846976] _) rfl (by decide)).mono ?_
  rintro e w' ⟨rfl, q, rfl⟩
  go_wp2_with (go_at_call 9; refine (awake_any _).mono ?_; rintro e w' ⟨rfl, hbela⟩)
  go_ret
  exact ⟨rfl, Below.trans (Below.drewN' (hB2.alloc hB2.size _) q) (hbela.mono (by have := hB2.size; simp; omega))⟩

set_option maxHeartbeats 2000000 in
theorem none_walk_5_2 (wh n : Int) (l0 : -9223372036854775808 ≤ wh) (u0 : wh ≤ 9223372036854775807) (l1 : -9223372036854775808 ≤ n) (u1 : n ≤ 9223372036854775807) (w : World) (hi0 : wh % 256 % 6 = 5) (hj0 : wh / 256 % 256 % 3 = 2) :
    Calls Try.prog 4 #[.int .i64 wh, .int .i64 n] w fun e w' => e = .returned (.bool true) ∧ Below w.heap.size w w' := by
  have a255 := and255 wh
  have b255 := and255 (wh / 256)
  have hi : wh % 256 % 6 = ((5 : Nat) : Int) := hi0
  have hj : wh / 256 % 256 % 3 = ((2 : Nat) : Int) := hj0
  clear hi0 hj0
  obtain ⟨big, hmk⟩ : ∃ big : Array Value, ∀ W : World, (Instr.makeSlice 22 (.int .i64 1001) (.int .i64 1001)).run Try.prog W = .ok (.slice (some ⟨W.heap.size, 0, none⟩) 1001 1001) (W.alloc (.cells big 2)) :=
    ⟨_, fun W => run_make_row' (P := Try.prog) 22 2 (.int .i64 0) 8 Try.underlying22 int_info rfl .i64 .i64 1001 (by omega) (by omega) W⟩
  have l2 := Int.tmod_lt_of_pos n (show (0 : Int) < 1000 by decide)
  have u2 := Int.lt_tmod_of_pos n (show (0 : Int) < 1000 by decide)
  have HK := Lib.hid noneFacts
  go_enter Try.func4, Try.ntmps4
  go_wp2_with fail
  refine (?_ : ∀ W : World, Below w.heap.size w W → NRow 2 w.heap.size W → Calls _ _ _ W _) _ (below6 w _ _ _ _ _ _) (nrow_of w _ _ _ _ _)
  clear a255 b255 hi hj hmk
  intro W HB hrow
  have hr0 := hrow
  clear hrow
  refine (ratio_any _ _ _ _).mono ?_
  rintro e w' ⟨rfl, kk, rfl⟩
  simp only [rz6]
  have HB := Lib.hid HB
  go_wp2_with fail
  refine (share_long _ _ _ 1001 _ (by decide) (by decide)).mono ?_
  rintro e w' ⟨rfl, rfl⟩
  clear hr0
  go_wp2_with fail
  refine (share_no _ _ _ [1] _ _ (row_at _ _ #[.int .i64 1] _ (by first | rfl | simp)) (by decide) HK.out.k2).mono ?_
  rintro e w' ⟨rfl, rfl⟩
  go_wp2_with fail
  refine (share_yes _ none 0 [] _ 0 (Nat.zero_le _) (Row.nil _ _ _) (HK.out.k3 _ u2 l2)).mono ?_
  rintro e w1 ⟨rfl, hrow1, hb1⟩
  clear hrow1
  have hB1 : Below w.heap.size w w1 := Below.trans (Below.drewN' (HB.out.alloc HB.out.size _) _) (hb1.mono (by have := HB.out.size; simp; omega))
  clear hb1 HB
  go_wp2_with fail
  refine (share_yes _ _ _ [1] _ _ (Nat.le_refl _) ((row_new w1 #[.int .i64 1] _).more (by simp)) HK.out.k4).mono ?_
  rintro e w2 ⟨rfl, hrow2, hb2⟩
  have hB2 : Below w.heap.size w w2 := Below.trans (hB1.alloc hB1.size _) (hb2.mono (by have := hB1.size; simp; omega))
  have hr2 : Row w2 w2.heap.size (some ⟨(w1.alloc (.cells #[.int .i64 1] 2)).heap.size, 0, none⟩) (i64s [1152921504606846976]) := by
    have h := row_of_rowIs hrow2 hrow2.lt
    rwa [show (List.range ([1] : List Int).length).map (shareAt 1152921504606846976 [1]) = [1152921504606846976] from by rw [← HK.out.k5]; rfl] at h
  simp only [World.size_alloc] at hr2
  clear hrow2 hb2 hB1
  go_wp2_with fail
  refine (same_yes _ _ _ _ 1 [1152921504606846976] _ _ _ (hr2.alloc (Nat.le_refl _) _) (row_new w2 #[.int .i64 1152921504606846976] _) rfl (by decide)).mono ?_
  rintro e w' ⟨rfl, q, rfl⟩
  go_wp2_with (go_at_call 9; refine (awake_any _).mono ?_; rintro e w' ⟨rfl, hbela⟩)
  go_ret
  exact ⟨rfl, Below.trans (Below.drewN' (hB2.alloc hB2.size _) q) (hbela.mono (by have := hB2.size; simp; omega))⟩
theorem none_walk (wh n : Int) (l0 : -9223372036854775808 ≤ wh) (u0 : wh ≤ 9223372036854775807) (l1 : -9223372036854775808 ≤ n) (u1 : n ≤ 9223372036854775807) (w : World) :
    Calls Try.prog 4 #[.int .i64 wh, .int .i64 n] w fun e w' => e = .returned (.bool true) ∧ Below w.heap.size w w' := by
  have h : wh % 256 % 6 = 0 ∨ wh % 256 % 6 = 1 ∨ wh % 256 % 6 = 2 ∨ wh % 256 % 6 = 3 ∨ wh % 256 % 6 = 4 ∨ wh % 256 % 6 = 5 := by omega
  have h' : wh / 256 % 256 % 3 = 0 ∨ wh / 256 % 256 % 3 = 1 ∨ wh / 256 % 256 % 3 = 2 := by omega
  rcases h with h | h | h | h | h | h <;> rcases h' with h' | h' | h'
  · exact none_walk_0_0 wh n l0 u0 l1 u1 w h h'
  · exact none_walk_0_1 wh n l0 u0 l1 u1 w h h'
  · exact none_walk_0_2 wh n l0 u0 l1 u1 w h h'
  · exact none_walk_1_0 wh n l0 u0 l1 u1 w h h'
  · exact none_walk_1_1 wh n l0 u0 l1 u1 w h h'
  · exact none_walk_1_2 wh n l0 u0 l1 u1 w h h'
  · exact none_walk_2_0 wh n l0 u0 l1 u1 w h h'
  · exact none_walk_2_1 wh n l0 u0 l1 u1 w h h'
  · exact none_walk_2_2 wh n l0 u0 l1 u1 w h h'
  · exact none_walk_3_0 wh n l0 u0 l1 u1 w h h'
  · exact none_walk_3_1 wh n l0 u0 l1 u1 w h h'
  · exact none_walk_3_2 wh n l0 u0 l1 u1 w h h'
  · exact none_walk_4_0 wh n l0 u0 l1 u1 w h h'
  · exact none_walk_4_1 wh n l0 u0 l1 u1 w h h'
  · exact none_walk_4_2 wh n l0 u0 l1 u1 w h h'
  · exact none_walk_5_0 wh n l0 u0 l1 u1 w h h'
  · exact none_walk_5_1 wh n l0 u0 l1 u1 w h h'
  · exact none_walk_5_2 wh n l0 u0 l1 u1 w h h'
end Go.Proofs.Ytcdjdpgjflhjiaa
