import Derived.Test.YtinnogplnpmcmaaAwake2
/- quoinlaw2.RectEdges answers true. -/
namespace Go.Proofs.Ytinnogplnpmcmaa
open Go.RowKit
set_option linter.unusedVariables false
set_option linter.unusedSimpArgs false

/-- How much of [o, o+n) lies ahead of i. -/
def upto (o n i : Int) : Int := max 0 (min (i - o) n)
theorem upto_succ (o n i : Int) (hn : 0 ≤ n) : upto o n (i + 1) = upto o n i + (if o ≤ i ∧ i < o + n then 1 else 0) := by
  unfold upto; split <;> omega
def rows (q : Q) (x : Int) : Int := upto q.x q.a x * q.b
def cells (q : Q) (x y : Int) : Int := rows q x + (if q.x ≤ x ∧ x < q.x + q.a then upto q.y q.b y else 0)
theorem rows_succ (q : Q) (x : Int) (hq : Tiny q) : rows q (x + 1) = cells q x 13 := by
  unfold Tiny at hq
  have e : upto q.y q.b 13 = q.b := by unfold upto; omega
  unfold rows cells rows
  rw [upto_succ _ _ _ (by omega), Int.add_mul, e]
  split <;> simp
theorem cells_first (q : Q) (x : Int) (hq : Tiny q) : cells q x (-4) = rows q x := by
  unfold Tiny at hq
  have e : upto q.y q.b (-4) = 0 := by unfold upto; omega
  unfold cells; rw [e]; split <;> simp
theorem cells_succ (q : Q) (x y : Int) (hq : Tiny q) : cells q x (y + 1) = cells q x y + (if hasB q.x q.y q.a q.b x y = true then 1 else 0) := by
  unfold Tiny at hq
  unfold cells hasB
  rw [upto_succ _ _ _ (by omega)]
  simp only [decide_eq_true_eq]
  by_cases h1 : q.x ≤ x ∧ x < q.x + q.a
  · by_cases h2 : q.y ≤ y ∧ y < q.y + q.b
    · rw [if_pos h1, if_pos h1, if_pos h2, if_pos ⟨h1, h2⟩]; omega
    · rw [if_pos h1, if_pos h1, if_neg h2, if_neg (fun h => h2 h.2)]; omega
  · rw [if_neg h1, if_neg h1, if_neg (fun h => h1 h.1)]; omega
theorem rows_end (q : Q) (hq : Tiny q) : rows q 13 = q.a * q.b ∧ rows q (-4) = 0 := by
  unfold Tiny at hq
  have e : upto q.x q.a 13 = q.a := by unfold upto; omega
  have e' : upto q.x q.a (-4) = 0 := by unfold upto; omega
  unfold rows; rw [e, e']; exact ⟨rfl, by omega⟩
theorem rows_bd (q : Q) (x : Int) (hq : Tiny q) : 0 ≤ rows q x ∧ rows q x ≤ 49 := by
  unfold Tiny at hq
  have e : 0 ≤ upto q.x q.a x ∧ upto q.x q.a x ≤ 7 := by unfold upto; omega
  have h1 : 0 ≤ upto q.x q.a x * q.b := Int.mul_nonneg e.1 (by omega)
  have h2 : upto q.x q.a x * q.b ≤ 7 * 7 := Int.mul_le_mul e.2 (by omega) (by omega) (by omega)
  unfold rows; omega
theorem cells_bd (q : Q) (x y : Int) (hq : Tiny q) : 0 ≤ cells q x y ∧ cells q x y ≤ 100 := by
  have := rows_bd q x hq
  unfold Tiny at hq
  have e : 0 ≤ upto q.y q.b y ∧ upto q.y q.b y ≤ 7 := by unfold upto; omega
  unfold cells; split <;> omega
theorem ret_true {b : Bool} (h : b = true) : Ending.returned (.bool b) = .returned (.bool true) := by rw [h]

set_option maxHeartbeats 2000000 in
theorem edges_walk (q0 : Q) (w : World) : Calls Try.prog 3 #[qv q0] w fun e w' => e = .returned (.bool true) ∧ Below w.heap.size w w' := by
  have T := Lib.hid (tame_small q0)
  have ht := tame_tiny q0
  generalize tameQ true q0 = q at *
  have HT := Lib.hid ht
  go_enter Try.func3, Try.ntmps3
  go_wp2_with fail
  refine (T.out _).mono ?_; rintro e w1 ⟨rfl, hb1⟩
  have A1 := (Whole.mk w 23 #[.int .i64 q0.x, .int .i64 q0.y, .int .i64 q0.a, .int .i64 q0.b]).under hb1 (by simp)
  have HB := Lib.hid (((Below.refl w.heap.size w).alloc (Nat.le_refl _) _).trans (hb1.mono (by simp)))
  have s1 := A1.size
  obtain ⟨c0, c1, c2, c3⟩ := A1.four
  obtain ⟨f0, f1, f2, f3⟩ := A1.fourFree
  have HA := Lib.hid A1
  clear hb1 A1 T ht
  go_wp2_with fail
  have HA1 := Lib.hid (HA.out.putFour (.int .i64 q.x) (.int .i64 q.y) (.int .i64 q.a) (.int .i64 q.b))
  have HB1 := Lib.hid (below_put4 HB.out (Nat.le_refl _) (.int .i64 q.x) (.int .i64 q.y) (.int .i64 q.a) (.int .i64 q.b))
  clear HA HB c0 c1 c2 c3 f0 f1 f2 f3 s1
  generalize (((w1.setCell ⟨w.heap.size, 0, none⟩ (.int .i64 q.x)).setCell ⟨w.heap.size, 1, none⟩ (.int .i64 q.y)).setCell ⟨w.heap.size, 2, none⟩ (.int .i64 q.a)).setCell ⟨w.heap.size, 3, none⟩ (.int .i64 q.b) = w2 at *
  clear w1
  go_loopw [3, 4] (fun n x wr => ∃ k : Nat, k ≤ 17 ∧ x = .int .i64 ((k : Int) - 4) ∧ n = .int .i64 (rows q ((k : Int) - 4)) ∧ Below w.heap.size w wr ∧ Whole wr w.heap.size 23 [.int .i64 q.x, .int .i64 q.y, .int .i64 q.a, .int .i64 q.b])
    (fun _ x _ => (13 - intOf x).toNat)
  case atStart => exact ⟨0, by omega, rfl, by rw [show ((0 : Nat) : Int) - 4 = -4 by omega, (rows_end q HT.out).2], HB1.out, HA1.out⟩
  case round =>
    obtain ⟨k, hk, rfl, rfl, hB, hA⟩ := hrel
    clear HA1 HB1 w2
    by_cases hlt : k < 17
    · have hx : (k : Int) - 4 < 13 := by omega
      have HA := Lib.hid hA
      have HB := Lib.hid hB
      have HX : Hid (((k + 1 : Nat) : Int) - 4 = (k : Int) - 4 + 1) := Lib.hid (by omega)
      have hx0 : -4 ≤ (k : Int) - 4 := by omega
      clear hA hB
      obtain ⟨x, hxe⟩ : ∃ x : Int, (k : Int) - 4 = x := ⟨_, rfl⟩
      rw [hxe] at HX hx hx0 ⊢
      have HE := Lib.hid hxe
      clear hxe
      go_wp2_with fail
      go_loopw [3, 5] (fun n y wy => ∃ j : Nat, j ≤ 17 ∧ y = .int .i64 ((j : Int) - 4) ∧ n = .int .i64 (cells q x ((j : Int) - 4)) ∧ Below w.heap.size w wy ∧ Whole wy w.heap.size 23 [.int .i64 q.x, .int .i64 q.y, .int .i64 q.a, .int .i64 q.b])
        (fun _ y _ => (13 - intOf y).toNat)
      case atStart => exact ⟨0, by omega, rfl, by rw [show ((0 : Nat) : Int) - 4 = -4 by omega, cells_first q x HT.out], HB.out, HA.out⟩
      case round =>
        obtain ⟨j, hj, rfl, rfl, hB, hA⟩ := hrel
        clear HA HB
        by_cases hlt2 : j < 17
        · have hy : (j : Int) - 4 < 13 := by omega
          have hy0 : -4 ≤ (j : Int) - 4 := by omega
          have HY : Hid (((j + 1 : Nat) : Int) - 4 = (j : Int) - 4 + 1) := Lib.hid (by omega)
          obtain ⟨y, hye⟩ : ∃ y : Int, (j : Int) - 4 = y := ⟨_, rfl⟩
          rw [hye] at HY hy hy0 ⊢
          have HF := Lib.hid hye
          have hcs := cells_succ q x y HT.out
          obtain ⟨b0, b1⟩ := cells_bd q x y HT.out
          have HC := Lib.hid hcs
          obtain ⟨c0, c1, c2, c3⟩ := hA.four
          have HA := Lib.hid hA
          have HB := Lib.hid hB
          have HS := Lib.hid (fun t ht => has_is q.x q.y q.a q.b x y t HT.out.fine.small ht)
          clear hA hB hcs hye
          cases hb : hasB q.x q.y q.a q.b x y
          all_goals
            have HH := Lib.hid hb
            clear hb
            go_wp2_with fail
            refine (HS.out _ HH.out _).mono ?_; rintro e w3 ⟨rfl, hb3⟩
            have HA3 := Lib.hid (HA.out.under hb3 HA.out.size)
            have HB3 := Lib.hid (HB.out.trans (hb3.mono HB.out.size))
            clear hb3
            go_wp2_with fail
            go_roundw
            case rel =>
              refine ⟨j + 1, by omega, by rw [HY.out], ?_, HB3.out, HA3.out⟩
              rw [HY.out, HC.out, HH.out]
              simp
            case measure => have := HF.out; simp [intOf]; omega
        · obtain rfl : j = 17 := by omega
          have hr := rows_succ q x HT.out
          have e13 : ((17 : Nat) : Int) - 4 = 13 := by omega
          rw [e13]
          rw [← hr]
          have HA := Lib.hid hA
          have HB := Lib.hid hB
          clear hA hB hr e13
          go_wp2_with fail
          go_roundw
          case rel =>
            refine ⟨k + 1, by omega, by rw [HX.out], ?_, HB.out, HA.out⟩
            rw [HX.out]
          case measure => have := HE.out; simp [intOf]; omega
    · obtain rfl : k = 17 := by omega
      have e13 : ((17 : Nat) : Int) - 4 = 13 := by omega
      rw [e13, (rows_end q HT.out).1]
      have ht := HT.out
      unfold Tiny at ht
      obtain ⟨⟨t0, t1⟩, ⟨t2, t3⟩, ⟨t4, t5⟩, t6, t7⟩ := ht
      have hm : 0 ≤ q.a * q.b ∧ q.a * q.b ≤ 49 := ⟨Int.mul_nonneg t4 t6, by have : q.a * q.b ≤ 7 * 7 := Int.mul_le_mul t5 t7 t6 (by omega); omega⟩
      have i1 := IntWalk.i64_in (q.a * q.b) (by omega)
      have i2 := IntWalk.i64_in (q.x + q.a) (by omega)
      have i3 := IntWalk.i64_in (q.y + q.b) (by omega)
      have H2 := Lib.hid (has_is q.x q.y q.a q.b (q.x + q.a) q.y false HT.out.fine.small (by simp [hasB] <;> omega))
      have H3 := Lib.hid (has_is q.x q.y q.a q.b q.x (q.y + q.b) false HT.out.fine.small (by simp [hasB]))
      have HAw := Lib.hid awake_any
      have K0 : ∀ s : Later wr.heap.size wr, s.w.cell? ⟨w.heap.size, 0, none⟩ = some (.int .i64 q.x) := fun s => (hA.under s.h hA.size).four.1
      have K1 : ∀ s : Later wr.heap.size wr, s.w.cell? ⟨w.heap.size, 1, none⟩ = some (.int .i64 q.y) := fun s => (hA.under s.h hA.size).four.2.1
      have K2 : ∀ s : Later wr.heap.size wr, s.w.cell? ⟨w.heap.size, 2, none⟩ = some (.int .i64 q.a) := fun s => (hA.under s.h hA.size).four.2.2.1
      have K3 : ∀ s : Later wr.heap.size wr, s.w.cell? ⟨w.heap.size, 3, none⟩ = some (.int .i64 q.b) := fun s => (hA.under s.h hA.size).four.2.2.2
      have HB := Lib.hid hB
      clear hA hB e13 hm
      by_cases ha : 0 < q.a
      · by_cases hb : 0 < q.b
        · have H1 := Lib.hid (has_is q.x q.y q.a q.b q.x q.y true HT.out.fine.small (by simp [hasB] <;> omega))
          clear HT t0 t1 t2 t3 t4 t5 t6 t7
          go_wp2_with fail
          refine region_later (by kernel_rfl) (by kernel_rfl) ?_
          repeat (go_big_quiet_step (first | (with_reducible exact later_call _ (Nat.le_refl _) (H1.out _)) | (with_reducible exact later_call _ (Nat.le_refl _) (H2.out _)) | (with_reducible exact later_call _ (Nat.le_refl _) (H3.out _)) | (with_reducible exact later_call _ (Nat.le_refl _) (HAw.out _))))
          refine wpQuiet_nil ?_
          rintro w' ⟨s, rfl⟩
          clear K0 K1 K2 K3
          have hs := s.h
          generalize s.w = w4 at *
          go_wp2
          go_ret
          exact ⟨rfl, HB.out.trans (hs.mono HB.out.size)⟩
        · have H1 := Lib.hid (has_is q.x q.y q.a q.b q.x q.y false HT.out.fine.small (by simp [hasB] <;> omega))
          have hbd : decide (0 < q.b) = false := by simpa using hb
          clear HT t0 t1 t2 t3 t4 t5 t6 t7
          go_wp2_with fail
          refine region_later (by kernel_rfl) (by kernel_rfl) ?_
          repeat (go_big_quiet_step (first | (with_reducible exact later_call _ (Nat.le_refl _) (H1.out _)) | (with_reducible exact later_call _ (Nat.le_refl _) (H2.out _)) | (with_reducible exact later_call _ (Nat.le_refl _) (H3.out _)) | (with_reducible exact later_call _ (Nat.le_refl _) (HAw.out _))))
          refine wpQuiet_nil ?_
          rintro w' ⟨s, rfl⟩
          clear K0 K1 K2 K3
          have hs := s.h
          generalize s.w = w4 at *
          go_wp2
          go_ret
          exact ⟨rfl, HB.out.trans (hs.mono HB.out.size)⟩
      · have H1 := Lib.hid (has_is q.x q.y q.a q.b q.x q.y false HT.out.fine.small (by simp [hasB] <;> omega))
        have had : decide (0 < q.a) = false := by simpa using ha
        clear HT t0 t1 t2 t3 t4 t5 t6 t7
        go_wp2_with fail
        refine region_later (by kernel_rfl) (by kernel_rfl) ?_
        repeat (go_big_quiet_step (first | (with_reducible exact later_call _ (Nat.le_refl _) (H1.out _)) | (with_reducible exact later_call _ (Nat.le_refl _) (H2.out _)) | (with_reducible exact later_call _ (Nat.le_refl _) (H3.out _)) | (with_reducible exact later_call _ (Nat.le_refl _) (HAw.out _))))
        refine wpQuiet_nil ?_
        rintro w' ⟨s, rfl⟩
        clear K0 K1 K2 K3
        have hs := s.h
        generalize s.w = w4 at *
        go_wp2
        go_ret
        exact ⟨rfl, HB.out.trans (hs.mono HB.out.size)⟩
end Go.Proofs.Ytinnogplnpmcmaa
