import Derived.Test.YtfmcabgcckllcaaRefNum
import Derived.Test.YtfmcabgcckllcaaRefPx
import Derived.Test.YtfmcabgcckllcaaValSpec
import Derived.Below
import Derived.Test.YtfmcabgcckllcaaMem
/- The document's answer: lengths and whole numbers in a text. -/
namespace Go.Proofs.Ytfmcabgcckllcaa
open Go Go.RowKit
set_option linter.unusedVariables false
set_option linter.unusedSimpArgs false
set_option maxRecDepth 20000
set_option maxHeartbeats 4000000

section
variable (s : ByteArray) (ah bh : Nat) (hah : ah ≤ 5) (hbh : bh ≤ 3) (w : World) (hs : s.size ≤ 4611686018427387904)
include hah hbh hs
theorem rnumber_none (h : numZ (bytesOf s) ah bh = none) : Calls Try.prog 37 #[.string s, .int .i64 ah, .int .i64 bh] w fun e w' => e = .returned (.tuple #[.int .i64 0, .string ⟨#[]⟩, .bool false]) ∧ ∃ q, w' = w.drewN q := by
  have := rnumber_any s ah bh hah hbh w hs
  rw [h] at this
  exact this
theorem rnumber_some (v : Int) (r : Nat) (h : numZ (bytesOf s) ah bh = some (v, r)) : Calls Try.prog 37 #[.string s, .int .i64 ah, .int .i64 bh] w fun e w' => e = .returned (.tuple #[.int .i64 v, .string (s.extract r s.size), .bool true]) ∧ ∃ q, w' = w.drewN q := by
  have := rnumber_any s ah bh hah hbh w hs
  rw [h] at this
  exact this
end
def PixPost (r : Option Int) (W : World) (e : Ending) (w' : World) : Prop := ∃ (z : Int) (b : Bool), e = .returned (.tuple #[.int .i64 z, .bool b]) ∧ (-9223372036854775808 ≤ z ∧ z ≤ 9223372036854775807) ∧ r = (if b = true then some z else none) ∧ ∃ q, w' = W.drewN q
theorem px_in (v : Int) : -9223372036854775808 ≤ pxZ v ∧ pxZ v ≤ 9223372036854775807 := by have := hold_bd (nearZ (64 * max (-1000000000000) (min v 1000000000000)) 1000); unfold pxZ; omega
theorem rpixels_any (s : ByteArray) (w : World) (hs : s.size ≤ 4611686018427387904) : Calls Try.prog 33 #[.string s] w fun e w' => PixPost (pixR (bytesOf s)) w e w' := by
  by_cases h0 : bytesOf s = [48]
  · have H := Lib.hid (show pixR (bytesOf s) = some 0 by unfold pixR; rw [if_pos h0])
    have hb : (s.toList == [48]) = true := by rw [eq_bytes, h0]; rfl
    clear h0
    go_enter Try.func33, Try.ntmps33
    go_wp2
    go_ret2
    exact ⟨0, true, rfl, by omega, H.out, 0, rfl⟩
  · have hb : (s.toList == [48]) = false := by rw [eq_bytes, beq_eq_false_iff_ne]; exact h0
    cases hz : numZ (bytesOf s) 5 3 with
    | none =>
      have H := Lib.hid (show pixR (bytesOf s) = none by unfold pixR; rw [if_neg h0, hz])
      have HC := Lib.hid (rnumber_none s 5 3 (by omega) (by omega) w hs hz)
      clear h0 hz
      go_enter Try.func33, Try.ntmps33
      go_wp2_with (first
        | (go_at_call 37; refine HC.out.mono ?_; rintro e w1 ⟨rfl, q, rfl⟩)
        | (go_at_call 38; refine (rpx_any _ _).mono ?_; rintro e w2 ⟨rfl, rfl⟩))
      go_ret2
      exact ⟨_, false, rfl, px_in _, H.out, _, rfl⟩
    | some vr =>
      obtain ⟨v, r⟩ := vr
      have HC := Lib.hid (rnumber_some s 5 3 (by omega) (by omega) w hs v r hz)
      cases hr : restIs (bytesOf s) r [112, 120] with
      | true =>
        have H := Lib.hid (show pixR (bytesOf s) = some (pxZ v) by unfold pixR; rw [if_neg h0, hz]; simp only [hr]; rfl)
        have hb2 : ((s.extract r s.size).toList == [112, 120]) = true := (rest_bytes s r _).trans hr
        clear h0 hz hr
        go_enter Try.func33, Try.ntmps33
        go_wp2_with (first
          | (go_at_call 37; refine HC.out.mono ?_; rintro e w1 ⟨rfl, q, rfl⟩)
          | (go_at_call 38; refine (rpx_any _ _).mono ?_; rintro e w2 ⟨rfl, rfl⟩))
        go_ret2
        exact ⟨_, true, rfl, px_in _, H.out, _, rfl⟩
      | false =>
        have H := Lib.hid (show pixR (bytesOf s) = none by unfold pixR; rw [if_neg h0, hz]; simp only [hr]; rfl)
        have hb2 : ((s.extract r s.size).toList == [112, 120]) = false := (rest_bytes s r _).trans hr
        clear h0 hz hr
        go_enter Try.func33, Try.ntmps33
        go_wp2_with (first
          | (go_at_call 37; refine HC.out.mono ?_; rintro e w1 ⟨rfl, q, rfl⟩)
          | (go_at_call 38; refine (rpx_any _ _).mono ?_; rintro e w2 ⟨rfl, rfl⟩))
        go_ret2
        exact ⟨_, false, rfl, px_in _, H.out, _, rfl⟩
theorem rest_nil (s : ByteArray) (r : Nat) : (s.extract r s.size).toList = [] ↔ restIs (bytesOf s) r [] = true := by
  rw [← rest_bytes, beq_iff_eq]
theorem rwhole_any (s : ByteArray) (lo hi : Int) (w : World) (hs : s.size ≤ 4611686018427387904) : Calls Try.prog 32 #[.string s, .int .i64 lo, .int .i64 hi] w fun e w' => PixPost (wholeR (bytesOf s) lo hi) w e w' := by
  cases hz : numZ (bytesOf s) 4 0 with
  | none =>
    have H := Lib.hid (show wholeR (bytesOf s) lo hi = none by unfold wholeR; rw [hz])
    have HC := Lib.hid (rnumber_none s 4 0 (by omega) (by omega) w hs hz)
    clear hz
    go_enter Try.func32, Try.ntmps32
    go_wp2_with (go_at_call 37; refine HC.out.mono ?_; rintro e w1 ⟨rfl, q, rfl⟩)
    go_ret2
    exact ⟨0, false, rfl, by omega, H.out, _, rfl⟩
  | some vr =>
    obtain ⟨v, r⟩ := vr
    have hbd := numZ_bd (by omega) (by omega) hz
    have HC := Lib.hid (rnumber_some s 4 0 (by omega) (by omega) w hs v r hz)
    by_cases hc : restIs (bytesOf s) r [] = true ∧ lo ≤ v ∧ v ≤ hi
    · have H := Lib.hid (show wholeR (bytesOf s) lo hi = some v by unfold wholeR; rw [hz]; exact if_pos hc)
      obtain ⟨h1, h2, h3⟩ := hc
      have hE := (rest_nil s r).2 h1
      clear hz h1
      go_enter Try.func32, Try.ntmps32
      go_wp2_with (go_at_call 37; refine HC.out.mono ?_; rintro e w1 ⟨rfl, q, rfl⟩)
      go_ret2
      exact ⟨v, true, rfl, by omega, H.out, _, rfl⟩
    · have H := Lib.hid (show wholeR (bytesOf s) lo hi = none by unfold wholeR; rw [hz]; exact if_neg hc)
      rcases (show ¬ restIs (bytesOf s) r [] = true ∨ (restIs (bytesOf s) r [] = true ∧ v < lo) ∨ (restIs (bytesOf s) r [] = true ∧ lo ≤ v ∧ hi < v) by
        by_cases h1 : restIs (bytesOf s) r [] = true
        · by_cases h2 : lo ≤ v
          · exact .inr (.inr ⟨h1, h2, by have : ¬ v ≤ hi := fun h3 => hc ⟨h1, h2, h3⟩; omega⟩)
          · exact .inr (.inl ⟨h1, by omega⟩)
        · exact .inl h1) with h1 | ⟨h1, h2⟩ | ⟨h1, h2, h3⟩
      · have hE : ¬ (s.extract r s.size).toList = [] := fun h => h1 ((rest_nil s r).1 h)
        clear hz h1 hc
        go_enter Try.func32, Try.ntmps32
        go_wp2_with (go_at_call 37; refine HC.out.mono ?_; rintro e w1 ⟨rfl, q, rfl⟩)
        go_ret2
        exact ⟨0, false, rfl, by omega, H.out, _, rfl⟩
      · have hE := (rest_nil s r).2 h1
        clear hz h1 hc
        go_enter Try.func32, Try.ntmps32
        go_wp2_with (go_at_call 37; refine HC.out.mono ?_; rintro e w1 ⟨rfl, q, rfl⟩)
        go_ret2
        exact ⟨0, false, rfl, by omega, H.out, _, rfl⟩
      · have hE := (rest_nil s r).2 h1
        clear hz h1 hc
        go_enter Try.func32, Try.ntmps32
        go_wp2_with (go_at_call 37; refine HC.out.mono ?_; rintro e w1 ⟨rfl, q, rfl⟩)
        go_ret2
        exact ⟨0, false, rfl, by omega, H.out, _, rfl⟩
def LenPostR (r : Option (Int × Int)) (W : World) (e : Ending) (w' : World) : Prop := ∃ (k z : Int) (b : Bool), e = .returned (.tuple #[.agg #[.int .i64 k, .int .i64 z], .bool b]) ∧ (-9223372036854775808 ≤ z ∧ z ≤ 9223372036854775807) ∧ (0 ≤ k ∧ k ≤ 2) ∧ r = (if b = true then some (k, z) else none) ∧ Below W.heap.size W w'
theorem below_drewN (W : World) (o : Obj) (q : Nat) : Below W.heap.size W ((W.alloc o).drewN q) := Below.drewN' ((Below.refl _ W).alloc (Nat.le_refl _) o) q
theorem rlength_any (s : ByteArray) (w : World) (hs : s.size ≤ 4611686018427387904) : Calls Try.prog 34 #[.string s] w fun e w' => LenPostR (lenR (bytesOf s)) w e w' := by
  go_enter Try.func34, Try.ntmps34
  go_wp2_with fail
  refine (rpixels_any s _ hs).mono ?_
  rintro e w1 ⟨z, b, rfl, hb, hr, q, rfl⟩
  cases b with
  | true =>
    have H := Lib.hid (show lenR (bytesOf s) = some (1, z) by unfold lenR; rw [hr]; rfl)
    clear hr
    go_wp2
    exact bodyPost_ret (v := .tuple #[.agg #[.int .i64 1, .int .i64 z], .bool true]) (by simp [results, Try.results34, go_sem]) rfl ⟨1, z, true, rfl, hb, by omega, H.out, ((below_drewN w _ _).setCell (Nat.le_refl _) _).setCell (Nat.le_refl _) _⟩
  | false =>
    cases hz : numZ (bytesOf s) 4 2 with
    | none =>
      have H := Lib.hid (show lenR (bytesOf s) = none by unfold lenR pctR; rw [hr, hz]; rfl)
      clear hr
      go_wp2_with fail
      refine (rnumber_none s 4 2 (by omega) (by omega) _ hs hz).mono ?_
      rintro e w1 ⟨rfl, q2, rfl⟩
      clear hz
      go_wp2
      exact bodyPost_ret (v := .tuple #[.agg #[.int .i64 0, .int .i64 0], .bool false]) (by simp [results, Try.results34, go_sem]) rfl ⟨0, 0, false, rfl, by omega, by omega, H.out, ((below_drewN w _ _).setCell (Nat.le_refl _) _).setCell (Nat.le_refl _) _⟩
    | some vr =>
      obtain ⟨v, r⟩ := vr
      have hbd := numZ_bd (by omega) (by omega) hz
      cases hc : restIs (bytesOf s) r [37] with
      | true =>
        have H := Lib.hid (show lenR (bytesOf s) = some (2, v) by unfold lenR pctR; rw [hr, hz]; simp only [hc]; rfl)
        have hb2 : ((s.extract r s.size).toList == [37]) = true := (rest_bytes s r _).trans hc
        clear hr hc
        go_wp2_with fail
        refine (rnumber_some s 4 2 (by omega) (by omega) _ hs v r hz).mono ?_
        rintro e w1 ⟨rfl, q2, rfl⟩
        clear hz
        go_wp2
        exact bodyPost_ret (v := .tuple #[.agg #[.int .i64 2, .int .i64 v], .bool true]) (by simp [results, Try.results34, go_sem]) rfl ⟨2, v, true, rfl, by omega, by omega, H.out, ((below_drewN w _ _).setCell (Nat.le_refl _) _).setCell (Nat.le_refl _) _⟩
      | false =>
        have H := Lib.hid (show lenR (bytesOf s) = none by unfold lenR pctR; rw [hr, hz]; simp only [hc]; rfl)
        have hb2 : ((s.extract r s.size).toList == [37]) = false := (rest_bytes s r _).trans hc
        clear hr hc
        go_wp2_with fail
        refine (rnumber_some s 4 2 (by omega) (by omega) _ hs v r hz).mono ?_
        rintro e w1 ⟨rfl, q2, rfl⟩
        clear hz
        go_wp2
        exact bodyPost_ret (v := .tuple #[.agg #[.int .i64 0, .int .i64 0], .bool false]) (by simp [results, Try.results34, go_sem]) rfl ⟨0, 0, false, rfl, by omega, by omega, H.out, ((below_drewN w _ _).setCell (Nat.le_refl _) _).setCell (Nat.le_refl _) _⟩
end Go.Proofs.Ytfmcabgcckllcaa
