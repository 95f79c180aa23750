import Derived.Test.YtcdjdpgjflhjiaaDoorAsAll
import Derived.BigQuiet
import Derived.Deep.QuietTactic
import Derived.IntWalk
/- quoinlaw0.NamesNumbers answers true. -/
namespace Go.Proofs.YtcdjdpgjflhjiaaDoor
open Go.RowKit Go.Extern.Stop Go.Stop Go.Extern
set_option linter.unusedVariables false
set_option linter.unusedSimpArgs false

set_option maxRecDepth 100000 in
theorem small18 (w : World) : Calls Tryd.prog 18 #[.int .i64 18] w fun e w' => e = .returned (.string ⟨#[49, 56]⟩) ∧ w = w' := by
  go_enter Tryd.func18, Tryd.ntmps18
  go_wp2
  go_ret
  exact ⟨rfl, rfl⟩
theorem format18 (w : World) : Calls Tryd.prog 14 #[.int .i64 18, .int .i64 10] w fun e w' => e = .returned (.string ⟨#[49, 56]⟩) ∧ w = w' := by
  go_enter Tryd.func14, Tryd.ntmps14
  go_wp2_with (go_at_call 18; refine (small18 _).mono ?_; rintro e w' ⟨rfl, rfl⟩)
  go_ret
  exact ⟨rfl, rfl⟩
theorem itoa18i (w : World) : Calls Tryd.prog 9 #[.int .i64 18] w fun e w' => e = .returned (.string ⟨#[49, 56]⟩) ∧ w = w' := by
  go_enter Tryd.func9, Tryd.ntmps9
  go_wp2_with (go_at_call 14; refine (format18 _).mono ?_; rintro e w' ⟨rfl, rfl⟩)
  go_ret
  exact ⟨rfl, rfl⟩
theorem itoa18 (w : World) : Calls Tryd.prog 7 #[.int .i64 18] w fun e w' => e = .returned (.string ⟨#[49, 56]⟩) ∧ w = w' := by
  go_enter Tryd.func7, Tryd.ntmps7
  go_wp2_with (go_at_call 9; refine (itoa18i _).mono ?_; rintro e w' ⟨rfl, rfl⟩)
  go_ret
  exact ⟨rfl, rfl⟩
theorem error18 (w : World) : Calls Tryd.prog 5 #[.int .i64 18] w fun e w' => e = .returned (.string ⟨#[101, 114, 114, 111, 114, 32, 49, 56]⟩) ∧ w = w' := by
  go_enter Tryd.func5, Tryd.ntmps5
  go_wp2_with (go_at_call 7; refine (itoa18 _).mono ?_; rintro e w' ⟨rfl, rfl⟩)
  go_ret
  exact ⟨rfl, rfl⟩
def nums : List Int := [0, 1, 2, 3, 4, 5, 6, 7, 8, 9, 10, 11, 12, 13, 14, 15, 16, 17, 18, 1073741824, 35184372088832, 500, 1000, 20, 1000, 2000, 100, 0, 1, 2, 1, 2, 3, 1, 2, 3, 4, 1, 2, 3, 4, 5, 6, 1, 2, 3, 4, 5, 6, 1, 2, 3, 4, 5, 6, 1, 2, 3, 4]
def flat : List Int → List Value
  | [] => []
  | n :: r => .int .i64 n :: .int .i64 n :: flat r
theorem flat_get (l : List Int) : ∀ k (h : k < l.length), (flat l)[2 * k]? = some (.int .i64 l[k]) ∧ (flat l)[2 * k + 1]? = some (.int .i64 l[k]) := by
  induction l with
  | nil => intro k h; simp at h
  | cons n r ih =>
    intro k h
    cases k with
    | zero => exact ⟨rfl, rfl⟩
    | succ k =>
      have := ih k (by simpa using h)
      rw [show 2 * (k + 1) = 2 * k + 1 + 1 by omega]
      simpa [flat] using this
set_option maxRecDepth 100000 in
set_option maxHeartbeats 4000000 in
theorem all_any (w : World) : Calls Tryd.prog 4 #[] w fun e w' => e = .returned (.slice (some ⟨w.heap.size, 0, none⟩) 59 59) ∧ w' = w.alloc (.cells (flat nums).toArray 25) := by
  go_enter Tryd.func4, Tryd.ntmps4
  go_wp2
  go_ret
  exact ⟨rfl, rfl⟩
theorem Below.drewN' {B : Nat} {a w : World} (h : Below B a w) (n : Nat) : Below B a (w.drewN n) := ⟨h.os, h.tape, h.output, h.size, h.block⟩
def AllMade (w w' : World) : Prop := Below w.heap.size w w' ∧ ∀ (k : Nat) (h : k < 59), w'.cell? ⟨w.heap.size, k * 2, none⟩ = some (.int .i64 (nums[k]'h)) ∧ w'.cell? ⟨w.heap.size, k * 2 + 1, none⟩ = some (.int .i64 (nums[k]'h))
theorem all_made (w : World) : Calls Tryd.prog 4 #[] w fun e w' => e = .returned (.slice (some ⟨w.heap.size, 0, none⟩) 59 59) ∧ AllMade w w' := by
  refine (all_any w).mono ?_
  rintro e w' ⟨rfl, rfl⟩
  refine ⟨rfl, (Below.refl _ _).alloc (Nat.le_refl _) _, fun k h => ?_⟩
  rw [World.cell?_alloc_at _ _ _ _ rfl, World.cell?_alloc_at _ _ _ _ rfl]
  have := flat_get nums k h
  simpa [Nat.mul_comm] using this
theorem nums_length : nums.length = 59 := rfl
set_option maxRecDepth 100000 in
set_option maxHeartbeats 4000000 in
theorem names_walk (w : World) (hg : ErrTab w) : Calls Tryd.prog 3 #[] w fun e w' => e = .returned (.bool true) ∧ Below w.heap.size w w' := by
  have HG := Lib.hid hg
  clear hg
  go_enter Tryd.func3, Tryd.ntmps3
  go_wp2_with (go_at_call 4; refine (all_made _).mono ?_; rintro e w' ⟨rfl, hw1⟩)
  obtain ⟨hb1, HC'⟩ := hw1
  have HC := Lib.hid HC'
  clear HC'
  have HGw := Lib.hid (HG.out.below hb1 HG.out.lt)
  go_loopw [2] (fun i wr => ∃ k q : Nat, k ≤ 59 ∧ i = .int .i64 k ∧ wr = w'.drewN q) (fun i _ => 59 - (intOf i).toNat)
  case atStart => exact ⟨0, 0, Nat.zero_le _, rfl, rfl⟩
  case round =>
    obtain ⟨k, q, hk, rfl, rfl⟩ := hrel
    by_cases hlt : k < 59
    · obtain ⟨hc, hd⟩ := HC.out k hlt
      have hlt' : (k : Int) < 59 := by omega
      generalize nums[k]'_ = z at *
      go_wp2
      go_quiet (fail)
      go_wp2
      go_roundw
      case rel => exact ⟨k + 1, _, by omega, by go_num, rfl⟩
      case measure => simp [intOf]; omega
    · obtain rfl : k = 59 := by omega
      have hnil := Lib.hid (code_nil (w'.drewN q))
      have hft := Lib.hid (code_fault 11 ⟨w'.heap.size, 0, none⟩ ((w'.drewN q).alloc (.cells #[.int .i64 3, .iface 26 (.int .i64 11)] 33)) ((HGw.out.drewN q).alloc _) (by
        exact (World.cell?_alloc_at _ _ _ _ rfl).trans rfl))
      go_wp2_with (go_at_call 5; refine (error18 _).mono ?_; rintro e w' ⟨rfl, rfl⟩)
      refine hnil.out.mono ?_
      rintro e w1 ⟨rfl, rfl⟩
      go_wp2_with fail
      refine hft.out.mono ?_
      rintro e w1 ⟨rfl, hb2⟩
      go_wp2
      go_ret
      exact ⟨rfl, (hb1.trans ((Below.drewN' (Below.refl _ _) q).mono hb1.size |>.alloc (by simpa using hb1.size) _)).trans (hb2.mono (by have := hb1.size; simp; omega))⟩
end Go.Proofs.YtcdjdpgjflhjiaaDoor
