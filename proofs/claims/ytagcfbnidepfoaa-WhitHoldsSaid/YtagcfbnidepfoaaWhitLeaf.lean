import Derived.Test.YtagcfbnidepfoaaGaugWide
import Derived.Test.YtagcfbnidepfoaaWritNum
import Derived.Test.YtagcfbnidepfoaaGlyphMem
/- whit: kind, isWhite, adv. -/
namespace Go.Proofs.Ytagcfbnidepfoaa
open Go Go.RowKit
set_option linter.unusedVariables false
set_option linter.unusedSimpArgs false
set_option maxRecDepth 20000
set_option maxHeartbeats 4000000

theorem wwhite_any (b : UInt8) (w : World) : Calls Try.prog 21 #[.int .u8 b.toNat] w fun e w' => e = .returned (.bool (isW b)) ∧ w = w' := by
  have hc := isW_cases b
  generalize isW b = v at *
  rcases hc with ⟨h1, rfl⟩ | ⟨h1, h2, rfl⟩ | ⟨h1, h2, h3, rfl⟩ | ⟨h1, h2, h3, h4, rfl⟩ | ⟨h1, h2, h3, h4, rfl⟩
  all_goals
    go_enter Try.func21, Try.ntmps21
    go_wp2
    go_ret
    exact ⟨rfl, rfl⟩
theorem kindZ_cases (wh : Int) (b : UInt8) : ((wh == 2) = true ∧ ((b.toNat : Int) == 10) = true ∧ kindZ wh b = 4) ∨ ((wh == 2) = true ∧ ((b.toNat : Int) == 10) = false ∧ kindZ wh b = 1) ∨
    ((wh == 2) = false ∧ isW b = false ∧ kindZ wh b = 1) ∨ ((wh == 2) = false ∧ isW b = true ∧ (wh == 1) = true ∧ kindZ wh b = 3) ∨ ((wh == 2) = false ∧ isW b = true ∧ (wh == 1) = false ∧ kindZ wh b = 2) := by
  unfold kindZ
  simp only [beq_iff_eq, beq_eq_false_iff_ne]
  by_cases h2 : wh = 2
  · by_cases h10 : (b.toNat : Int) = 10 <;> simp [h2, h10]
  · cases hb : isW b
    · simp [h2]
    · by_cases h1 : wh = 1 <;> simp [h2, h1]
theorem kind_any (wh : Int) (b : UInt8) (w : World) : Calls Try.prog 15 #[.int .u8 b.toNat, .int .i64 wh] w fun e w' => e = .returned (.int .i64 (kindZ wh b)) ∧ w = w' := by
  have hc := kindZ_cases wh b
  have CW := Lib.hid (fun w => wwhite_any b w)
  generalize kindZ wh b = v at *
  rcases hc with ⟨h1, h2, rfl⟩ | ⟨h1, h2, rfl⟩ | ⟨h1, h2, rfl⟩ | ⟨h1, h2, h3, rfl⟩ | ⟨h1, h2, h3, rfl⟩
  · go_enter Try.func15, Try.ntmps15
    go_wp2
    go_ret
    exact ⟨rfl, rfl⟩
  · go_enter Try.func15, Try.ntmps15
    go_wp2
    go_ret
    exact ⟨rfl, rfl⟩
  all_goals
    rw [h2] at CW
    go_enter Try.func15, Try.ntmps15
    go_wp2_with fail
    refine (CW.out _).mono ?_
    rintro e w' ⟨rfl, rfl⟩
    go_wp2
    go_ret
    exact ⟨rfl, rfl⟩
theorem kindAdv_cases (zs : List Int) (k : Int) (s : ByteArray) (hk : k = 1 ∨ k = 2 ∨ k = 3 ∨ k = 4) : (k = 4 ∧ kindAdv zs k s = 0) ∨ (k = 2 ∧ kindAdv zs k s = wideZ zs ⟨#[32]⟩) ∨ (k = 3 ∧ kindAdv zs k s = wideZ zs ⟨#[32]⟩) ∨ (k = 1 ∧ kindAdv zs k s = wideZ zs s) := by
  unfold kindAdv
  rcases hk with rfl | rfl | rfl | rfl <;> simp
theorem kindZ_in (wh : Int) (b : UInt8) : kindZ wh b = 1 ∨ kindZ wh b = 2 ∨ kindZ wh b = 3 ∨ kindZ wh b = 4 := by
  unfold kindZ
  split
  · split <;> simp
  · split
    · split <;> simp
    · simp
theorem wadv_any (zs : List Int) (hz : zs.length = 256) (k : Int) (hk : k = 1 ∨ k = 2 ∨ k = 3 ∨ k = 4) (s : ByteArray) (hs : s.size ≤ 1000000) (M : Nat) (W : World) (hm : Whole W M 24 (i64s zs)) :
    Calls Try.prog 16 #[.pointer (some ⟨M, 0, none⟩), .int .i64 k, .string s] W fun e w' => e = .returned (.int .i64 (kindAdv zs k s)) ∧ Below W.heap.size W w' := by
  have HM := Lib.hid hm
  have hc := kindAdv_cases zs k s hk
  have C1 := Lib.hid (fun w => wide_any zs hz s hs w)
  have C2 := Lib.hid (fun w => wide_any zs hz ⟨#[32]⟩ (by decide) w)
  have HZ := Lib.hid hz
  clear hm hz
  generalize kindAdv zs k s = v at *
  rcases hc with ⟨rfl, rfl⟩ | ⟨rfl, rfl⟩ | ⟨rfl, rfl⟩ | ⟨rfl, rfl⟩
  · go_enter Try.func16, Try.ntmps16
    go_wp2
    go_ret
    exact ⟨rfl, Below.refl _ _⟩
  · go_enter Try.func16, Try.ntmps16
    go_wp2_with (refine flat_load met_flat (.tmp 14) rfl rfl M rfl zs HZ.out 24 HM.out ?_)
    refine (C2.out _).mono ?_
    rintro e w' ⟨rfl, hb⟩
    go_wp2
    go_ret
    exact ⟨rfl, hb⟩
  · go_enter Try.func16, Try.ntmps16
    go_wp2_with (refine flat_load met_flat (.tmp 14) rfl rfl M rfl zs HZ.out 24 HM.out ?_)
    refine (C2.out _).mono ?_
    rintro e w' ⟨rfl, hb⟩
    go_wp2
    go_ret
    exact ⟨rfl, hb⟩
  · go_enter Try.func16, Try.ntmps16
    go_wp2_with (refine flat_load met_flat (.tmp 14) rfl rfl M rfl zs HZ.out 24 HM.out ?_)
    refine (C1.out _).mono ?_
    rintro e w' ⟨rfl, hb⟩
    go_wp2
    go_ret
    exact ⟨rfl, hb⟩
end Go.Proofs.Ytagcfbnidepfoaa
