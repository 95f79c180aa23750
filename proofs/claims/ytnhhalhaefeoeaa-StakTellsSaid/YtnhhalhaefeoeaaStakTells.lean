import Derived.Test.YtnhhalhaefeoeaaStkTame
import Derived.Test.YtnhhalhaefeoeaaRefStak
/- StakTells answers true. -/
namespace Go.Proofs.Ytnhhalhaefeoeaa
open Go Go.RowKit
set_option linter.unusedVariables false
set_option linter.unusedSimpArgs false
set_option maxRecDepth 20000
set_option maxHeartbeats 4000000

theorem sdV_list (x : Sd) : sdV x = .agg (sdC x).toArray := rfl
theorem stakTells_any (l0 : List Ld) (hl : l0.length ≤ 9223372036854775807) (A : Option Addr) (c : Nat) (top bottom : Bool) (W : World) (hR : Row W W.heap.size A (l0.flatMap ldC)) :
    Calls Try.prog 5 #[.slice A l0.length c, .bool top, .bool bottom] W fun e w' => e = .returned (.bool true) ∧ Below W.heap.size W w' := by
  have TM := Lib.hid (ktame_any l0 hl A c W hR)
  have hok := tameLd_ok l0
  have hlen := tameLd_len l0
  generalize tameLd l0 = l at *
  have S1 := Lib.hid (fun A c w hR => stack_any l (by omega) hok A c top bottom w hR)
  have S2 := Lib.hid (fun A c w hR => rstack_any l (by omega) hok A c top bottom w hR)
  obtain ⟨x, hx⟩ : ∃ x, endS (runS (startS top) l) bottom = x := ⟨_, rfl⟩
  have hz := atL_length (startS top) l
  rw [hx] at S1 S2
  generalize atL (startS top) l = zs at *
  clear hx hok hR
  obtain ⟨⟨tp, tq⟩, ⟨bp, bq⟩, th, h⟩ := x
  have HZ := Lib.hid hz
  clear hz
  go_enter Try.func5, Try.ntmps5
  go_wp2_with fail
  refine TM.out.mono ?_
  rintro e w1 ⟨A1, c1, rfl, o1, hb⟩
  have R1 := Lib.hid (row_of_own o1)
  have B1 := Lib.hid hb
  clear o1 hb TM
  generalize l.length = n at *
  go_wp2_with fail
  refine (S1.out _ _ _ R1.out).mono ?_
  rintro e w2 ⟨A2, c2, rfl, o2, hb⟩
  have B2 := Lib.hid ((B1.out.trans (hb.mono B1.out.size)).alloc (by have := hb.size; have := B1.out.size; omega) (.cells #[.int .i64 tp, .int .i64 tq, .int .i64 bp, .int .i64 bq, .bool th, .int .i64 h] 31))
  have V2 := Lib.hid (Whole.mk w2 31 #[.int .i64 tp, .int .i64 tq, .int .i64 bp, .int .i64 bq, .bool th, .int .i64 h])
  have R2 := Lib.hid ((((R1.out.below hb).more hb.size).below (w' := w2.alloc (.cells #[.int .i64 tp, .int .i64 tq, .int .i64 bp, .int .i64 bq, .bool th, .int .i64 h] 31)) ((Below.refl _ w2).alloc (Nat.le_refl _) _)).more (B' := (w2.alloc (.cells #[.int .i64 tp, .int .i64 tq, .int .i64 bp, .int .i64 bq, .bool th, .int .i64 h] 31)).heap.size) (by simp))
  have Y2 := Lib.hid (((row_of_own o2).below ((Below.refl _ w2).alloc (Nat.le_refl _) (.cells #[.int .i64 tp, .int .i64 tq, .int .i64 bp, .int .i64 bq, .bool th, .int .i64 h] 31))).more (B' := (w2.alloc (.cells #[.int .i64 tp, .int .i64 tq, .int .i64 bp, .int .i64 bq, .bool th, .int .i64 h] 31)).heap.size) (by simp))
  clear o2 hb R1 B1 S1
  go_upto_region 3 with fail
  generalize w2.alloc _ = u2 at *
  generalize w2.heap.size = g2 at *
  go_wp2_with fail
  refine (S2.out _ _ _ R2.out).mono ?_
  rintro e w3 ⟨A3, c3, rfl, o3, hb⟩
  have B3 := Lib.hid ((B2.out.trans (hb.mono B2.out.size)).alloc (by have := hb.size; have := B2.out.size; omega) (.cells #[.int .i64 tp, .int .i64 tq, .int .i64 bp, .int .i64 bq, .bool th, .int .i64 h] 31))
  have V3 := Lib.hid ((V2.out.under hb V2.out.size).made (.cells #[.int .i64 tp, .int .i64 tq, .int .i64 bp, .int .i64 bq, .bool th, .int .i64 h] 31))
  have U3 := Lib.hid (Whole.mk w3 31 #[.int .i64 tp, .int .i64 tq, .int .i64 bp, .int .i64 bq, .bool th, .int .i64 h])
  have Y3 := Lib.hid ((((Y2.out.below hb).more hb.size).below (w' := w3.alloc (.cells #[.int .i64 tp, .int .i64 tq, .int .i64 bp, .int .i64 bq, .bool th, .int .i64 h] 31)) ((Below.refl _ w3).alloc (Nat.le_refl _) _)).more (B' := (w3.alloc (.cells #[.int .i64 tp, .int .i64 tq, .int .i64 bp, .int .i64 bq, .bool th, .int .i64 h] 31)).heap.size) (by simp))
  have Z3 := Lib.hid (((row_of_own o3).below ((Below.refl _ w3).alloc (Nat.le_refl _) (.cells #[.int .i64 tp, .int .i64 tq, .int .i64 bp, .int .i64 bq, .bool th, .int .i64 h] 31))).more (B' := (w3.alloc (.cells #[.int .i64 tp, .int .i64 tq, .int .i64 bp, .int .i64 bq, .bool th, .int .i64 h] 31)).heap.size) (by simp))
  clear o3 hb R2 B2 Y2 V2 S2
  go_upto_region 4 with fail
  generalize w3.alloc _ = u3 at *
  generalize w3.heap.size = g3 at *
  go_wp2_with fail
  refine (ksame_any _ _ _ _ n zs u3 _ _ Y3.out Z3.out HZ.out (by omega)).mono ?_
  rintro e w4 ⟨rfl, q, rfl⟩
  have V4 : Whole (u3.drewN q) g2 31 [.int .i64 tp, .int .i64 tq, .int .i64 bp, .int .i64 bq, .bool th, .int .i64 h] := V3.out.drawn q
  have U4 : Whole (u3.drewN q) g3 31 [.int .i64 tp, .int .i64 tq, .int .i64 bp, .int .i64 bq, .bool th, .int .i64 h] := U3.out.drawn q
  have B4 := Lib.hid (Below.drewN' B3.out q)
  have W4 := Lib.hid V4
  have X4 := Lib.hid U4
  clear V4 U4 V3 U3 Y3 Z3 B3
  generalize u3.drewN q = w4 at *
  go_wp2_with (first
    | (refine cells_loadW sd_flat (.tmp 8) rfl rfl g2 rfl [.int .i64 tp, .int .i64 tq, .int .i64 bp, .int .i64 bq, .bool th, .int .i64 h] rfl 31 W4.out ?_)
    | (refine cells_loadW sd_flat (.tmp 10) rfl rfl g3 rfl [.int .i64 tp, .int .i64 tq, .int .i64 bp, .int .i64 bq, .bool th, .int .i64 h] rfl 31 X4.out ?_))
  refine (kawake_any _).mono ?_
  rintro e w5 ⟨rfl, hb⟩
  have B5 := Lib.hid (B4.out.trans (hb.mono B4.out.size))
  clear hb B4 W4 X4
  go_wp2_with fail
  go_ret
  exact ⟨rfl, B5.out⟩
end Go.Proofs.Ytnhhalhaefeoeaa
