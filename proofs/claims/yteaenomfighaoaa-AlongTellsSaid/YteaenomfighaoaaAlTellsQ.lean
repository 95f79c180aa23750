import Derived.Test.YteaenomfighaoaaAlAwakeQ
import Derived.Test.YteaenomfighaoaaAlTameQ
import Derived.Test.YteaenomfighaoaaRefAlQ
/- AlongTells: Place as the document says. -/
namespace Go.Proofs.Yteaenomfighaoaa
open Go Go.RowKit
set_option linter.unusedVariables false
set_option linter.unusedSimpArgs false
set_option maxRecDepth 20000
set_option maxHeartbeats 8000000

theorem altells_any (l0 : List Al) (hl : l0.length ≤ 9223372036854775807) (A : Option Addr) (c : Nat) (inner just : Int) (rev small : Bool) (W : World) (hR : Row W W.heap.size A (l0.flatMap alC)) :
    Calls Try.prog 4 #[.slice A l0.length c, .int .i64 inner, .int .i64 just, .bool rev, .bool small] W fun e w' => e = .returned (.bool true) ∧ Below W.heap.size W w' := by
  have AW := Lib.hid (fun w => alawake_any w)
  have TM := Lib.hid (altame_any l0 hl A c small W hR)
  clear hR
  have k10 : ∀ x : Int, bits .and .i64 x 1023 = x % 1024 := fun x => and_mask_i64 x 10 (by decide)
  have k3 : ∀ x : Int, bits .and .i64 x 7 = x % 8 := fun x => and_mask_i64 x 3 (by decide)
  have t0 := Int.lt_tmod_of_pos inner (show (0 : Int) < 35184372088832 by decide)
  have t1 := Int.tmod_lt_of_pos inner (show (0 : Int) < 35184372088832 by decide)
  obtain ⟨t, ht⟩ : ∃ t, inner.tmod 35184372088832 = t := ⟨_, rfl⟩
  rw [ht] at t0 t1
  go_enter Try.func4, Try.ntmps4
  go_wp2_with fail
  refine TM.out.mono ?_
  rintro e w1 ⟨L, A1, c1, rfl, o1, hl20, htm, hb1⟩
  have R1 := Lib.hid (row_of_own o1)
  have B1 := Lib.hid hb1
  have hok : ∀ x ∈ L, AlOk x := fun x hx => (htm x hx).1
  clear o1 hb1 TM htm
  obtain ⟨n, hn⟩ : ∃ n, L.length = n := ⟨_, rfl⟩
  have CL := Lib.hid (fun (inn j : Int) (hi : -35184372088832 ≤ inn ∧ inn ≤ 35184372088832) (w : World) (h : Row w w.heap.size A1 (L.flatMap alC)) => (along_any L A1 c1 inn j rev w h hok (by omega) hi).mono fun e w' hp => pl_row hp rfl hn)
  have DL := Lib.hid (fun (inn j : Int) (hi : -35184372088832 ≤ inn ∧ inn ≤ 35184372088832) (w : World) (h : Row w w.heap.size A1 (L.flatMap alC)) => (ralong_any L A1 c1 inn j rev w h hok (by omega) hi).mono fun e w' hp => pl_row hp rfl hn)
  have PL := Lib.hid (fun (inn j : Int) => (by rw [placeA_len, hn] : (placeA inn L j rev).length = n))
  rw [hn] at CL DL hl20 ⊢
  clear hn hok
  cases small
  · go_wp2_with fail
    clear k10 k3 ht
    refine (CL.out _ _ (by omega) _ R1.out).mono ?_
    rintro e w2 ⟨A2, c2, rfl, r2, hb2⟩
    have R2 := Lib.hid r2
    have S1 := Lib.hid ((R1.out.below hb2).more hb2.size)
    have B2 := Lib.hid (B1.out.trans (hb2.mono B1.out.size))
    clear r2 hb2 R1 B1
    go_wp2_with fail
    refine (DL.out _ _ (by omega) _ S1.out).mono ?_
    rintro e w3 ⟨A3, c3, rfl, r3, hb3⟩
    have R3 := Lib.hid r3
    have R4 := Lib.hid ((R2.out.below hb3).more hb3.size)
    have B3 := Lib.hid (B2.out.trans (hb3.mono B2.out.size))
    clear r3 hb3 R2 S1 B2 CL DL
    go_wp2_with fail
    refine (ksame_any A2 A3 c2 c3 n _ w3 _ _ R4.out R3.out (PL.out _ _) (by omega)).mono ?_
    rintro e w4 ⟨rfl, q, rfl⟩
    have B4 := Lib.hid (Below.drewN' B3.out q)
    clear B3 R3 R4
    generalize w3.drewN q = w5 at *
    go_wp2_with fail
    refine (AW.out _).mono ?_
    rintro e w6 ⟨rfl, hb6⟩
    have B6 := Lib.hid (B4.out.trans (hb6.mono B4.out.size))
    clear hb6
    go_wp2_with fail
    go_ret
    exact ⟨rfl, B6.out⟩
  · have u0 := Int.emod_nonneg t (show (1024 : Int) ≠ 0 by decide)
    have u1 := Int.emod_lt_of_pos t (show (0 : Int) < 1024 by decide)
    go_wp2_with fail
    clear k10 k3 ht
    refine (CL.out _ _ (by omega) _ R1.out).mono ?_
    rintro e w2 ⟨A2, c2, rfl, r2, hb2⟩
    have R2 := Lib.hid r2
    have S1 := Lib.hid ((R1.out.below hb2).more hb2.size)
    have B2 := Lib.hid (B1.out.trans (hb2.mono B1.out.size))
    clear r2 hb2 R1 B1
    go_wp2_with fail
    refine (DL.out _ _ (by omega) _ S1.out).mono ?_
    rintro e w3 ⟨A3, c3, rfl, r3, hb3⟩
    have R3 := Lib.hid r3
    have R4 := Lib.hid ((R2.out.below hb3).more hb3.size)
    have B3 := Lib.hid (B2.out.trans (hb3.mono B2.out.size))
    clear r3 hb3 R2 S1 B2 CL DL
    go_wp2_with fail
    refine (ksame_any A2 A3 c2 c3 n _ w3 _ _ R4.out R3.out (PL.out _ _) (by omega)).mono ?_
    rintro e w4 ⟨rfl, q, rfl⟩
    have B4 := Lib.hid (Below.drewN' B3.out q)
    clear B3 R3 R4
    generalize w3.drewN q = w5 at *
    go_wp2_with fail
    refine (AW.out _).mono ?_
    rintro e w6 ⟨rfl, hb6⟩
    have B6 := Lib.hid (B4.out.trans (hb6.mono B4.out.size))
    clear hb6
    go_wp2_with fail
    go_ret
    exact ⟨rfl, B6.out⟩
end Go.Proofs.Yteaenomfighaoaa
