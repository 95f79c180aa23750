import Derived.Test.YtodnplllkpgfaaaFreeAwake
import Derived.Test.YtodnplllkpgfaaaFreeTame
/- FreeTells: Ok, Resolve as the document says. -/
namespace Go.Proofs.Ytodnplllkpgfaaa
open Go Go.RowKit
set_option linter.unusedVariables false
set_option linter.unusedSimpArgs false
set_option maxRecDepth 20000
set_option maxHeartbeats 8000000

theorem ftells_any (l : List Fx) (hl : l.length ≤ 9223372036854775807) (A : Option Addr) (c : Nat) (inner : Int) (small : Bool) (W : World) (hR : Row W W.heap.size A (l.flatMap fxC)) :
    Calls Try.prog 6 #[.slice A l.length c, .int .i64 inner, .bool small] W fun e w' => e = .returned (.bool true) ∧ Below W.heap.size W w' := by
  have HR := Lib.hid hR
  clear hR
  have AW := Lib.hid (fun w => fawake_any w)
  obtain ⟨n, hn⟩ : ∃ n, l.length = n := ⟨_, rfl⟩
  have HN := Lib.hid hn
  have TM := Lib.hid (fun (w : World) (h : Row w w.heap.size A (l.flatMap fxC)) => ftame_any l hl A c small w h)
  rw [hn] at hl TM ⊢
  clear hn
  by_cases h6 : n > 600
  · have h6z : (n : Int) > 600 := by omega
    go_enter Try.func6, Try.ntmps6
    go_wp2_with fail
    refine (AW.out _).mono ?_
    rintro e w1 ⟨rfl, hb1⟩
    have B1 := Lib.hid hb1
    clear hb1
    go_wp2_with fail
    go_ret
    exact ⟨rfl, B1.out⟩
  · have h6z : ¬ (n : Int) > 600 := by omega
    go_enter Try.func6, Try.ntmps6
    go_wp2_with fail
    go_loopw [1, 7, 8] (fun v1 v7 v8 wr => ∃ (i m c1 : Nat) (A1 : Option Addr) (inn : Int) (L : List Fx), v1 = .int .i64 inn ∧ v7 = .slice A1 m c1 ∧ v8 = .int .i64 i ∧ i ≤ 2 ∧ m ≤ 600 ∧ Hid (L.length = m) ∧ Hid (Row wr wr.heap.size A1 (L.flatMap fxC)) ∧ Hid (Below W.heap.size W wr)) (fun _ _ v8 _ => 2 - (intOf v8).toNat)
    case atStart => exact ⟨0, n, c, A, inner, l, rfl, rfl, rfl, by omega, by omega, HN, HR, Lib.hid (Below.refl _ _)⟩
    case round =>
      obtain ⟨i, m, c1, A1, inn, L, rfl, rfl, rfl, hi, hm, HL, HRL, B⟩ := hrel
      by_cases hlt : i < 2
      · have hltz : (i : Int) < 2 := by omega
        have OK := Lib.hid (fun (w : World) (h : Row w w.heap.size A1 (L.flatMap fxC)) => fok_any L A1 c1 w h (by rw [HL.out]; omega))
        have RO := Lib.hid (fun (w : World) (h : Row w w.heap.size A1 (L.flatMap fxC)) => rflexOk_any L A1 c1 w h (by rw [HL.out]; omega))
        have FR := Lib.hid (fun (w : World) (h : Row w w.heap.size A1 (L.flatMap fxC)) => fres_any L A1 c1 inn w h (by rw [HL.out]; omega))
        have RR := Lib.hid (fun (w : World) (h : Row w w.heap.size A1 (L.flatMap fxC)) => rfree_any L A1 c1 inn w h (by rw [HL.out]; omega))
        rw [HL.out] at OK RO FR RR
        obtain ⟨b, hb⟩ : ∃ b, okL L = b := ⟨_, rfl⟩
        rw [hb] at OK RO
        obtain ⟨zs, hz⟩ : ∃ zs, resF inn L = zs := ⟨_, rfl⟩
        have HZ := Lib.hid hz
        have hzl : zs.length ≤ 600 := by
          rw [← hz]; unfold resF
          split
          · rw [sizesF_len, HL.out]; exact hm
          · simp
        clear hb hz
        have call2 : ∀ (w : World), Hid (Below wr.heap.size wr w) → Hid (Row w w.heap.size A1 (L.flatMap fxC)) := fun w h => Lib.hid ((HRL.out.below h.out).more h.out.size)
        have CR := Lib.hid call2
        clear call2
        go_wp2_with fail
        refine (OK.out _ HRL.out).mono ?_
        rintro e w1 ⟨rfl, hb1⟩
        have B1 := Lib.hid hb1
        clear hb1
        go_wp2_with fail
        refine (RO.out _ (CR.out w1 B1).out).mono ?_
        rintro e w2 ⟨rfl, hb2⟩
        have B2 := Lib.hid (B1.out.trans (hb2.mono B1.out.size))
        clear hb2 B1
        by_cases h20 : i = 0 ∧ n > 20
        · obtain ⟨hi0, hn20⟩ := h20
          subst hi0
          have z20 : decide ((n : Int) > 20) = true := decide_eq_true (by omega)
          have z20p : (n : Int) > 20 := by omega
          cases b
          all_goals
            go_wp2_with fail
            refine (OK.out _ (CR.out w2 B2).out).mono ?_
            rintro e w3 ⟨rfl, hb3⟩
            have B3 := Lib.hid (B2.out.trans (hb3.mono B2.out.size))
            clear hb3
            go_wp2_with fail
            refine (RO.out _ (CR.out w3 B3).out).mono ?_
            rintro e w4 ⟨rfl, hb4⟩
            have B4 := Lib.hid (B3.out.trans (hb4.mono B3.out.size))
            clear hb4
            go_wp2_with fail
            refine (AW.out _).mono ?_
            rintro e w5 ⟨rfl, hb5⟩
            have B5 := Lib.hid (B.out.trans ((B4.out.trans (hb5.mono B4.out.size)).mono B.out.size))
            clear hb5
            go_wp2_with fail
            go_ret
            exact ⟨rfl, B5.out⟩
        · have zi : ((i : Int) == 0) = false ∨ ((i : Int) == 0) = true ∧ ¬ (n : Int) > 20 ∧ decide ((n : Int) > 20) = false := by
            by_cases h0 : i = 0
            · exact .inr ⟨by rw [beq_iff_eq]; omega, by omega, decide_eq_false (by omega)⟩
            · exact .inl (by rw [beq_eq_false_iff_ne]; omega)
          have ZI := Lib.hid zi
          clear zi h20
          rcases ZI.out with z0 | ⟨z0, z1, z2⟩
          all_goals cases b
          all_goals
            clear OK RO ZI
            go_wp2_with fail
            refine (FR.out _ (CR.out w2 B2).out).mono ?_
            intro e w3 hp
            obtain ⟨A3, c3, rfl, r3, hb3⟩ := res_row (n := zs.length) hp HZ.out rfl
            have R3 := Lib.hid r3
            have B3 := Lib.hid (B2.out.trans (hb3.mono B2.out.size))
            clear hp r3 hb3 B2 FR
            go_wp2_with fail
            refine (RR.out _ (CR.out w3 B3).out).mono ?_
            intro e w4 hp
            obtain ⟨A4, c4, rfl, r4, hb4⟩ := res_row (n := zs.length) hp HZ.out rfl
            have R4 := Lib.hid r4
            have S3 := Lib.hid ((R3.out.below hb4).more hb4.size)
            have B4 := Lib.hid (B.out.trans ((B3.out.trans (hb4.mono B3.out.size)).mono B.out.size))
            clear hp r4 hb4 B3 RR R3
            have SM := Lib.hid (ksame_any A3 A4 c3 c4 zs.length zs w4 _ _ S3.out R4.out rfl (by omega))
            clear S3 R4
            go_wp2_with fail
            refine SM.out.mono ?_
            rintro e w5 ⟨rfl, q, rfl⟩
            have B5 := Lib.hid (Below.drewN' B4.out q)
            clear SM B4 CR
            generalize w4.drewN q = w5 at *
            have HR5 := Lib.hid ((HR.out.below B5.out).more B5.out.size)
            go_wp2_with fail
            refine (TM.out _ HR5.out).mono ?_
            rintro e w6 ⟨L2, A6, c6, rfl, o6, hl6, hok6, hb6⟩
            have R6 := Lib.hid (row_of_own o6)
            have B6 := Lib.hid (B5.out.trans (hb6.mono B5.out.size))
            have hl6' : L2.length ≤ 600 := by omega
            clear o6 hok6 hb6 HR5 B5
            have tb := tmod_bdF inn 1099511627776 (by decide)
            have tw : -9223372036854775808 ≤ inn.tmod 1099511627776 ∧ inn.tmod 1099511627776 ≤ 9223372036854775807 := by omega
            obtain ⟨t, ht⟩ : ∃ t, inn.tmod 1099511627776 = t := ⟨_, rfl⟩
            rw [ht] at tb tw
            cases small with
            | true =>
              go_wp2_with fail
              go_roundw
              case rel => exact ⟨i + 1, L2.length, c6, A6, _, L2, rfl, rfl, by go_num, by omega, hl6', Lib.hid rfl, R6, B6⟩
              case measure => simp [intOf] <;> omega
            | false =>
              go_wp2_with fail
              go_roundw
              case rel => exact ⟨i + 1, L2.length, c6, A6, _, L2, rfl, rfl, by go_num, by omega, hl6', Lib.hid rfl, R6, B6⟩
              case measure => simp [intOf] <;> omega
      · have hltz : ¬ (i : Int) < 2 := by omega
        go_wp2_with fail
        refine (AW.out _).mono ?_
        rintro e w1 ⟨rfl, hb1⟩
        have B1 := Lib.hid (B.out.trans (hb1.mono B.out.size))
        clear hb1
        go_wp2_with fail
        go_ret
        exact ⟨rfl, B1.out⟩
end Go.Proofs.Ytodnplllkpgfaaa
