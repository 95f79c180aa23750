import Derived.Test.YtpnpmellohacoaaDoorLeastNum
/- PoolLeast's walk. -/
namespace Go.Proofs.YtpnpmellohacoaaDoor
open Go Go.RowKit
set_option linter.unusedVariables false
set_option linter.unusedSimpArgs false

set_option maxHeartbeats 8000000 in
set_option maxRecDepth 20000 in
theorem least_any (n : Int) (A : Option Addr) (c : Nat) (zs : List Int) (w : World) (hE : ErrTab w) (hr : Row w w.heap.size A (i64s zs)) (hb : ∀ k (hk : k < zs.length), -9223372036854775808 ≤ zs[k] ∧ zs[k] ≤ 9223372036854775807) (hc : zs.length ≤ c) (hm : c ≤ maxLen) :
    Calls Tryd.prog 3 #[.int .i64 n, .slice A zs.length c] w fun e w' => e = .returned (.bool true) ∧ Below w.heap.size w w' := by
  have HE := Lib.hid hE
  have hlt := hE.lt
  have HR := Lib.hid hr
  have HB := Lib.hid hb
  have hm' : c ≤ 9223372036854775807 := by unfold maxLen at hm; omega
  clear hE hr hb hm
  have q0 := mask7 n
  obtain ⟨M, hM⟩ : ∃ M : Nat, n % 8 + 1 = M := ⟨(n % 8 + 1).toNat, by omega⟩
  have hM1 : 1 ≤ M := by omega
  have hM8 : M ≤ 8 := by omega
  have q1 : IntKind.i64.wrap (n % 8 + 1) = M := by rw [IntWalk.i64_in _ (by omega)]; exact hM
  have hbn : Hid (bndP (n % 8 + 1) = M) := Lib.hid (by rw [bnd_small (by omega) (by omega)]; exact hM)
  have hbn' : Hid (bndP M = M) := Lib.hid (bnd_small (by omega) (by omega))
  have HM := Lib.hid hM
  go_enter Tryd.func3, Tryd.ntmps3
  go_wp2_with fail
  refine (new_any M w).mono ?_
  rintro e w1 ⟨rfl, hp1, hb1⟩
  rw [hbn'.out] at hp1
  have P1 : PB w.heap.size w1 w.heap.size M [] 0 [w.heap.size] := ⟨hp1, by simp, hb1.size⟩
  have HP1 := Lib.hid P1
  have B1 := Lib.hid hb1
  clear hp1 hb1 P1 q0 q1 hM hbn hbn'
  go_wp2_with fail
  go_loopw [6, 7] (fun v i wr => ∃ (k : Nat) (S : List Nat) (A' : Option Addr) (c' : Nat), k ≤ M ∧ i = .int .i64 k ∧ v = .slice A' k c' ∧ PB w.heap.size wr w.heap.size M (ones k) k S ∧
      Beside w.heap.size wr S 27 2 (.slice A' k c') k (hCells (handles 0 (ones k))) ∧ Below w.heap.size w wr) (fun _ i _ => M - (intOf i).toNat)
  case atStart => exact ⟨0, [w.heap.size], none, 0, by omega, rfl, rfl, HP1.out, Beside.nil _ _ _ _ _, B1.out⟩
  case round =>
    obtain ⟨k, S, A', c', hk, rfl, rfl, hp, hl, hbl⟩ := hrel
    have HP := Lib.hid hp
    have HL := Lib.hid hl
    have HBl := Lib.hid hbl
    obtain ⟨hc1, hc2⟩ := owns_cap hl.row
    clear hp hl hbl
    by_cases hkm : k < M
    · have hkm' : (k : Int) < M := by omega
      go_wp2_with fail
      refine (ptake _ _ _ _ _ _ wr HP.out (by rw [ones_count]; omega) (by omega)).mono ?_
      rintro e w2 ⟨he, S2, P2, O2, N2, b2⟩
      rw [ones_least, ones_next] at he
      obtain rfl : e = .returned (.tuple #[.agg #[.int .i64 k, .int .i64 1], .nilIface]) := he
      rw [ones_take] at P2
      have L2 := Lib.hid (HL.out.step O2 N2)
      have B2 := Lib.hid (HBl.out.trans b2)
      have HP2 := Lib.hid P2
      clear P2 O2 N2 b2 HP HL HBl
      have R := (L2.out.alloc (.cells #[.int .i64 k, .int .i64 1] 27)).row
      have P2a := Lib.hid (HP2.out.alloc (.cells #[.int .i64 k, .int .i64 1] 27))
      have L2a := Lib.hid (L2.out.alloc (.cells #[.int .i64 k, .int .i64 1] 27))
      have B2a := Lib.hid (B2.out.alloc (o := .cells #[.int .i64 k, .int .i64 1] 27) HP2.out.room)
      clear HP2 L2 B2
      go_wp2_with (at_builtin; refine wpList_oneG (w2.heap.size + 1) (by simp) rfl (.tmp 44) (.tmp 46) _ rfl 27 2 16 (.agg #[.int .i64 0, .int .i64 0]) Tryd.underlying25 handle_info rfl (by decide) _ _ _ _ rfl R rfl ⟨by omega, by unfold maxLen; omega⟩ rfl (by simp [Value.oneCell']) ?_; intro A3 c3 w3 hown3 ho3 hk3; obtain ⟨P3, L3, B3⟩ := Beside.pushed P2a.out L2a.out hown3 ho3 hk3; have HP3 := Lib.hid P3; have HL3 := Lib.hid L3; have HB3 := Lib.hid (B2a.out.trans B3); clear P3 L3 B3 hown3 ho3 hk3 P2a L2a B2a R)
      go_roundw
      case rel =>
        refine ⟨k + 1, S2, A3, c3, by omega, by go_num, rfl, by push_cast; exact HP3.out, ?_, HB3.out⟩
        rw [handles_ones, hCells_append]
        exact HL3.out
      case measure => simp [intOf]; omega
    · obtain rfl : M = k := by omega
      obtain ⟨gA, cA, e, _, _, hgA⟩ := owns_some HL.out.row (by omega)
      injection e with e1 _ e2
      subst e1 e2
      go_wp2_with fail
      go_loopw [10] (fun i wr => ∃ (j : Nat) (pl : Pl) (S : List Nat), j ≤ 20 ∧ i = .int .i64 j ∧ pl.length = M ∧ (∀ i, i < M → takenOf pl i = true) ∧ PB w.heap.size wr w.heap.size M pl (100 + 2 * j) S ∧
          Beside w.heap.size wr S 27 2 (.slice (some ⟨gA, 0, none⟩) M c') M (hCells (handles 0 pl)) ∧ Below w.heap.size w wr) (fun i _ => 20 - (intOf i).toNat)
      case atStart => exact ⟨0, ones M, S, by omega, rfl, ones_length M, fun i h => ones_taken M i (by rw [ones_length]; exact h), HP.out.mono (by omega) (by omega), HL.out, HBl.out⟩
      case round =>
        clear HP HL HBl
        obtain ⟨j, pl, S, hj20, rfl, hpl, htk, hp, hl, hbl⟩ := hrel
        have HP := Lib.hid hp
        have HL := Lib.hid hl
        have HBl := Lib.hid hbl
        have HPL := Lib.hid hpl
        have HTK := Lib.hid htk
        clear hp hl hbl hpl htk
        by_cases hend : zs.length ≤ j ∨ 20 ≤ j
        · have AW := Lib.hid (awake_any wr (HE.out.below HBl.out hlt))
          have hz9 : w.heap.size ≤ wr.heap.size := HP.out.room
          clear HR HB
          rcases hend with h | h
          · have q1 : ¬ j < zs.length := by omega
            have q2 : ¬ (j : Int) < zs.length := by omega
            go_wp2_with fail
            refine AW.out.mono ?_
            rintro e w5 ⟨rfl, b5⟩
            have HB5 := Lib.hid (HBl.out.trans (b5.mono hz9))
            clear b5 AW
            go_wp2
            go_ret
            exact ⟨rfl, HB5.out⟩
          · have q1 : ¬ j < 20 := by omega
            have q2 : ¬ (j : Int) < 20 := by omega
            by_cases h2 : j < zs.length
            all_goals
              go_wp2_with fail
              refine AW.out.mono ?_
              rintro e w5 ⟨rfl, b5⟩
              have HB5 := Lib.hid (HBl.out.trans (b5.mono hz9))
              clear b5 AW
              go_wp2
              go_ret
              exact ⟨rfl, HB5.out⟩
        · have hj1 : j < zs.length := by omega
          have hj2 : (j : Int) < 20 := by omega
          have hj3 : (j : Int) < zs.length := by omega
          clear hend
          obtain ⟨ad, rfl, had, hcz⟩ := (HR.out.below HBl.out).int hj1
          obtain ⟨hz1, hz2⟩ := HB.out j hj1
          generalize zs[j] = z at *
          obtain ⟨a, ha, haM⟩ := place_of z M hM1
          obtain ⟨b, hb, hbM⟩ := place_of (z / 256) M hM1
          have haM' : (a : Int) < M := by omega
          have hbM' : (b : Int) < M := by omega
          by_cases hab : a = b
          · subst hab
            go_wp2_with fail
            go_quiet (fail)
            clear ha hb hcz
            have HP0 := Lib.hid (HP.out.below (Below.drewN' (Below.refl _ wr) nq))
            have HL0 := Lib.hid (HL.out.below (Below.drewN' (Below.refl _ wr) nq))
            have HB0 := Lib.hid (Below.drewN' HBl.out nq)
            generalize wr.drewN nq = w0 at *
            have ON := Lib.hid (one_of HPL.out HTK.out haM)
            have HT := Lib.hid (HTK.out a haM)
            have HHand := Lib.hid ON.out.hand
            have HAt : Hid ((handles 0 pl)[a]? = some ((a : Int), turnOf pl a)) := Lib.hid (handles_at (by rw [HPL.out]; exact haM))
            obtain ⟨c0, c1, f0, f1⟩ := HL0.out.hand haM (handles_at (by rw [HPL.out]; exact haM))
            clear HP HL HBl
            go_wp2_with fail
            refine (pfree _ _ _ _ _ _ a _ _ HP0.out HT.out rfl).mono ?_
            rintro e w2 ⟨rfl, S2, P2, O2, N2, b2⟩
            have HP2 := Lib.hid P2
            have HL2 := Lib.hid (HL0.out.step O2 N2)
            have HB2 := Lib.hid (HB0.out.trans b2)
            clear HP0 HL0 HB0 P2 O2 N2 b2 c0 c1 f0 f1
            obtain ⟨c0, c1, f0, f1⟩ := HL2.out.hand haM (handles_at (by rw [HPL.out]; exact haM))
            go_wp2_with fail
            refine (free_no _ _ _ _ _ a _ _ HP2.out.pool ON.out.no).mono ?_
            rintro e w3 ⟨rfl, b3⟩
            have HP3 := Lib.hid (HP2.out.below b3)
            have HL3 := Lib.hid (HL2.out.below b3)
            have HB3 := Lib.hid (HB2.out.trans (b3.mono HP2.out.room))
            clear HP2 HL2 HB2 b3 c0 c1 f0 f1
            go_wp2_with fail
            refine (ptake _ _ _ _ _ _ w3 HP3.out (by have := ON.out.room; omega) (by omega)).mono ?_
            rintro e w4 ⟨he, S4, P4, O4, N4, b4⟩
            rw [ON.out.least, ON.out.turn] at he
            subst he
            have HP4 := Lib.hid (P4.alloc (.cells #[.int .i64 a, .int .i64 (turnOf pl a + 1)] 27))
            have HL4 := Lib.hid ((HL3.out.step O4 N4).alloc (.cells #[.int .i64 a, .int .i64 (turnOf pl a + 1)] 27))
            have HB4 := Lib.hid ((HB3.out.trans b4).alloc (o := .cells #[.int .i64 a, .int .i64 (turnOf pl a + 1)] 27) P4.room)
            obtain ⟨c0, c1, f0, f1⟩ := (HL3.out.step O4 N4).hand haM (handles_at (by rw [HPL.out]; exact haM))
            have hgA4 : gA < w4.heap.size := owns_lt (HL3.out.step O4 N4).row rfl
            have t0 := (HP3.out.pool.turns a).1
            have t1 := (HP3.out.pool.turns a).2
            rw [ON.out.turn] at t0 t1
            clear HP3 HL3 HB3 P4 O4 N4 b4
            go_wp2_with fail
            generalize turnOf pl a = t at *
            have t2 : t ≤ 1000 := by omega
            go_quiet (fail)
            have HP5 := Lib.hid (HP4.out.below (Below.drewN' (Below.refl _ _) nq))
            have HL5 := Lib.hid (HL4.out.below (Below.drewN' (Below.refl _ _) nq))
            have HB5 := Lib.hid (Below.drewN' HB4.out nq)
            have E5 := Lib.hid ((Whole.mk w4 27 #[.int .i64 a, .int .i64 (t + 1)]).drawn nq)
            obtain ⟨c0, c1, f0, f1⟩ := HL5.out.hand haM HAt.out
            clear HP4 HL4 HB4
            generalize (w4.alloc (.cells #[.int .i64 a, .int .i64 (t + 1)] 27)).drewN nq = w5 at *
            have e0 : w5.cell? ⟨w4.heap.size, 0, none⟩ = some (.int .i64 a) := E5.out.cell 0
            have e1 : w5.cell? ⟨w4.heap.size, 1, none⟩ = some (.int .i64 (t + 1)) := E5.out.cell 1
            obtain ⟨P6, L6, b6⟩ := Beside.putH HP5.out HL5.out a haM a (t + 1)
            rw [← HHand.out] at L6
            have HP6 := Lib.hid P6
            have HL6 := Lib.hid L6
            have HB6 := Lib.hid (HB5.out.trans b6)
            clear P6 L6 b6 HP5 HL5 HB5
            go_wp2_with fail
            generalize (w5.setCell ⟨gA, a * 2, none⟩ (.int .i64 a)).setCell ⟨gA, a * 2 + 1, none⟩ (.int .i64 (t + 1)) = w6 at *
            clear c0 c1 f0 f1 e0 e1 E5
            refine (take_full _ _ _ _ _ w6 HP6.out.pool (by rw [ON.out.count])).mono ?_
            rintro e w7 ⟨rfl, b7⟩
            have HP7 := Lib.hid ((HP6.out.below b7).alloc (.cells #[.int .i64 0, .int .i64 0] 27))
            have HL7 := Lib.hid ((HL6.out.below b7).alloc (.cells #[.int .i64 0, .int .i64 0] 27))
            have HB7 := Lib.hid ((HB6.out.trans (b7.mono HP6.out.room)).alloc (o := .cells #[.int .i64 0, .int .i64 0] 27) (HP6.out.below b7).room)
            clear HP6 HL6 HB6 b7
            go_wp2_with fail
            refine (code_errno 2 _ (HE.out.below HB7.out hlt)).mono ?_
            rintro e w8 ⟨rfl, b8⟩
            have HP8 := Lib.hid (HP7.out.below b8)
            have HL8 := Lib.hid (HL7.out.below b8)
            have HB8 := Lib.hid (HB7.out.trans (b8.mono HP7.out.room))
            clear HP7 HL7 HB7 b8
            have PLn := Lib.hid (poolLen_any _ _ _ _ _ w8 HP8.out.pool)
            rw [ON.out.count] at PLn
            go_wp2_with fail
            refine PLn.out.mono ?_
            rintro e w9 ⟨rfl, b9⟩
            have HP9 := Lib.hid (HP8.out.below b9)
            have HL9 := Lib.hid (HL8.out.below b9)
            have HB9 := Lib.hid (HB8.out.trans (b9.mono HP8.out.room))
            clear HP8 HL8 HB8 b9 PLn
            go_wp2_with fail
            go_roundw
            case rel => exact ⟨j + 1, _, S4, by omega, by go_num, ON.out.len, ON.out.all, HP9.out.mono (by push_cast; omega) (by push_cast; omega), HL9.out, HB9.out⟩
            case measure => simp [intOf]; omega
          · rcases Nat.lt_or_gt_of_ne hab with hXY | hXY
            · have hXM := haM
              have hYM := hbM
              have hXne : a ≠ b := hab
              have q1 : ¬ (b : Int) < (a : Int) := by omega
              have q2 : ((a : Int) == (b : Int)) = false := by rw [beq_eq_false_iff_ne]; omega
              have q3 : ¬ (a : Int) = (b : Int) := by omega
              clear hab
              have hxa := hXM
              go_wp2_with fail
              go_quiet (fail)
              clear ha hb hcz
              have HP0 := Lib.hid (HP.out.below (Below.drewN' (Below.refl _ wr) nq))
              have HL0 := Lib.hid (HL.out.below (Below.drewN' (Below.refl _ wr) nq))
              have HB0 := Lib.hid (Below.drewN' HBl.out nq)
              generalize wr.drewN nq = w0 at *
              have TW := Lib.hid (two_of HPL.out HTK.out hXY hYM)
              have HT := Lib.hid (HTK.out b hYM)
              have HHand := Lib.hid TW.out.hand
              have HAx : Hid ((handles 0 pl)[a]? = some ((a : Int), turnOf pl a)) := Lib.hid (handles_at (by rw [HPL.out]; exact hXM))
              have HAy : Hid ((handles 0 pl)[b]? = some ((b : Int), turnOf pl b)) := Lib.hid (handles_at (by rw [HPL.out]; exact hYM))
              obtain ⟨c0, c1, f0, f1⟩ := HL0.out.hand hYM HAy.out
              clear HP HL HBl
              go_wp2_with fail
              refine (pfree _ _ _ _ _ _ b _ _ HP0.out HT.out rfl).mono ?_
              rintro e w1x ⟨rfl, S1, P1, O1, N1, b1⟩
              have HP1x := Lib.hid P1
              have HL1 := Lib.hid (HL0.out.step O1 N1)
              have HB1 := Lib.hid (HB0.out.trans b1)
              clear HP0 HL0 HB0 P1 O1 N1 b1 c0 c1 f0 f1
              obtain ⟨c0, c1, f0, f1⟩ := HL1.out.hand hXM HAx.out
              go_wp2_with fail
              refine (pfree _ _ _ _ _ _ a _ _ HP1x.out TW.out.tx TW.out.ux).mono ?_
              rintro e w2 ⟨rfl, S2, P2, O2, N2, b2⟩
              have HP2 := Lib.hid P2
              have HL2 := Lib.hid (HL1.out.step O2 N2)
              have HB2 := Lib.hid (HB1.out.trans b2)
              clear HP1x HL1 HB1 P2 O2 N2 b2 c0 c1 f0 f1
              obtain ⟨c0, c1, f0, f1⟩ := HL2.out.hand hYM HAy.out
              go_wp2_with fail
              refine (free_no _ _ _ _ _ b _ _ HP2.out.pool TW.out.no).mono ?_
              rintro e w3 ⟨rfl, b3⟩
              have HP3 := Lib.hid (HP2.out.below b3)
              have HL3 := Lib.hid (HL2.out.below b3)
              have HB3 := Lib.hid (HB2.out.trans (b3.mono HP2.out.room))
              clear HP2 HL2 HB2 b3 c0 c1 f0 f1
              go_wp2_with fail
              refine (ptake _ _ _ _ _ _ w3 HP3.out (by have := TW.out.room; omega) (by omega)).mono ?_
              rintro e w4 ⟨he, S4, P4, O4, N4, b4⟩
              rw [TW.out.least, TW.out.turn] at he
              subst he
              have HP4 := Lib.hid (P4.alloc (.cells #[.int .i64 a, .int .i64 (turnOf pl a + 1)] 27))
              have HL4 := Lib.hid ((HL3.out.step O4 N4).alloc (.cells #[.int .i64 a, .int .i64 (turnOf pl a + 1)] 27))
              have HB4 := Lib.hid ((HB3.out.trans b4).alloc (o := .cells #[.int .i64 a, .int .i64 (turnOf pl a + 1)] 27) P4.room)
              obtain ⟨c0, c1, f0, f1⟩ := (HL3.out.step O4 N4).hand hXM HAx.out
              have hgA4 : gA < w4.heap.size := owns_lt (HL3.out.step O4 N4).row rfl
              have t0 := (HP3.out.pool.turns a).1
              have t1 := (HP3.out.pool.turns a).2
              rw [TW.out.turn] at t0 t1
              clear HP3 HL3 HB3 P4 O4 N4 b4
              go_wp2_with fail
              generalize turnOf pl a = t at *
              have t2 : t ≤ 1000 := by omega
              go_quiet (fail)
              have HP5 := Lib.hid (HP4.out.below (Below.drewN' (Below.refl _ _) nq))
              have HL5 := Lib.hid (HL4.out.below (Below.drewN' (Below.refl _ _) nq))
              have HB5 := Lib.hid (Below.drewN' HB4.out nq)
              have E5 := Lib.hid ((Whole.mk w4 27 #[.int .i64 a, .int .i64 (t + 1)]).drawn nq)
              clear c0 c1 f0 f1
              obtain ⟨c0, c1, f0, f1⟩ := HL5.out.hand hXM HAx.out
              clear HP4 HL4 HB4
              generalize (w4.alloc (.cells #[.int .i64 a, .int .i64 (t + 1)] 27)).drewN nq = w5 at *
              have e0 : w5.cell? ⟨w4.heap.size, 0, none⟩ = some (.int .i64 a) := E5.out.cell 0
              have e1 : w5.cell? ⟨w4.heap.size, 1, none⟩ = some (.int .i64 (t + 1)) := E5.out.cell 1
              obtain ⟨P6, L6, b6⟩ := Beside.putH HP5.out HL5.out a hXM a (t + 1)
              have HP6 := Lib.hid P6
              have HL6 := Lib.hid L6
              have HB6 := Lib.hid (HB5.out.trans b6)
              clear P6 L6 b6 HP5 HL5 HB5
              go_wp2_with fail
              generalize (w5.setCell ⟨gA, a * 2, none⟩ (.int .i64 a)).setCell ⟨gA, a * 2 + 1, none⟩ (.int .i64 (t + 1)) = w6 at *
              clear c0 c1 f0 f1 e0 e1 E5 t0 t1
              have HAy2 : Hid (((handles 0 pl).set a ((a : Int), t + 1))[b]? = some ((b : Int), turnOf pl b)) := Lib.hid (by rw [set_at hXne]; exact HAy.out)
              go_wp2_with fail
              refine (ptake _ _ _ _ _ _ w6 HP6.out (by have := TW.out.room3; omega) (by omega)).mono ?_
              rintro e w7 ⟨he, S7, P4, O4, N4, b4⟩
              rw [TW.out.least3, TW.out.turn3] at he
              subst he
              have HP7 := Lib.hid (P4.alloc (.cells #[.int .i64 b, .int .i64 (turnOf pl b + 1)] 27))
              have HL7 := Lib.hid ((HL6.out.step O4 N4).alloc (.cells #[.int .i64 b, .int .i64 (turnOf pl b + 1)] 27))
              have HB7 := Lib.hid ((HB6.out.trans b4).alloc (o := .cells #[.int .i64 b, .int .i64 (turnOf pl b + 1)] 27) P4.room)
              obtain ⟨c0, c1, f0, f1⟩ := (HL6.out.step O4 N4).hand hYM HAy2.out
              have hgA7 : gA < w7.heap.size := owns_lt (HL6.out.step O4 N4).row rfl
              have t0 := (HP6.out.pool.turns b).1
              have t1 := (HP6.out.pool.turns b).2
              rw [TW.out.turn3] at t0 t1
              clear HP6 HL6 HB6 P4 O4 N4 b4
              go_wp2_with fail
              generalize turnOf pl b = u at *
              have t2 : u ≤ 1000 := by omega
              go_quiet (fail)
              have HP8 := Lib.hid (HP7.out.below (Below.drewN' (Below.refl _ _) nq))
              have HL8 := Lib.hid (HL7.out.below (Below.drewN' (Below.refl _ _) nq))
              have HB8 := Lib.hid (Below.drewN' HB7.out nq)
              have E5 := Lib.hid ((Whole.mk w7 27 #[.int .i64 b, .int .i64 (u + 1)]).drawn nq)
              clear c0 c1 f0 f1
              obtain ⟨c0, c1, f0, f1⟩ := HL8.out.hand hYM HAy2.out
              clear HP7 HL7 HB7
              generalize (w7.alloc (.cells #[.int .i64 b, .int .i64 (u + 1)] 27)).drewN nq = w8 at *
              have e0 : w8.cell? ⟨w7.heap.size, 0, none⟩ = some (.int .i64 b) := E5.out.cell 0
              have e1 : w8.cell? ⟨w7.heap.size, 1, none⟩ = some (.int .i64 (u + 1)) := E5.out.cell 1
              obtain ⟨P6, L6, b6⟩ := Beside.putH HP8.out HL8.out b hYM b (u + 1)
              rw [← HHand.out] at L6
              have HP9 := Lib.hid P6
              have HL9 := Lib.hid L6
              have HB9 := Lib.hid (HB8.out.trans b6)
              clear P6 L6 b6 HP8 HL8 HB8
              go_wp2_with fail
              generalize (w8.setCell ⟨gA, b * 2, none⟩ (.int .i64 b)).setCell ⟨gA, b * 2 + 1, none⟩ (.int .i64 (u + 1)) = w9 at *
              clear c0 c1 f0 f1 e0 e1 E5 t0 t1
              refine (take_full _ _ _ _ _ w9 HP9.out.pool (by rw [TW.out.count])).mono ?_
              rintro e w10 ⟨rfl, b10⟩
              have HP10 := Lib.hid ((HP9.out.below b10).alloc (.cells #[.int .i64 0, .int .i64 0] 27))
              have HL10 := Lib.hid ((HL9.out.below b10).alloc (.cells #[.int .i64 0, .int .i64 0] 27))
              have HB10 := Lib.hid ((HB9.out.trans (b10.mono HP9.out.room)).alloc (o := .cells #[.int .i64 0, .int .i64 0] 27) (HP9.out.below b10).room)
              clear HP9 HL9 HB9 b10
              go_wp2_with fail
              refine (code_errno 2 _ (HE.out.below HB10.out hlt)).mono ?_
              rintro e w11 ⟨rfl, b11⟩
              have HP11 := Lib.hid (HP10.out.below b11)
              have HL11 := Lib.hid (HL10.out.below b11)
              have HB11 := Lib.hid (HB10.out.trans (b11.mono HP10.out.room))
              clear HP10 HL10 HB10 b11
              have PLn := Lib.hid (poolLen_any _ _ _ _ _ w11 HP11.out.pool)
              rw [TW.out.count] at PLn
              go_wp2_with fail
              refine PLn.out.mono ?_
              rintro e w12 ⟨rfl, b12⟩
              have HP12 := Lib.hid (HP11.out.below b12)
              have HL12 := Lib.hid (HL11.out.below b12)
              have HB12 := Lib.hid (HB11.out.trans (b12.mono HP11.out.room))
              clear HP11 HL11 HB11 b12 PLn
              go_wp2_with fail
              go_roundw
              case rel => exact ⟨j + 1, _, S7, by omega, by go_num, TW.out.len, TW.out.all, HP12.out.mono (by push_cast; omega) (by push_cast; omega), HL12.out, HB12.out⟩
              case measure => simp [intOf]; omega
            · have hXM := hbM
              have hYM := haM
              have hXne : b ≠ a := fun e => hab e.symm
              have q1 : (b : Int) < (a : Int) := by omega
              have q2 : ((b : Int) == (a : Int)) = false := by rw [beq_eq_false_iff_ne]; omega
              have q3 : ¬ (b : Int) = (a : Int) := by omega
              clear hab
              have hxb := hXM
              go_wp2_with fail
              go_quiet (fail)
              clear ha hb hcz
              have HP0 := Lib.hid (HP.out.below (Below.drewN' (Below.refl _ wr) nq))
              have HL0 := Lib.hid (HL.out.below (Below.drewN' (Below.refl _ wr) nq))
              have HB0 := Lib.hid (Below.drewN' HBl.out nq)
              generalize wr.drewN nq = w0 at *
              have TW := Lib.hid (two_of HPL.out HTK.out hXY hYM)
              have HT := Lib.hid (HTK.out a hYM)
              have HHand := Lib.hid TW.out.hand
              have HAx : Hid ((handles 0 pl)[b]? = some ((b : Int), turnOf pl b)) := Lib.hid (handles_at (by rw [HPL.out]; exact hXM))
              have HAy : Hid ((handles 0 pl)[a]? = some ((a : Int), turnOf pl a)) := Lib.hid (handles_at (by rw [HPL.out]; exact hYM))
              obtain ⟨c0, c1, f0, f1⟩ := HL0.out.hand hYM HAy.out
              clear HP HL HBl
              go_wp2_with fail
              refine (pfree _ _ _ _ _ _ a _ _ HP0.out HT.out rfl).mono ?_
              rintro e w1x ⟨rfl, S1, P1, O1, N1, b1⟩
              have HP1x := Lib.hid P1
              have HL1 := Lib.hid (HL0.out.step O1 N1)
              have HB1 := Lib.hid (HB0.out.trans b1)
              clear HP0 HL0 HB0 P1 O1 N1 b1 c0 c1 f0 f1
              obtain ⟨c0, c1, f0, f1⟩ := HL1.out.hand hXM HAx.out
              go_wp2_with fail
              refine (pfree _ _ _ _ _ _ b _ _ HP1x.out TW.out.tx TW.out.ux).mono ?_
              rintro e w2 ⟨rfl, S2, P2, O2, N2, b2⟩
              have HP2 := Lib.hid P2
              have HL2 := Lib.hid (HL1.out.step O2 N2)
              have HB2 := Lib.hid (HB1.out.trans b2)
              clear HP1x HL1 HB1 P2 O2 N2 b2 c0 c1 f0 f1
              obtain ⟨c0, c1, f0, f1⟩ := HL2.out.hand hYM HAy.out
              go_wp2_with fail
              refine (free_no _ _ _ _ _ a _ _ HP2.out.pool TW.out.no).mono ?_
              rintro e w3 ⟨rfl, b3⟩
              have HP3 := Lib.hid (HP2.out.below b3)
              have HL3 := Lib.hid (HL2.out.below b3)
              have HB3 := Lib.hid (HB2.out.trans (b3.mono HP2.out.room))
              clear HP2 HL2 HB2 b3 c0 c1 f0 f1
              go_wp2_with fail
              refine (ptake _ _ _ _ _ _ w3 HP3.out (by have := TW.out.room; omega) (by omega)).mono ?_
              rintro e w4 ⟨he, S4, P4, O4, N4, b4⟩
              rw [TW.out.least, TW.out.turn] at he
              subst he
              have HP4 := Lib.hid (P4.alloc (.cells #[.int .i64 b, .int .i64 (turnOf pl b + 1)] 27))
              have HL4 := Lib.hid ((HL3.out.step O4 N4).alloc (.cells #[.int .i64 b, .int .i64 (turnOf pl b + 1)] 27))
              have HB4 := Lib.hid ((HB3.out.trans b4).alloc (o := .cells #[.int .i64 b, .int .i64 (turnOf pl b + 1)] 27) P4.room)
              obtain ⟨c0, c1, f0, f1⟩ := (HL3.out.step O4 N4).hand hXM HAx.out
              have hgA4 : gA < w4.heap.size := owns_lt (HL3.out.step O4 N4).row rfl
              have t0 := (HP3.out.pool.turns b).1
              have t1 := (HP3.out.pool.turns b).2
              rw [TW.out.turn] at t0 t1
              clear HP3 HL3 HB3 P4 O4 N4 b4
              go_wp2_with fail
              generalize turnOf pl b = t at *
              have t2 : t ≤ 1000 := by omega
              go_quiet (fail)
              have HP5 := Lib.hid (HP4.out.below (Below.drewN' (Below.refl _ _) nq))
              have HL5 := Lib.hid (HL4.out.below (Below.drewN' (Below.refl _ _) nq))
              have HB5 := Lib.hid (Below.drewN' HB4.out nq)
              have E5 := Lib.hid ((Whole.mk w4 27 #[.int .i64 b, .int .i64 (t + 1)]).drawn nq)
              clear c0 c1 f0 f1
              obtain ⟨c0, c1, f0, f1⟩ := HL5.out.hand hXM HAx.out
              clear HP4 HL4 HB4
              generalize (w4.alloc (.cells #[.int .i64 b, .int .i64 (t + 1)] 27)).drewN nq = w5 at *
              have e0 : w5.cell? ⟨w4.heap.size, 0, none⟩ = some (.int .i64 b) := E5.out.cell 0
              have e1 : w5.cell? ⟨w4.heap.size, 1, none⟩ = some (.int .i64 (t + 1)) := E5.out.cell 1
              obtain ⟨P6, L6, b6⟩ := Beside.putH HP5.out HL5.out b hXM b (t + 1)
              have HP6 := Lib.hid P6
              have HL6 := Lib.hid L6
              have HB6 := Lib.hid (HB5.out.trans b6)
              clear P6 L6 b6 HP5 HL5 HB5
              go_wp2_with fail
              generalize (w5.setCell ⟨gA, b * 2, none⟩ (.int .i64 b)).setCell ⟨gA, b * 2 + 1, none⟩ (.int .i64 (t + 1)) = w6 at *
              clear c0 c1 f0 f1 e0 e1 E5 t0 t1
              have HAy2 : Hid (((handles 0 pl).set b ((b : Int), t + 1))[a]? = some ((a : Int), turnOf pl a)) := Lib.hid (by rw [set_at hXne]; exact HAy.out)
              go_wp2_with fail
              refine (ptake _ _ _ _ _ _ w6 HP6.out (by have := TW.out.room3; omega) (by omega)).mono ?_
              rintro e w7 ⟨he, S7, P4, O4, N4, b4⟩
              rw [TW.out.least3, TW.out.turn3] at he
              subst he
              have HP7 := Lib.hid (P4.alloc (.cells #[.int .i64 a, .int .i64 (turnOf pl a + 1)] 27))
              have HL7 := Lib.hid ((HL6.out.step O4 N4).alloc (.cells #[.int .i64 a, .int .i64 (turnOf pl a + 1)] 27))
              have HB7 := Lib.hid ((HB6.out.trans b4).alloc (o := .cells #[.int .i64 a, .int .i64 (turnOf pl a + 1)] 27) P4.room)
              obtain ⟨c0, c1, f0, f1⟩ := (HL6.out.step O4 N4).hand hYM HAy2.out
              have hgA7 : gA < w7.heap.size := owns_lt (HL6.out.step O4 N4).row rfl
              have t0 := (HP6.out.pool.turns a).1
              have t1 := (HP6.out.pool.turns a).2
              rw [TW.out.turn3] at t0 t1
              clear HP6 HL6 HB6 P4 O4 N4 b4
              go_wp2_with fail
              generalize turnOf pl a = u at *
              have t2 : u ≤ 1000 := by omega
              go_quiet (fail)
              have HP8 := Lib.hid (HP7.out.below (Below.drewN' (Below.refl _ _) nq))
              have HL8 := Lib.hid (HL7.out.below (Below.drewN' (Below.refl _ _) nq))
              have HB8 := Lib.hid (Below.drewN' HB7.out nq)
              have E5 := Lib.hid ((Whole.mk w7 27 #[.int .i64 a, .int .i64 (u + 1)]).drawn nq)
              clear c0 c1 f0 f1
              obtain ⟨c0, c1, f0, f1⟩ := HL8.out.hand hYM HAy2.out
              clear HP7 HL7 HB7
              generalize (w7.alloc (.cells #[.int .i64 a, .int .i64 (u + 1)] 27)).drewN nq = w8 at *
              have e0 : w8.cell? ⟨w7.heap.size, 0, none⟩ = some (.int .i64 a) := E5.out.cell 0
              have e1 : w8.cell? ⟨w7.heap.size, 1, none⟩ = some (.int .i64 (u + 1)) := E5.out.cell 1
              obtain ⟨P6, L6, b6⟩ := Beside.putH HP8.out HL8.out a hYM a (u + 1)
              rw [← HHand.out] at L6
              have HP9 := Lib.hid P6
              have HL9 := Lib.hid L6
              have HB9 := Lib.hid (HB8.out.trans b6)
              clear P6 L6 b6 HP8 HL8 HB8
              go_wp2_with fail
              generalize (w8.setCell ⟨gA, a * 2, none⟩ (.int .i64 a)).setCell ⟨gA, a * 2 + 1, none⟩ (.int .i64 (u + 1)) = w9 at *
              clear c0 c1 f0 f1 e0 e1 E5 t0 t1
              refine (take_full _ _ _ _ _ w9 HP9.out.pool (by rw [TW.out.count])).mono ?_
              rintro e w10 ⟨rfl, b10⟩
              have HP10 := Lib.hid ((HP9.out.below b10).alloc (.cells #[.int .i64 0, .int .i64 0] 27))
              have HL10 := Lib.hid ((HL9.out.below b10).alloc (.cells #[.int .i64 0, .int .i64 0] 27))
              have HB10 := Lib.hid ((HB9.out.trans (b10.mono HP9.out.room)).alloc (o := .cells #[.int .i64 0, .int .i64 0] 27) (HP9.out.below b10).room)
              clear HP9 HL9 HB9 b10
              go_wp2_with fail
              refine (code_errno 2 _ (HE.out.below HB10.out hlt)).mono ?_
              rintro e w11 ⟨rfl, b11⟩
              have HP11 := Lib.hid (HP10.out.below b11)
              have HL11 := Lib.hid (HL10.out.below b11)
              have HB11 := Lib.hid (HB10.out.trans (b11.mono HP10.out.room))
              clear HP10 HL10 HB10 b11
              have PLn := Lib.hid (poolLen_any _ _ _ _ _ w11 HP11.out.pool)
              rw [TW.out.count] at PLn
              go_wp2_with fail
              refine PLn.out.mono ?_
              rintro e w12 ⟨rfl, b12⟩
              have HP12 := Lib.hid (HP11.out.below b12)
              have HL12 := Lib.hid (HL11.out.below b12)
              have HB12 := Lib.hid (HB11.out.trans (b12.mono HP11.out.room))
              clear HP11 HL11 HB11 b12 PLn
              go_wp2_with fail
              go_roundw
              case rel => exact ⟨j + 1, _, S7, by omega, by go_num, TW.out.len, TW.out.all, HP12.out.mono (by push_cast; omega) (by push_cast; omega), HL12.out, HB12.out⟩
              case measure => simp [intOf]; omega
end Go.Proofs.YtpnpmellohacoaaDoor
