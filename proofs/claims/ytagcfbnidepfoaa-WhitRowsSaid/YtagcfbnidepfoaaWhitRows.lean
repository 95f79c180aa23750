import Derived.Test.YtagcfbnidepfoaaRowsE
/- WhitRows answers true. -/
namespace Go.Proofs.Ytagcfbnidepfoaa
open Go Go.RowKit
set_option linter.unusedVariables false
set_option linter.unusedSimpArgs false
set_option maxRecDepth 20000
set_option maxHeartbeats 8000000

theorem whitRows_any (zs : List Int) (hl : zs.length = 256) (l : List Int) (A : Option Addr) (c : Nat) (W : World) (hR : Row W W.heap.size A (i64s l)) (hn : l.length ≤ 9223372036854775807) :
    Calls Try.prog 6 #[.agg (i64s zs).toArray, .slice A l.length c] W fun e w' => e = .returned (.bool true) ∧ Below W.heap.size W w' := by
  have HL := Lib.hid hl
  have HR := Lib.hid hR
  have YL := Lib.hid (tameM_length zs false hl)
  have TA := Lib.hid (tame_any zs hl false)
  have RS := runsL_size l
  have RU := Lib.hid (fun (w : World) (hb : Below W.heap.size W w) => runs_any l A c w ((HR.out.below hb).more hb.size) hn)
  have M0 := Lib.hid (Whole.mk W 24 (i64s zs).toArray)
  have HB0 := Lib.hid ((Below.refl W.heap.size W).alloc (Nat.le_refl _) (.cells (i64s zs).toArray 24))
  have z0 := M0.out.size
  clear hl hR
  generalize tameM zs false = ys at *
  generalize runsL l = rs at *
  obtain ⟨hlen, hsz⟩ := RS
  go_enter Try.func6, Try.ntmps6
  go_wp2_with fail
  refine (RU.out _ HB0.out).mono ?_
  rintro e w1 ⟨A1, c1, rfl, ho, hb⟩
  have M1 := Lib.hid (M0.out.under hb z0)
  have HB1 := Lib.hid (HB0.out.trans (hb.mono (by omega)))
  have R1 := Lib.hid (row_of_own ho)
  have z1 := M1.out.size
  clear ho hb M0 HB0 RU z0
  go_wp2_with (first | (refine flat_load met_flat (.tmp 2) rfl rfl W.heap.size rfl zs HL.out 24 ?_ ?_; (focus (exact M1.out))))
  refine (TA.out _).mono ?_
  rintro e w2 ⟨rfl, b2⟩
  have R2 := Lib.hid ((R1.out.below b2).more b2.size)
  have HB2 := Lib.hid (HB1.out.trans (b2.mono (by omega)))
  have z2 := HB2.out.size
  clear b2 TA M1 HB1 R1 z1
  go_wp2_with fail
  have hGl := glyphs_any ys YL.out rs A1 c1 w2 R2.out (by omega) (by omega)
  have HFA := Lib.hid (row_facts ys rs)
  unfold GlyphPost at hGl
  generalize glyphsL ys rs = F at *
  have HIN := Lib.hid (fun g hg => inRuns_byte (HFA.out.isin g hg))
  have HBL := Lib.hid HFA.out.blank
  have HOR := Lib.hid HFA.out.order
  have HIK := Lib.hid HFA.out.ink
  have hfl := HFA.out.len
  clear HFA
  refine hGl.mono ?_
  rintro e w0 ⟨A6, c6, rfl, ho6, hb6⟩
  have HB0 := Lib.hid (HB2.out.trans (hb6.mono (by omega)))
  have RF := Lib.hid (row_of_own ho6)
  have RR := Lib.hid ((R2.out.below hb6).more hb6.size)
  have z0 := HB0.out.size
  obtain ⟨nf, hnf⟩ : ∃ m, m = F.length := ⟨_, rfl⟩
  obtain ⟨nr, hnr⟩ : ∃ m, m = rs.length := ⟨_, rfl⟩
  rw [← hnf, ← hnr]
  have HNF := Lib.hid hnf
  have HNR := Lib.hid hnr
  have hnf9 : nf ≤ 1000 := by omega
  have hnr9 : nr ≤ 12 := by omega
  clear hGl ho6 hb6 R2 HB2 z2 hfl hnf hnr
  go_wp2
  go_loopw [7, 8] (fun ik i wr => ∃ p : Nat, p ≤ nf ∧ i = .int .i64 p ∧ ik = .int .i64 ((F.take p).countP (inkG rs)) ∧ Below w0.heap.size w0 wr) (fun _ i _ => nf - (intOf i).toNat)
  case atStart => exact ⟨0, Nat.zero_le _, rfl, rfl, Below.refl _ _⟩
  case round =>
    obtain ⟨p, hp, rfl, rfl, hB⟩ := hrel
    have HB := Lib.hid hB
    have zB := hB.size
    have hck : (F.take p).countP (inkG rs) ≤ 1000 := by
      have := List.countP_le_length (p := inkG rs) (l := F.take p)
      rw [List.length_take] at this
      omega
    by_cases hpn : p < nf
    · have hpi : (p : Int) < nf := by omega
      have hpl : p < F.length := by rw [← HNF.out]; exact hpn
      obtain ⟨r, ix, hr, hix, e1, e2, e3, e4, e5, e6, e7⟩ := HIN.out F[p] (List.getElem_mem hpl)
      have hCT := Lib.hid (countP_take (inkG rs) F p hpl)
      have hig : inkG rs F[p] = !isW rs[r].text[ix] := by unfold inkG; rw [e4]
      rw [hig] at hCT
      have hNB := Lib.hid (HBL.out p hpl)
      have hOD := Lib.hid (fun (h : 0 < p) => HOR.out (p - 1) (by omega))
      have hKC := kind_cases _ _ _ _ e5 rfl e6 e7
      have hIB := isB_cases F[p].kind F[p] rfl
      obtain ⟨af, hA6, haf, f0, f1, f2, f3⟩ := (RF.out.below hB).gl hpl
      subst hA6
      have HFK := Lib.hid (fun (w : World) (hb : Below w0.heap.size w0 w) (q : Nat) (hq : q < F.length) => (RF.out.below hb).gl hq)
      rw [e1] at f1
      rw [e2] at f2
      have hr0 : (r : Int) < nr := by have := HNR.out; omega
      obtain ⟨ar, hA1, hab, -, -, -, -⟩ := (RR.out.below hB).rn hr
      subst hA1
      have HRR := Lib.hid (fun (w : World) (hb : Below w0.heap.size w0 w) => (RR.out.below hb).rn hr)
      have htl := text_le rs r hr
      have hPO : Hid (∀ h : 0 < p, Ahead (F[p - 1]'(by omega)) F[p]) := Lib.hid (fun h => by
        have h2 := hOD.out h
        have e : p - 1 + 1 = p := by omega
        simp only [e] at h2
        exact h2)
      clear hOD
      have hd1 : F[p].run = (r : Int) := e1
      have hd2 : F[p].at_ = (ix : Int) := e2
      generalize hcb : rs[r].text[ix] = cb at *
      have HCB := Lib.hid hcb
      clear hcb
      generalize rs[r].text = tx at *
      generalize rs[r].white = wh at *
      generalize rs[r].node = nd at *
      generalize rs[r].line = li at *
      generalize hbl : isB F[p] = bl at *
      generalize F[p].kind = kd at *
      generalize F[p].adv = av at *
      clear hbl e1 e2 e4 e5 e6 e7 hig
      have htx9 : tx.size ≤ 432 := by omega
      go_upto_region 8 with fail
      have X7 := Lib.hid (Whole.mk wr 35 #[.int .i64 kd, .int .i64 r, .int .i64 ix, .int .i64 av])
      have HB7 := Lib.hid (HB.out.alloc zB (.cells #[.int .i64 kd, .int .i64 r, .int .i64 ix, .int .i64 av] 35))
      generalize wr.alloc (.cells #[.int .i64 kd, .int .i64 r, .int .i64 ix, .int .i64 av] 35) = w7 at *
      generalize wr.heap.size = gx at *
      clear f0 f1 f2 f3 hB HB
      have z7 := HB7.out.size
      have HX := Lib.hid (fun (w : World) (hb : Below w7.heap.size w7 w) => (X7.out.under hb X7.out.size).four)
      have HRr := Lib.hid (fun (w : World) (hb : Below w7.heap.size w7 w) => HRR.out w (HB7.out.trans (hb.mono (by omega))))
      clear HRR
      obtain ⟨x0, x1, x2, x3⟩ := (HX.out w7 (Below.refl _ _))
      obtain ⟨ar', hAr, hab', q0, q1, q2, q3⟩ := HRr.out w7 (Below.refl _ _)
      injection hAr with hAr
      subst hAr
      refine rows8 x1 x2 x3 q1 hr0 hix e3 rfl (by simp only [findReg, Nat.beq, cond_true, cond_false, Option.orElse, Option.getD]) ?_
      intros
      rename_i wn hb'
      have hw := hb'
      clear hb'
      have HW := Lib.hid hw
      clear hw
      clear x0 x1 x2 x3
      clear q0 q1 q2 q3 hab'
      go_upto_region 10 with fail
      obtain ⟨x0, x1, x2, x3⟩ := (HX.out _ HW.out)
      obtain ⟨ar', hAr, hab', q0, q1, q2, q3⟩ := HRr.out _ HW.out
      injection hAr with hAr
      subst hAr
      refine rows10 x1 x2 q1 hr0 hix HCB.out rfl (by simp only [findReg, Nat.beq, cond_true, cond_false, Option.orElse, Option.getD]) ?_
      intros
      rename_i wn hb'
      have hw := HW.out.trans (hb'.mono HW.out.size)
      clear hb' HW
      have HW := Lib.hid hw
      clear hw
      clear x0 x1 x2 x3
      clear q0 q1 q2 q3 hab'
      go_upto_region 11 with fail
      refine rows11  rfl (by simp only [findReg, Nat.beq, cond_true, cond_false, Option.orElse, Option.getD]) ?_
      intros
      rename_i wn hb'
      have hw := HW.out.trans (hb'.mono HW.out.size)
      clear hb' HW
      have HW := Lib.hid hw
      clear hw
      go_upto_region 12 with fail
      obtain ⟨x0, x1, x2, x3⟩ := (HX.out _ HW.out)
      refine rows12 x0 hIB rfl (by simp only [findReg, Nat.beq, cond_true, cond_false, Option.orElse, Option.getD]) ?_
      intros
      rename_i wn hb'
      have hw := HW.out.trans (hb'.mono HW.out.size)
      clear hb' HW
      have HW := Lib.hid hw
      clear hw
      clear x0 x1 x2 x3
      clear hIB
      go_upto_if 96 with fail
      go_cut [7] from 22 to 206 (fun v wx => v = .int .i64 (((F.take p).countP (inkG rs) + (if (!(isW cb)) = true then 1 else 0) : Nat) : Int) ∧ Below w7.heap.size w7 wx)
      case first =>
        generalize isW cb = wv at *
        cases wv
        all_goals (go_wp2; go_meet; case rel => exact ⟨by first | rfl | (congr 1; simp), HW.out⟩)
      case rest =>
        obtain ⟨rfl, hw⟩ := hcut
        clear HW
        have HW := Lib.hid hw
        clear hw
        rw [← hCT.out]
        go_upto_region 15 with fail
        obtain ⟨x0, x1, x2, x3⟩ := (HX.out _ HW.out)
        obtain ⟨ar', hAr, hab', q0, q1, q2, q3⟩ := HRr.out _ HW.out
        injection hAr with hAr
        subst hAr
        refine rows15 x0 x1 q2 hr0 hKC rfl (by simp only [findReg, Nat.beq, cond_true, cond_false, Option.orElse, Option.getD]) ?_
        intros
        rename_i wn hb'
        have hw := HW.out.trans (hb'.mono HW.out.size)
        clear hb' HW
        have HW := Lib.hid hw
        clear hw
        clear x0 x1 x2 x3
        clear q0 q1 q2 q3 hab'
        clear hKC
        go_upto_region 17 with fail
        have HKP := Lib.hid (fun (q : Nat) (hq : q < F.length) => HFK.out _ (HB7.out.trans (HW.out.mono (by omega))) q hq)
        have h17 : bl = true → ∃ q, p = q + 1 ∧ q + 2 < nf ∧ nf ≤ 1000 ∧ World.cell? _ (af.add (q * 4)) = some (.int .i64 1) ∧ World.cell? _ (af.add ((q + 1 + 1) * 4)) = some (.int .i64 1) := fun hbl => by
          obtain ⟨⟨h0, k0⟩, h1, k1⟩ := hNB.out hbl
          obtain ⟨q, hq⟩ : ∃ q, p = q + 1 := ⟨p - 1, by omega⟩
          subst hq
          have k0' : (F[q]'(by omega)).kind = 1 := k0
          obtain ⟨ae, hAe, -, m0, -, -, -⟩ := HKP.out q (by omega)
          injection hAe with hAe
          subst hAe
          obtain ⟨ae, hAe, -, n0, -, -, -⟩ := HKP.out (q + 1 + 1) h1
          injection hAe with hAe
          subst hAe
          rw [k0'] at m0
          rw [k1] at n0
          exact ⟨q, rfl, by have := HNF.out; omega, hnf9, m0, n0⟩
        refine rows17 h17 rfl (by simp only [findReg, Nat.beq, cond_true, cond_false, Option.orElse, Option.getD]) ?_
        intros
        rename_i wn hb'
        have hw := HW.out.trans (hb'.mono HW.out.size)
        clear hb' HW
        have HW := Lib.hid hw
        clear hw
        clear h17 HKP
        go_upto_region 19 with fail
        have HKP := Lib.hid (fun (q : Nat) (hq : q < F.length) => HFK.out _ (HB7.out.trans (HW.out.mono (by omega))) q hq)
        obtain ⟨x0, x1, x2, x3⟩ := (HX.out _ HW.out)
        have h19 : ∀ q, p = q + 1 → ∃ pr pa : Int, World.cell? _ ⟨(af.add (q * 4)).block, (af.add (q * 4)).off + 1, none⟩ = some (.int .i64 pr) ∧ World.cell? _ ⟨(af.add (q * 4)).block, (af.add (q * 4)).off + 2, none⟩ = some (.int .i64 pa) ∧ (pr < (r : Int) ∨ pr = (r : Int) ∧ pa < (ix : Int)) := fun q hq => by
          subst hq
          have hah2 : Ahead (F[q]'(by omega)) F[q + 1] := hPO.out (by omega)
          unfold Ahead at hah2
          rw [hd1, hd2] at hah2
          obtain ⟨ae, hAe, -, m0, m1, m2, m3⟩ := HKP.out q (by omega)
          injection hAe with hAe
          subst hAe
          exact ⟨_, _, m1, m2, hah2⟩
        refine rows19 x1 x2 hnf9 hpn h19 rfl (by simp only [findReg, Nat.beq, cond_true, cond_false, Option.orElse, Option.getD]) ?_
        intros
        rename_i wn hb'
        have hw := HW.out.trans (hb'.mono HW.out.size)
        clear hb' HW
        have HW := Lib.hid hw
        clear hw
        have HBN := Lib.hid (HB7.out.trans (HW.out.mono (by omega)))
        clear HKP h19
        go_wp2
        go_roundw
        case rel => exact ⟨p + 1, by omega, by go_num, rfl, HBN.out⟩
        case measure => simp [intOf]; omega
    · have hpe : p = F.length := by have := HNF.out; omega
      have hpi : ¬ (p : Int) < nf := by omega
      have hik := inkAll_le rs
      have hie : (F.take p).countP (inkG rs) = inkAll rs := by rw [hpe, List.take_length, HIK.out]
      rw [hie]
      have RR8 := Lib.hid ((RR.out.below hB).more hB.size)
      have HB8 := Lib.hid (HB0.out.trans (hB.mono z0))
      have z8 := HB8.out.size
      clear hB HB hck hie
      go_wp2
      go_loop [7, 13] (fun ik i => ∃ k : Nat, k ≤ nr ∧ i = .int .i64 k ∧ ik = .int .i64 ((inkAll rs : Int) - inkAll (rs.take k))) (fun _ i => nr - (intOf i).toNat)
      case atStart => exact ⟨0, Nat.zero_le _, rfl, by simp [inkAll]⟩
      case round =>
        obtain ⟨k, hk, rfl, rfl⟩ := hrel
        have hk1 := inkAll_le (rs.take k)
        have hk2 := sizeAll_take rs k
        by_cases hkn : k < nr
        · have hki : (k : Int) < nr := by omega
          have hkl : k < rs.length := by rw [← HNR.out]; exact hkn
          obtain ⟨ad, rfl, hab, r0, r1, r2, r3⟩ := RR8.out.rn hkl
          have HT := Lib.hid (inkAll_take rs k hkl)
          have htl := text_le rs k hkl
          generalize rs[k].text = s at *
          generalize inkAll (rs.take k) = mk at *
          generalize inkAll rs = mt at *
          go_wp2
          go_loop [7, 14] (fun ik j => ∃ q : Nat, q ≤ s.size ∧ j = .int .i64 q ∧ ik = .int .i64 ((mt : Int) - mk - inkRun ((bytesOf s).take q))) (fun _ j => s.size - (intOf j).toNat)
          case atStart => exact ⟨0, Nat.zero_le _, rfl, by simp [inkRun]⟩
          case round =>
            obtain ⟨q, hq, rfl, rfl⟩ := hrel
            have hq1 := inkRun_le ((bytesOf s).take q)
            rw [List.length_take, bytesOf_length] at hq1
            by_cases hqn : q < s.size
            · have hqi : (q : Int) < s.size := by omega
              have HQ := Lib.hid (inkRun_take (bytesOf s) q (by rw [bytesOf_length]; exact hqn))
              rw [bytesOf_get s q hqn] at HQ
              have hwc := isW_cases s[q]
              have b1 : ((s[q].toNat : Int) != 32) = !((s[q].toNat : Int) == 32) := rfl
              have b2 : ((s[q].toNat : Int) != 9) = !((s[q].toNat : Int) == 9) := rfl
              have b3 : ((s[q].toNat : Int) != 10) = !((s[q].toNat : Int) == 10) := rfl
              have b4 : ((s[q].toNat : Int) != 13) = !((s[q].toNat : Int) == 13) := rfl
              generalize inkRun ((bytesOf s).take q) = mq at *
              rcases hwc with ⟨g1, g5⟩ | ⟨g1, g2, g5⟩ | ⟨g1, g2, g3, g5⟩ | ⟨g1, g2, g3, g4, g5⟩ | ⟨g1, g2, g3, g4, g5⟩
              all_goals
                rw [g5] at HQ
                rw [g1] at b1
                first | rw [g2] at b2 | clear b2
                first | rw [g3] at b3 | clear b3
                first | rw [g4] at b4 | clear b4
                simp only [Bool.not_true, Bool.not_false] at b1
                try simp only [Bool.not_true, Bool.not_false] at b2
                try simp only [Bool.not_true, Bool.not_false] at b3
                try simp only [Bool.not_true, Bool.not_false] at b4
                go_wp2
                go_round
                case rel => exact ⟨q + 1, by omega, by go_num, by rw [HQ.out]; first | rfl | (congr 1; simp; try omega)⟩
                case measure => simp [intOf]; omega
            · have hqi : ¬ (q : Int) < s.size := by omega
              have hqe : (bytesOf s).take q = bytesOf s := List.take_of_length_le (by rw [bytesOf_length]; omega)
              have HQE := Lib.hid hqe
              go_wp2
              go_round
              case rel => exact ⟨k + 1, by omega, by go_num, by rw [HQE.out, HT.out]; congr 1; omega⟩
              case measure => simp [intOf]; omega
        · have hki : ¬ (k : Int) < nr := by omega
          have hke : rs.take k = rs := List.take_of_length_le (by have := HNR.out; omega)
          rw [hke, Int.sub_self]
          go_wp2_with fail
          refine (wawake_any _).mono ?_
          rintro e w9 ⟨rfl, b9⟩
          have HB9 := Lib.hid (HB8.out.trans (b9.mono z8))
          clear b9
          go_wp2
          go_ret
          exact ⟨rfl, HB9.out⟩
end Go.Proofs.Ytagcfbnidepfoaa
