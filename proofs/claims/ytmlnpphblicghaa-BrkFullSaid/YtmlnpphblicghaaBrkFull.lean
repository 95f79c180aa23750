import Derived.Test.YtmlnpphblicghaaBrkSame
import Derived.Test.YtmlnpphblicghaaBrkTame
import Derived.Test.YtmlnpphblicghaaFullNum
/- BrkFull answers true. -/
namespace Go.Proofs.Ytmlnpphblicghaa
open Go Go.RowKit
set_option linter.unusedVariables false
set_option linter.unusedSimpArgs false
set_option maxRecDepth 20000
set_option maxHeartbeats 2000000

theorem linesI_at {a : Int} {g : List Gl} {L : List Sp} {i k : Nat} (h : L.drop i = linesI a g k) (hi : i < L.length) :
    ∃ (t : Nat) (v : Int), k < g.length ∧ L[i] = ⟨k, t, v⟩ ∧ LineAt a g k t v ∧ L.drop (i + 1) = linesI a g (t + 1) := by
  have hk : k < g.length := by
    rcases Nat.lt_or_ge k g.length with h1 | h1
    · exact h1
    · rw [linesI_end a g k h1, List.drop_eq_nil_iff] at h; omega
  have hs := linesI_step a g k hk
  have hl := lineAt a g k
  generalize endL a (g.drop k) k 0 none = p at *
  obtain ⟨t, v⟩ := p
  rw [List.drop_eq_getElem_cons hi, hs] at h
  obtain ⟨h1, h2⟩ := List.cons.inj h
  exact ⟨t, v, hk, h1, hl, h2⟩
theorem brkFull_any (gs : List Gl) (A : Option Addr) (c : Nat) (a : Int) (W : World) (hR : Row W W.heap.size A (i64s (gCells gs))) :
    Calls Try.prog 6 #[.slice A gs.length c, .int .i64 a] W fun e w' => e = .returned (.bool true) ∧ Below W.heap.size W w' := by
  have TG := Lib.hid (tameGlyphs_any gs A c W hR)
  have NG := Lib.hid (tameG_fine gs)
  have HT : I64 (a.tmod 16777216) := by
    have h1 := Int.tmod_lt_of_pos a (b := 16777216) (by decide)
    have h2 := Int.lt_tmod_of_pos a (b := 16777216) (by decide)
    unfold I64; omega
  have HT := Lib.hid HT
  clear hR
  generalize tameG gs = g at *
  go_enter Try.func6, Try.ntmps6
  go_wp2_with fail
  refine TG.out.mono ?_
  rintro e w1 ⟨A1, c1, rfl, ho1, hb1⟩
  have B1 := Lib.hid hb1
  have R1 := Lib.hid (row_of_own ho1)
  clear ho1 hb1 TG
  go_upto_region 2 with fail
  generalize a.tmod 16777216 = b at *
  have LA := Lib.hid (lines_any g NG.out A1 c1 b HT.out w1 R1.out)
  unfold LinePost at LA
  have L0 := Lib.hid (linesI_zero b g)
  have hLg := linesI_length b g g.length 0 (by omega)
  rw [L0.out, Nat.sub_zero] at hLg
  generalize linesL b g = L at *
  go_wp2_with fail
  refine LA.out.mono ?_
  rintro e w2 ⟨A2, c2, rfl, ho2, hb2⟩
  have B2 := Lib.hid (B1.out.trans (hb2.mono B1.out.size))
  have RG := Lib.hid ((R1.out.below hb2).more hb2.size)
  have RL := Lib.hid (row_of_own ho2)
  have z2 := B2.out.size
  have hgl := NG.out.1
  clear ho2 hb2 R1 B1 LA HT
  go_wp2
  go_loopw [7, 8] (fun v7 v8 wr => ∃ (k i : Nat), v7 = .int .i64 k ∧ v8 = .int .i64 i ∧ i ≤ L.length ∧ k ≤ g.length + 1 ∧ Below w2.heap.size w2 wr ∧ Hid (L.drop i = linesI b g k)) (fun _ v8 _ => L.length - (intOf v8).toNat)
  case atStart => exact ⟨0, 0, rfl, rfl, Nat.zero_le _, by omega, Below.refl _ _, Lib.hid L0.out.symm⟩
  case round =>
    clear L0
    obtain ⟨k, i, rfl, rfl, hi, hk, hB, HD⟩ := hrel
    have HB := Lib.hid hB
    clear hB
    by_cases hlt : i < L.length
    · have hli : (i : Int) < L.length := by omega
      obtain ⟨t, v, hkl, hLi, hla, hnext⟩ := linesI_at HD.out hlt
      obtain ⟨adl, rfl, hbl, s0, s1, s2⟩ := (RL.out.below HB.out).sp hlt
      rw [hLi] at s0 s1 s2
      simp only at s0 s1 s2
      have hkt := hla.le
      have htl := hla.len hkl
      have hsum := hla.sum
      have hblank := hla.blank hkl
      have hends := hla.ends
      have HNB := Lib.hid hla.noBreak
      have HM := Lib.hid (fun (q : Nat) (hq : t < q) => hla.more (k := q) hq)
      have HNX := Lib.hid hnext
      subst hsum
      have HBL := Lib.hid hblank
      have HEN := Lib.hid hends
      clear hla hnext hLi hblank hends HD
      have n1 : ¬ (t : Int) < k := by omega
      have n2 : ¬ (g.length : Int) < t := by omega
      go_upto_block 2 with fail
      have X3 := Lib.hid (Whole.mk wr 28 #[.int .i64 k, .int .i64 t, .int .i64 (sumT g k t)])
      have HB3 := Lib.hid (HB.out.alloc HB.out.size (.cells #[.int .i64 k, .int .i64 t, .int .i64 (sumT g k t)] 28))
      clear s0 s1 s2 HB n1 n2
      generalize wr.alloc _ = w3 at *
      generalize wr.heap.size = gx at *
      have x0 := X3.out.cell 0
      have x1 := X3.out.cell 1
      have x2 := X3.out.cell 2
      have hRg := (RG.out.below HB3.out).gl hkl
      obtain ⟨adg, rfl, hbg, -⟩ := hRg
      go_wp2_with fail
      go_loopw [10, 11, 12] (fun v10 v11 v12 wx => ∃ q : Nat, v10 = .int .i64 (sumT g k q) ∧ v11 = .bool (spT g k q) ∧ v12 = .int .i64 q ∧ k ≤ q ∧ q ≤ t ∧ wx = w3) (fun _ _ v12 _ => t - (intOf v12).toNat)
      case atStart => exact ⟨k, by rw [sumT_self], by rw [spT_self], rfl, Nat.le_refl _, hkt, rfl⟩
      case round =>
        obtain ⟨q, rfl, rfl, rfl, hkq, hqt, rfl⟩ := hrel
        by_cases hql : q < t
        · have hqi : (q : Int) < t := by omega
          have hqg : q < g.length := by omega
          obtain ⟨ad', hA, -, r0, r1, r2, r3⟩ := (RG.out.below HB3.out).gl hqg
          injection hA with hA
          subst hA
          have e1 := Lib.hid (sumT_succ g k q hkq hqg)
          have e2 := Lib.hid (spT_succ g k q hkq hqg)
          have hbd := sumT_bd NG.out k (q + 1) (by omega) (by omega)
          rw [e1.out] at hbd
          have hnb := HNB.out q hkq hql
          rw [kd_at g q hqg] at hnb
          generalize g[q] = x at *
          obtain ⟨xk, xr, xa, xv⟩ := x
          simp only at r0 r1 r2 r3 e1 e2 hbd hnb
          have hw0 : -9223372036854775808 ≤ sumT g k q + xv ∧ sumT g k q + xv < 9223372036854775808 := by obtain ⟨q1, q2⟩ := hbd; omega
          have k4 : (xk == 4) = false := by simpa using hnb
          generalize sumT g k q = sv at *
          generalize hsp : spT g k q = sb at *
          have HSP := Lib.hid hsp
          clear hbd hnb hsp r1 r2
          cases sb with
          | true =>
            go_wp2_with fail
            go_roundw
            case rel => exact ⟨q + 1, by rw [e1.out], by rw [e2.out]; rfl, by go_num, by omega, by omega, by first | rfl | trivial⟩
            case measure => simp [intOf]; omega
          | false =>
            go_wp2_with fail
            go_roundw
            case rel => exact ⟨q + 1, by rw [e1.out], by rw [e2.out, Bool.false_or], by go_num, by omega, by omega, by first | rfl | trivial⟩
            case measure => simp [intOf]; omega
        · have hqe : q = t := by omega
          subst hqe
          have hqi : ¬ (q : Int) < q := by omega
          have hbd := sumT_bd NG.out k q hkq htl
          have HS1 := Lib.hid (fun hq : q < g.length => sumT_succ g k q hkq hq)
          have hav : (b < sumT g k q ∧ spT g k q = false) ∨ ¬ b < sumT g k q := by
            rcases HBL.out with h | h
            · exact .inr (by omega)
            · by_cases h2 : b < sumT g k q
              · exact .inl ⟨h2, h⟩
              · exact .inr h2
          have hsw : ∃ sv, sv = sumT g k q := ⟨_, rfl⟩
          obtain ⟨sv, hsv⟩ := hsw
          have HSV := Lib.hid hsv
          rw [← hsv] at x2 hav hbd ⊢
          obtain ⟨sb, hsb⟩ : ∃ sb, sb = spT g k q := ⟨_, rfl⟩
          rw [← hsb] at hav ⊢
          clear hsv hsb HBL
          have hgb : ((q : Int) == (g.length : Int)) = decide (q = g.length) := by
            by_cases h : q = g.length
            · rw [h]; simp
            · simp [h]; omega
          have HGB := Lib.hid hgb
          clear hgb
          go_upto_region 18 with fail
          go_cut [91] from 22 to 173 (fun v wx => v = .bool false ∧ wx = wr)
          case first =>
            rcases hav with ⟨hav, rfl⟩ | hav
            · go_wp2_with fail
              go_meet
              exact ⟨rfl, rfl⟩
            · go_wp2_with fail
              go_meet
              exact ⟨rfl, rfl⟩
          case rest =>
            obtain ⟨rfl, rfl⟩ := hcut
            by_cases hqe : q = g.length
            · have hE : ((q : Int) == (g.length : Int)) = true := by rw [HGB.out]; simp [hqe]
              have hF : ((i : Int) + 1 == (L.length : Int)) = true := by
                have h := HNX.out
                rw [linesI_end b g (q + 1) (by omega), List.drop_eq_nil_iff] at h
                simp; omega
              have z3 := HB3.out.size
              clear hqe HM HNX HEN
              go_wp2_with fail
              refine (bawake_any _).mono ?_
              rintro o w4 ⟨rfl, hb4⟩
              have B4 := Lib.hid (B2.out.trans ((HB3.out.trans (hb4.mono z3)).mono z2))
              clear hb4
              go_wp2
              go_ret
              exact ⟨rfl, B4.out⟩
            · have hE : ((q : Int) == (g.length : Int)) = false := by rw [HGB.out]; simp [hqe]
              have hqg : q < g.length := by omega
              obtain ⟨ad', hA, -, r0, r1, r2, r3⟩ := (RG.out.below HB3.out).gl hqg
              injection hA with hA
              subst hA
              have hen := HEN.out
              rw [kd_at g q hqg] at hen
              have hS1 := HS1.out hqg
              have hbd1 := sumT_bd NG.out k (q + 1) (by omega) (by omega)
              rw [hS1, ← HSV.out] at hbd1
              rw [← HSV.out] at hS1
              have HS2 := Lib.hid hS1
              have hgk := kd_at g q hqg
              generalize g[q] = x at *
              obtain ⟨xk, xr, xa, xv⟩ := x
              simp only at r0 r1 r2 r3 HS2 hbd1 hen hgk
              have hw0 : -9223372036854775808 ≤ sv + xv ∧ sv + xv < 9223372036854775808 := by obtain ⟨q1, q2⟩ := hbd1; omega
              have HGK := Lib.hid hgk
              clear hqe hbd1 hgk hS1 r1 r2 hav
              rcases hen with rfl | rfl
              · go_upto_block 4 with fail
                go_cut [13, 14] from 22 to 173 (fun v13 v14 wx => ∃ m : Int, v13 = .int .i64 m ∧ b < m ∧ wx = wc)
                case first =>
                  have HBK := Lib.hid (fun (p : Nat) (hp : q < p) (hP : ∀ j, q < j → j < p → kd g j ≠ 2 ∧ kd g j ≠ 4) => (fun j h1 h2 => by
                    rcases Nat.lt_trichotomy j q with h | h | h
                    · exact HNB.out j h1 h
                    · rw [h, HGK.out]; decide
                    · exact (hP j h h2).2 : ∀ j, k ≤ j → j < p → kd g j ≠ 4))
                  go_wp2_with fail
                  go_loopw [13, 14] (fun v13 v14 wx => ∃ p : Nat, v13 = .int .i64 (sumT g k p) ∧ v14 = .int .i64 p ∧ q < p ∧ p ≤ g.length ∧ Hid (∀ j, q < j → j < p → kd g j ≠ 2 ∧ kd g j ≠ 4) ∧ wx = wc) (fun _ v14 _ => g.length - (intOf v14).toNat)
                  case atStart => exact ⟨q + 1, by rw [HS2.out], by go_num, by omega, by omega, Lib.hid (fun j h1 h2 => by omega), rfl⟩
                  case round =>
                    obtain ⟨p, rfl, rfl, hqp, hpl, HP, rfl⟩ := hrel
                    by_cases hpg : p < g.length
                    · have hpi : (p : Int) < g.length := by omega
                      clear r0 r3
                      obtain ⟨ad', hA, -, r0, r1, r2, r3⟩ := (RG.out.below HB3.out).gl hpg
                      injection hA with hA
                      subst hA
                      have e1 := Lib.hid (sumT_succ g k p (by omega) hpg)
                      have hbd := sumT_bd NG.out k (p + 1) (by omega) (by omega)
                      rw [e1.out] at hbd
                      have hgk := kd_at g p hpg
                      generalize g[p] = y at *
                      obtain ⟨yk, yr, ya, yv⟩ := y
                      simp only at r0 r1 r2 r3 e1 hbd hgk
                      have hw1 : -9223372036854775808 ≤ sumT g k p + yv ∧ sumT g k p + yv < 9223372036854775808 := by obtain ⟨q1, q2⟩ := hbd; omega
                      have HGY := Lib.hid hgk
                      have HX := Lib.hid (fun (h : yk = 2 ∨ yk = 4) => HM.out p hqp (HBK.out p hqp HP.out) (by rw [HGY.out]; exact h))
                      clear hbd hgk r1 r2
                      by_cases h2 : yk = 2
                      · subst h2
                        have HY := Lib.hid (HX.out (.inl rfl))
                        clear HX
                        go_wp2_with fail
                        go_meet
                        exact ⟨_, rfl, HY.out, rfl⟩
                      · by_cases h4 : yk = 4
                        · subst h4
                          have HY := Lib.hid (HX.out (.inr rfl))
                          clear HX
                          go_wp2_with fail
                          go_meet
                          exact ⟨_, rfl, HY.out, rfl⟩
                        · have HP2 : Hid (∀ j, q < j → j < p + 1 → kd g j ≠ 2 ∧ kd g j ≠ 4) := Lib.hid (fun j h5 h6 => by
                            rcases Nat.lt_or_ge j p with h | h
                            · exact HP.out j h5 h
                            · obtain rfl : j = p := by omega
                              rw [HGY.out]; exact ⟨h2, h4⟩)
                          have k2 : (yk == 2) = false := by simpa using h2
                          have k4 : (yk == 4) = false := by simpa using h4
                          have n2 : (yk != 2) = true := by simpa using h2
                          have n4 : (yk != 4) = true := by simpa using h4
                          clear HX
                          go_wp2_with fail
                          go_roundw
                          case rel => exact ⟨p + 1, by rw [e1.out], by go_num, by omega, by omega, HP2, by first | rfl | trivial⟩
                          case measure => simp [intOf]; omega
                    · have hpi : ¬ (p : Int) < g.length := by omega
                      have HX := Lib.hid (HM.out p hqp (HBK.out p hqp HP.out) (.inr (kd_out g p (by omega))))
                      go_wp2_with fail
                      go_meet
                      exact ⟨_, rfl, HX.out, rfl⟩
                case rest =>
                  obtain ⟨m, rfl, hbm, rfl⟩ := hcut
                  go_wp2_with fail
                  go_roundw
                  case rel => exact ⟨q + 1, i + 1, by go_num, by go_num, by omega, by omega, HB3.out, HNX⟩
                  case measure => simp [intOf]; omega
              · go_wp2_with fail
                go_roundw
                case rel => exact ⟨q + 1, i + 1, by go_num, by go_num, by omega, by omega, HB3.out, HNX⟩
                case measure => simp [intOf]; omega
    · have hli : ¬ (i : Int) < L.length := by omega
      have hkg : (g.length : Int) ≤ k := by
        have h := HD.out
        rw [List.drop_eq_nil_iff.2 (by omega)] at h
        rcases Nat.lt_or_ge k g.length with h1 | h1
        · rw [linesI_step b g k h1] at h; cases h
        · omega
      have z3 := HB.out.size
      clear HD
      go_wp2_with fail
      refine (bawake_any _).mono ?_
      rintro o w4 ⟨rfl, hb4⟩
      have B4 := Lib.hid (B2.out.trans ((HB.out.trans (hb4.mono z3)).mono z2))
      clear hb4
      go_wp2
      go_ret
      exact ⟨rfl, B4.out⟩
end Go.Proofs.Ytmlnpphblicghaa
