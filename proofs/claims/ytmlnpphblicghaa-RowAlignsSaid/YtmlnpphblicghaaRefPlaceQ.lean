import Derived.Test.YtmlnpphblicghaaRowPartQ
import Derived.Test.YtmlnpphblicghaaPlaceLeafQ
import Derived.Test.YtmlnpphblicghaaZQ
import Derived.Test.YtmlnpphblicghaaRefGlyphsQ
import Derived.Test.YtmlnpphblicghaaBrkRefQ
import Derived.Test.YtmlnpphblicghaaRowGeoQ
import Derived.Test.YtmlnpphblicghaaWordNumQ
import Derived.Lib.MinMax
/- quoinref9.Place answers placeZ. -/
namespace Go.Proofs.Ytmlnpphblicghaa
open Go Go.RowKit
set_option linter.unusedVariables false
set_option linter.unusedSimpArgs false
set_option maxRecDepth 20000
set_option maxHeartbeats 2000000

theorem rplace_any (zs : List Int) (hz : zs.length = 256) (rs : List Rn) (A : Option Addr) (c : Nat) (avail line align : Int) (ha : -2199023255552 ≤ avail ∧ avail ≤ 2199023255552) (W : World) (hR : Row W W.heap.size A (rCells rs)) (hn : rs.length ≤ 1000) (hsz : sizeAll rs ≤ 100000) :
    Calls Try.prog 29 #[.agg (i64s zs).toArray, .slice A rs.length c, .int .i64 avail, .int .i64 line, .int .i64 align] W (PlacePost (placeZ zs rs avail line align).1 (placeZ zs rs avail line align).2 W) := by
  have HL := Lib.hid hz
  have M0 := Lib.hid (Whole.mk W 37 (i64s zs).toArray)
  have HB0 := Lib.hid ((Below.refl W.heap.size W).alloc (Nat.le_refl _) (.cells (i64s zs).toArray 37))
  have RR0 := Lib.hid ((hR.below HB0.out).more HB0.out.size)
  have GL := Lib.hid (fun (w : World) (hR : Row w w.heap.size A (rCells rs)) => rglyphs_any zs hz rs A c w hR (by omega) hsz)
  unfold GlyphPost at GL
  have NG := Lib.hid (glyphs_fine zs rs hsz)
  have GR := Lib.hid (glyphs_run zs rs)
  have GA := Lib.hid (glyphs_at zs rs hsz)
  have hlen := glyphsL_length zs rs
  have hPZ : Hid (placeZ zs rs avail line align = ((placeL rs (glyphsL zs rs) avail (lineZ line) align 0 0 (linesI avail (glyphsL zs rs) 0)).1.map (pcOf rs (glyphsL zs rs)), (placeL rs (glyphsL zs rs) avail (lineZ line) align 0 0 (linesI avail (glyphsL zs rs) 0)).2)) := Lib.hid (by rw [linesI_zero]; rfl)
  clear hz hR
  generalize placeZ zs rs avail line align = PZ at *
  generalize glyphsL zs rs = g at *
  have hgl : g.length ≤ 100000 := by omega
  clear hlen
  go_enter Try.func29, Try.ntmps29
  go_wp2_with (first | (refine flat_load met_flat (.tmp 5) rfl rfl W.heap.size rfl zs HL.out 37 ?_ ?_; (focus (exact M0.out))))
  refine (GL.out _ RR0.out).mono ?_
  rintro e w1 ⟨A1, c1, rfl, ho1, hb1⟩
  have B1 := Lib.hid (HB0.out.trans (hb1.mono HB0.out.size))
  have RR1 := Lib.hid ((RR0.out.below hb1).more hb1.size)
  have RG1 := Lib.hid (row_of_own ho1)
  have hc1 : g.length ≤ c1 ∧ c1 ≤ maxLen := by
    obtain ⟨A', c', hv, h1, h2, -⟩ := owns_nil ho1
    injection hv with _ _ e
    subst e
    exact ⟨h1, h2⟩
  have HC1 := Lib.hid hc1
  clear hc1
  clear ho1 hb1 M0 HB0 RR0 GL HL
  have LA := Lib.hid (fun (w : World) (hR : Row w w.heap.size A1 (i64s (gCells g))) => rlines_any g NG.out A1 c1 avail w hR)
  unfold LinePost at LA
  have L0 := Lib.hid (linesI_zero avail g)
  have hLl := linesI_length avail g g.length 0 (by omega)
  rw [L0.out] at hLl
  generalize linesL avail g = L at *
  go_wp2_with fail
  refine (LA.out _ RG1.out).mono ?_
  rintro e w2 ⟨A2, c2, rfl, ho2, hb2⟩
  have B2 := Lib.hid (B1.out.trans (hb2.mono B1.out.size))
  have RR := Lib.hid ((RR1.out.below hb2).more hb2.size)
  have RG := Lib.hid ((RG1.out.below hb2).more hb2.size)
  have RL := Lib.hid (row_of_own ho2)
  clear ho2 hb2 B1 RR1 RG1 LA
  go_wp2_with fail
  refine (rline_any line _).mono ?_
  rintro e w' ⟨rfl, rfl⟩
  have hst := lineZ_bd line
  generalize lineZ line = st at *
  have hup := upZ_bd st hst.1
  go_wp2
  go_loopw [14, 15, 17] (fun v14 v15 v17 wr => ∃ (A3 : Option Addr) (m c3 n i : Nat) (y : Int) (cur : List Pc), v14 = .slice A3 m c3 ∧ v15 = .int .i64 y ∧ v17 = .int .i64 n ∧ n ≤ L.length ∧ m ≤ i ∧ i ≤ g.length + 1 ∧ 0 ≤ y ∧ y ≤ 2147483648 * (n : Int) ∧
    Hid (L.drop n = linesI avail g i) ∧ Hid (m = cur.length) ∧ Hid (wr.ownsRow w2.heap.size 56 8 (.slice A3 m c3) m (cur.flatMap pcC)) ∧ Hid (Below w2.heap.size w2 wr) ∧
    Hid (cur ++ (placeL rs g avail st align n y (linesI avail g i)).1.map (pcOf rs g) = PZ.1 ∧ (placeL rs g avail st align n y (linesI avail g i)).2 = PZ.2)) (fun _ _ v17 _ => L.length - (intOf v17).toNat)
  case atStart => exact ⟨none, 0, 0, 0, 0, 0, [], rfl, rfl, rfl, Nat.zero_le _, Nat.le_refl _, by omega, Int.le_refl _, by omega, Lib.hid (by rw [L0.out]; rfl), Lib.hid rfl, Lib.hid (World.ownsRow_nil _ _ _ _), Lib.hid (Below.refl _ _), Lib.hid (by rw [hPZ.out]; exact ⟨rfl, rfl⟩)⟩
  case round =>
    clear L0 hPZ
    obtain ⟨A3, m, c3, n, i, y, cur, rfl, rfl, rfl, hn, hmi, hi, hy0, hy, HD, HM, HO, HB, HP⟩ := hrel
    by_cases hlt : n < L.length
    · have hli : (n : Int) < L.length := by omega
      obtain ⟨t, w, hik, hLn, hla, hnext⟩ := lines_next HD.out hlt
      obtain ⟨adl, rfl, hbl, s0, s1, s2⟩ := RL.out.span hlt
      rw [hLn] at s0 s1 s2
      simp only at s0 s1 s2
      have hit := hla.le
      have htl := hla.len hik
      have hP := HP.out
      rw [← HD.out, List.drop_eq_getElem_cons hlt, hLn, hnext] at hP
      simp only [placeL, Int.toNat_natCast] at hP
      obtain ⟨UP, hUP⟩ : ∃ UP, upI rs g (upZ st) i t = UP := ⟨_, rfl⟩
      obtain ⟨DN, hDN⟩ : ∃ DN, dnI rs g (st - upZ st) i t = DN := ⟨_, rfl⟩
      have hU := upI_bd rs g (upZ st) i t (by omega)
      have hD := dnI_bd rs g (st - upZ st) i t (by omega)
      have hwb := sumT_bd NG.out i t hit htl
      rw [← hla.sum] at hwb
      obtain ⟨hw1, hw2⟩ := hwb
      have hxb : 0 ≤ startX avail w align ∧ startX avail w align ≤ 2305843009213693952 := by unfold startX; split <;> (try split) <;> omega
      obtain ⟨X0, hX0⟩ : ∃ X0, startX avail w align = X0 := ⟨_, rfl⟩
      rw [hUP] at hP hU
      rw [hDN] at hP hD
      rw [hX0] at hP hxb
      obtain ⟨R, hR⟩ : ∃ R, placeL rs g avail st align (n + 1) (y + UP + DN) (linesI avail g (t + 1)) = R := ⟨_, rfl⟩
      rw [hR, List.map_append] at hP
      have HU := Lib.hid hUP
      have HDN := Lib.hid hDN
      have HX := Lib.hid hX0
      have HR := Lib.hid hR
      have HP2 := Lib.hid hP
      have HNX := Lib.hid hnext
      have SP := Lib.hid (fun w' (hb : Below w2.heap.size w2 w') => (⟨(hb.cell (p := adl.add (n * 3)) (by rw [add_block]; exact hbl)).trans s0, (hb.cell (p := ⟨(adl.add (n * 3)).block, (adl.add (n * 3)).off + 1, none⟩) (by simp only [add_block]; exact hbl)).trans s1,
        (hb.cell (p := ⟨(adl.add (n * 3)).block, (adl.add (n * 3)).off + 2, none⟩) (by simp only [add_block]; exact hbl)).trans s2⟩ : w'.cell? (adl.add (n * 3)) = some (.int .i64 i) ∧ w'.cell? ⟨(adl.add (n * 3)).block, (adl.add (n * 3)).off + 1, none⟩ = some (.int .i64 t) ∧ w'.cell? ⟨(adl.add (n * 3)).block, (adl.add (n * 3)).off + 2, none⟩ = some (.int .i64 w)))
      clear hla hnext hLn HD HP hP hUP hDN hX0 hR s0 s1 s2
      obtain ⟨s0, s1, s2⟩ := SP.out _ HB.out
      have UPA := Lib.hid (rup_any st wr (by omega) (by omega))
      go_wp2_with fail
      refine UPA.out.mono ?_
      rintro e w' ⟨rfl, rfl⟩
      go_wp2_with fail
      refine UPA.out.mono ?_
      rintro e w' ⟨rfl, rfl⟩
      clear UPA
      go_wp2
      go_loopw [18, 19, 20] (fun v18 v19 v20 wx => ∃ (u d : Int) (k : Nat), v18 = .int .i64 u ∧ v19 = .int .i64 d ∧ v20 = .int .i64 k ∧ i ≤ k ∧ k ≤ t ∧ 0 ≤ u ∧ u ≤ 1073741824 ∧ 0 ≤ d ∧ d ≤ 1073741824 ∧ Hid (upI rs g u k t = UP) ∧ Hid (dnI rs g d k t = DN) ∧ wx = wr) (fun _ _ v20 _ => t - (intOf v20).toNat)
      case atStart => exact ⟨upZ st, st - upZ st, i, rfl, by go_num, rfl, Nat.le_refl _, hit, by omega, by omega, by omega, by omega, HU, HDN, rfl⟩
      case round =>
        clear HU HDN
        obtain ⟨u, d, k, rfl, rfl, rfl, hik2, hkt, hu0, hu1, hd0, hd1, HU, HDN, rfl⟩ := hrel
        by_cases hkl : k < t
        · have hki : (k : Int) < t := by omega
          have hkg : k < g.length := by omega
          obtain ⟨adg, rfl, hbg, r0, r1, r2, r3⟩ := (RG.out.below HB.out).gl hkg
          obtain ⟨r, hr, her⟩ := GR.out k hkg
          have e1 := Lib.hid (upI_step rs g u k t hkl hkg)
          have e2 := Lib.hid (dnI_step rs g d k t hkl hkg)
          rw [HU.out, her] at e1
          rw [HDN.out, her] at e2
          rw [her] at r1
          rw [hRun_at rs r hr] at e1 e2
          obtain ⟨adr, hA, hbr, q0, q1, q2, q3⟩ := (RR.out.below HB.out).rn hr
          subst hA
          generalize rs[r].line = ln at *
          clear r0 r2 r3 q0 q1 q2 her HU HDN
          have hh := lineZ_bd ln
          have LZ := Lib.hid (rline_any ln wr)
          generalize lineZ ln = hz at *
          have hzu := upZ_bd hz hh.1
          go_wp2_with fail
          refine LZ.out.mono ?_
          rintro e w' ⟨rfl, rfl⟩
          have UPB := Lib.hid (rup_any hz wr (by omega) (by omega))
          clear LZ
          go_wp2_with fail
          refine UPB.out.mono ?_
          rintro e w' ⟨rfl, rfl⟩
          go_wp2_with fail
          refine UPB.out.mono ?_
          rintro e w' ⟨rfl, rfl⟩
          clear UPB
          go_wp2_with fail
          go_roundw
          case rel => exact ⟨max u (upZ hz), max d (hz - upZ hz), k + 1, by go_num, by go_num, by go_num, by omega, by omega, by omega, by omega, by omega, by omega, Lib.hid e1.out.symm, Lib.hid e2.out.symm, by first | rfl | trivial⟩
          case measure => simp [intOf]; omega
        · have hki : ¬ (k : Int) < t := by omega
          have hke : k = t := by omega
          have hu := HU.out
          have hd := HDN.out
          rw [upI_end rs g u k t (by omega)] at hu
          rw [dnI_end rs g d k t (by omega)] at hd
          subst hu
          subst hd
          clear HU HDN hke hU hD
          go_upto_region 17 with fail
          have hx3 : (0 < avail - w ∧ align = 1 ∧ X0 = avail - w) ∨ (0 < avail - w ∧ align = 2 ∧ X0 = (avail - w) / 2) ∨ ((¬ 0 < avail - w ∨ (align ≠ 1 ∧ align ≠ 2)) ∧ X0 = 0) := by
            have h := HX.out
            unfold startX at h
            split at h
            · omega
            · split at h <;> omega
          go_cut [94] from 36 to 198 (fun v wx => v = .bool (decide (0 < avail - w ∧ align = 1)) ∧ wx = wr)
          case first =>
            as_aux_lemma =>
              clear hx3 hxb HX
              by_cases hf : 0 < avail - w
              · by_cases h1 : align = 1
                · have a1 : (align == 1) = true := by simpa using h1
                  have HV := Lib.hid (decide_eq_true (p := 0 < avail - w ∧ align = 1) ⟨hf, h1⟩)
                  clear h1
                  go_wp2_with fail
                  go_meet
                  exact ⟨by rw [HV.out], rfl⟩
                · have a1 : (align == 1) = false := by simpa using h1
                  have HV := Lib.hid (decide_eq_false (p := 0 < avail - w ∧ align = 1) (fun h => h1 h.2))
                  clear h1
                  go_wp2_with fail
                  go_meet
                  exact ⟨by rw [HV.out], rfl⟩
              · have HV := Lib.hid (decide_eq_false (p := 0 < avail - w ∧ align = 1) (fun h => hf h.1))
                go_wp2_with fail
                go_meet
                exact ⟨by rw [HV.out], rfl⟩
          case rest =>
            obtain ⟨rfl, rfl⟩ := hcut
            go_upto_if 94 with fail
            go_cut [22] from 36 to 198 (fun v wx => v = .int .i64 X0 ∧ wx = wc)
            case first =>
              as_aux_lemma =>
                rcases hx3 with ⟨h1, h2, h3⟩ | ⟨h1, h2, h3⟩ | ⟨h1, h3⟩
                · rw [decide_eq_true (p := 0 < avail - w ∧ align = 1) ⟨h1, h2⟩]
                  clear h2
                  go_wp2_with fail
                  go_meet
                  exact ⟨by rw [h3], rfl⟩
                · rw [decide_eq_false (p := 0 < avail - w ∧ align = 1) (by omega)]
                  have a2 : (align == 2) = true := by simpa using h2
                  have hq : (avail - w).tdiv 2 = (avail - w) / 2 := Int.tdiv_eq_ediv_of_nonneg (by omega)
                  clear h2
                  go_wp2_with fail
                  go_meet
                  exact ⟨by rw [h3], rfl⟩
                · rw [decide_eq_false (p := 0 < avail - w ∧ align = 1) (by omega)]
                  by_cases hf : 0 < avail - w
                  · have a2 : (align == 2) = false := by rw [beq_eq_false_iff_ne]; omega
                    clear h1
                    go_wp2_with fail
                    go_meet
                    exact ⟨by rw [h3], rfl⟩
                  · clear h1
                    go_wp2_with fail
                    go_meet
                    exact ⟨by rw [h3], rfl⟩
            case rest =>
              obtain ⟨rfl, rfl⟩ := hcut
              clear hx3 HX
              clear hkl hik2 hkt hki
              go_wp2
              go_loopw [14, 22, 24] (fun v14 v22 v24 wx => ∃ (A3 : Option Addr) (m c3 q : Nat) (x : Int) (cur : List Pc), v14 = .slice A3 m c3 ∧ v22 = .int .i64 x ∧ v24 = .int .i64 q ∧ i ≤ q ∧ q ≤ t ∧ m ≤ q ∧ Hid (x = X0 + sumT g i q) ∧ Hid (m = cur.length) ∧
                Hid (wx.ownsRow w2.heap.size 56 8 (.slice A3 m c3) m (cur.flatMap pcC)) ∧ Hid (Below w2.heap.size w2 wx) ∧ Hid (cur ++ ((ivI g (y + u) n t q x).map (pcOf rs g) ++ R.1.map (pcOf rs g)) = PZ.1 ∧ R.2 = PZ.2)) (fun _ _ v24 _ => t - (intOf v24).toNat)
              case atStart => exact ⟨A3, m, c3, i, X0, cur, rfl, rfl, rfl, Nat.le_refl _, hit, hmi, Lib.hid (by rw [sumT_self]; omega), HM, HO, HB, HP2⟩
              case round =>
                clear HP2 HO HB HM hmi s0 s1 s2
                obtain ⟨A3, m, c3, q, x, cur, rfl, rfl, rfl, hiq, hqt, hmq, HXX, HM, HO, HB, HP⟩ := hrel
                obtain ⟨s0, s1, s2⟩ := SP.out _ HB.out
                by_cases hql : q < t
                · have hqi : (q : Int) < t := by omega
                  obtain ⟨e1, e2, e3, e4⟩ := grpE_spec g q t hql htl
                  have hst2 := ivI_step g (y + u) n t q x hql htl
                  obtain ⟨e, he⟩ : ∃ e, grpE g q t = e := ⟨_, rfl⟩
                  rw [he] at e1 e2 e3 e4 hst2
                  have hP := HP.out
                  rw [hst2, List.map_cons] at hP
                  have HP3 := Lib.hid hP
                  have E3 := Lib.hid e3
                  have E4 := Lib.hid e4
                  clear e3 e4 hst2 HP hP he
                  go_upto_block 6 with fail
                  go_cut [25] from 109 to 193 (fun v25 wx => v25 = .int .i64 e ∧ Below wr.heap.size wr wx)
                  case first =>
                    as_aux_lemma =>
                      obtain ⟨adg, hA, hbg, -, g1, -, -⟩ := (RG.out.below HB.out).gl (show q < g.length by omega)
                      subst hA
                      go_wp2_with fail
                      go_loopw [25] (fun v25 wx => ∃ k : Nat, v25 = .int .i64 k ∧ q ≤ k ∧ k ≤ e ∧ Below wr.heap.size wr wx) (fun v25 _ => e - (intOf v25).toNat)
                      case atStart => exact ⟨q, rfl, Nat.le_refl _, by omega, Below.refl _ _⟩
                      case round =>
                        obtain ⟨k, rfl, hqk, hke, hBk⟩ := hrel
                        have HBK := Lib.hid hBk
                        have HBW := Lib.hid (HB.out.trans (hBk.mono HB.out.size))
                        clear hBk
                        obtain ⟨p0, p1, p2⟩ := SP.out _ HBW.out
                        by_cases hkt2 : k < t
                        · have hkti : (k : Int) < t := by omega
                          obtain ⟨ad', hA, -, -, k1, -, -⟩ := (RG.out.below HBW.out).gl (show k < g.length by omega)
                          cases hA
                          obtain ⟨ad', hA, -, -, g1, -, -⟩ := (RG.out.below HBW.out).gl (show q < g.length by omega)
                          cases hA
                          by_cases hkee : k < e
                          · have hr := E3.out k hqk hkee
                            rw [rnG_at g k (by omega), rnG_at g q (by omega)] at hr
                            rw [hr] at k1
                            generalize g[q].run = rq at *
                            clear hr
                            go_upto_region 24 with fail
                            go_quiet (fail)
                            go_wp2
                            go_roundw
                            case rel => exact ⟨k + 1, by go_num, by omega, by omega, Below.drewN' HBK.out nq⟩
                            case measure => simp [intOf]; omega
                          · have hkeq : k = e := by omega
                            have hr := E4.out (by omega)
                            rw [rnG_at g q (by omega)] at hr
                            rw [← hkeq, rnG_at g k (by omega)] at hr
                            generalize g[q].run = rq at *
                            generalize g[k].run = rk at *
                            have hb1 : (rk == rq) = false := by rw [beq_eq_false_iff_ne]; exact hr
                            have HKE := Lib.hid hkeq
                            clear hkeq
                            go_upto_region 24 with fail
                            go_quiet (fail)
                            go_wp2
                            go_meet
                            exact ⟨by rw [HKE.out], Below.drewN' HBK.out nq⟩
                        · have hkti : ¬ (k : Int) < t := by omega
                          have HKE : Hid (k = e) := Lib.hid (by omega)
                          go_upto_region 24 with fail
                          go_quiet (fail)
                          go_wp2
                          go_meet
                          exact ⟨by rw [HKE.out], Below.drewN' HBK.out nq⟩
                  case rest =>
                    obtain ⟨rfl, hBc⟩ := hcut
                    have HBC := Lib.hid (HB.out.trans (hBc.mono HB.out.size))
                    have HOC := Lib.hid (own_below HO.out hBc (Nat.le_refl _))
                    clear hBc s0 s1 s2 HB HO E3 E4
                    obtain ⟨adg, hA, hbg, r0, r1, r2, r3⟩ := (RG.out.below HBC.out).gl (show q < g.length by omega)
                    subst hA
                    obtain ⟨r, hr, her⟩ := GR.out q (by omega)
                    obtain ⟨adr, hA, hbr, q0, q1, q2, q3⟩ := (RR.out.below HBC.out).rn hr
                    subst hA
                    rw [her] at r1
                    have LZ := Lib.hid (rline_any rs[r].line wc)
                    have HRL := Lib.hid (hRun_at rs r hr)
                    have hh := lineZ_bd rs[r].line
                    generalize rs[r].line = ln at *
                    generalize lineZ ln = hz at *
                    have hzu := upZ_bd hz hh.1
                    go_wp2_with fail
                    refine LZ.out.mono ?_
                    rintro o w' ⟨rfl, rfl⟩
                    clear LZ
                    obtain ⟨hc1, hc2⟩ := HC1.out
                    have hec : e ≤ c1 := by omega
                    have heg : e ≤ g.length := by omega
                    unfold maxLen at hc2
                    have HRS := Lib.hid (by
                      have h := rsum_any ((g.drop q).take (e - q)) (fine_part NG.out q (e - q)) (some (adg.add (q * 4))) (c1 - q) wc w2.heap.size (row_part (RG.out.below HBC.out) q (e - q))
                      rw [List.length_take, List.length_drop, Nat.min_eq_left (by omega)] at h
                      exact h : Calls Try.prog 47 #[.slice (some (adg.add (q * 4))) (e - q) (c1 - q)] wc fun o w' => o = .returned (.int .i64 (sumT g q e)) ∧ wc = w')
                    go_wp2_with fail
                    refine HRS.out.mono ?_
                    rintro o w' ⟨rfl, rfl⟩
                    have hbx := sumT_bd NG.out i q hiq (by omega)
                    have hbw := sumT_bd NG.out q e (by omega) heg
                    have hXE := sumT_add g i _ q e rfl hiq (by omega) heg
                    have hxx := HXX.out
                    have HX2 : Hid (x + sumT g q e = X0 + sumT g i e) := Lib.hid (by omega)
                    have HPC : Hid (pcOf rs g ⟨q, e, n, x, y + u⟩ = ⟨rs[r].node, x, y + u - upZ hz, sumT g q e, hz, g[q].at_, (g[e - 1]'(by omega)).at_ + 1, n⟩) := Lib.hid (by
                      unfold pcOf
                      simp only
                      rw [rnG_at g q (by omega), her, HRL.out, nRun_at rs r hr, atG_at g q (by omega), atG_at g (e - 1) (by omega)])
                    obtain ⟨ad', hA, -, -, -, v2, -⟩ := (RG.out.below HBC.out).gl (show e - 1 < g.length by omega)
                    cases hA
                    have hbX : -9223372036854775808 ≤ x + sumT g q e ∧ x + sumT g q e < 9223372036854775808 := by
                      obtain ⟨a1, a2⟩ := hbx
                      obtain ⟨a3, a4⟩ := hbw
                      omega
                    have hyb : 0 ≤ y + u ∧ y + u ≤ 2305843009213693952 := by omega
                    have hae : ∃ ae, ae = (g[e - 1]'(by omega)).at_ ∧ 0 ≤ ae ∧ ae ≤ 100000 := ⟨_, rfl, GA.out (e - 1) (by omega)⟩
                    obtain ⟨ae, hae1, hae2, hae3⟩ := hae
                    rw [← hae1] at HPC v2
                    clear hbx hbw hXE hxx hae1 HRS HRL q1 q2 q3 r0 r3
                    generalize sumT g q e = sw at *
                    generalize g[q].at_ = aq at *
                    clear her
                    generalize rs[r].node = nd at *
                    have zc := HBC.out.size
                    have z0 : ∀ tt : Later wc.heap.size wc, tt.w.cell? ⟨(adg.add (q * 4)).block, (adg.add (q * 4)).off + 1, none⟩ = some (.int .i64 r) := fun tt => (tt.h.cell (p := ⟨(adg.add (q * 4)).block, (adg.add (q * 4)).off + 1, none⟩) (by simp only [add_block]; omega)).trans r1
                    have z1 : ∀ tt : Later wc.heap.size wc, tt.w.cell? ⟨(adg.add (q * 4)).block, (adg.add (q * 4)).off + 2, none⟩ = some (.int .i64 aq) := fun tt => (tt.h.cell (p := ⟨(adg.add (q * 4)).block, (adg.add (q * 4)).off + 2, none⟩) (by simp only [add_block]; omega)).trans r2
                    have z2 : ∀ tt : Later wc.heap.size wc, tt.w.cell? ⟨(adg.add ((e - 1) * 4)).block, (adg.add ((e - 1) * 4)).off + 2, none⟩ = some (.int .i64 ae) := fun tt => (tt.h.cell (p := ⟨(adg.add ((e - 1) * 4)).block, (adg.add ((e - 1) * 4)).off + 2, none⟩) (by simp only [add_block]; omega)).trans v2
                    have z3 : ∀ tt : Later wc.heap.size wc, tt.w.cell? (adr.add (r * 4)) = some (.int .i64 nd) := fun tt => (tt.h.cell (p := adr.add (r * 4)) (by simp only [add_block]; omega)).trans q0
                    have UPC := Lib.hid (fun w => rup_any hz w (by omega) (by omega))
                    have he1 : (e : Int) - 1 = ((e - 1 : Nat) : Int) := by omega
                    have he2 : e - 1 < g.length := by omega
                    have he3 : ((e - 1 : Nat) : Int) < g.length := by omega
                    clear r1 r2 v2 q0
                    go_upto_region 28 with fail
                    refine region_lane [] (List.range 35) [35, 36] (by kernel_rfl) (by kernel_rfl) (fun _ _ _ _ _ h => h) ?_
                    simp only [pick, List.map_nil]
                    refine wpQuiet_nil ⟨rfl, ?_⟩
                    rw [show List.range 35 = [0, 1, 2, 3, 4, 5, 6, 7, 8, 9, 10, 11, 12, 13, 14, 15, 16, 17, 18, 19, 20, 21, 22, 23, 24, 25, 26, 27, 28, 29, 30, 31, 32, 33, 34] from rfl]
                    simp only [List.map_cons, List.map_nil, List.getD_cons_zero, List.getD_cons_succ, List.drop_succ_cons, List.drop_zero]
                    refine laneO_run 15 (by kernel_rfl) ?_
                    simp only [List.take_succ_cons, List.take_zero, List.drop_succ_cons, List.drop_zero]
                    repeat (go_big_quiet_step (fail))
                    refine wpQuiet_nil ?_
                    refine laneO_call (v := .int .i64 (upZ hz)) (by kernel_rfl) (by rfl) (fun C hC h0 => ?_) ?_
                    focus (go_big_quiet_op; exact ⟨_, fun w hw => (UPC.out w).mono fun e w' ⟨he, hb⟩ => ⟨he, hb ▸ hw⟩, rfl⟩)
                    simp only [Act.put, List.setIfInBounds_toArray, List.set_cons_zero, List.set_cons_succ]
                    refine laneO_run 3 (by kernel_rfl) ?_
                    simp only [List.take_succ_cons, List.take_zero, List.drop_succ_cons, List.drop_zero]
                    repeat (go_big_quiet_step (fail))
                    refine wpQuiet_nil ?_
                    refine laneO_fixed (v := .agg #[.int .i64 x, .int .i64 (y + u - upZ hz), .int .i64 sw, .int .i64 hz]) (by kernel_rfl) (fun w hw => .inl ⟨by rfl, ?_⟩) ?_
                    focus (unfold gives; simp [go_sem]; exact Behind.refl w)
                    simp only [Act.put, List.setIfInBounds_toArray, List.set_cons_zero, List.set_cons_succ]
                    refine laneO_run 13 (by kernel_rfl) ?_
                    simp only [List.take_succ_cons, List.take_zero, List.drop_succ_cons, List.drop_zero]
                    repeat (go_big_quiet_step (fail))
                    refine wpQuiet_nil ?_
                    refine laneO_fixed (v := .agg #[.int .i64 nd, .int .i64 x, .int .i64 (y + u - upZ hz), .int .i64 sw, .int .i64 hz, .int .i64 aq, .int .i64 (ae + 1), .int .i64 n]) (by kernel_rfl) (fun w hw => .inl ⟨by rfl, ?_⟩) ?_
                    focus (unfold gives; simp [go_sem]; exact Behind.refl w)
                    simp only [Act.put, List.setIfInBounds_toArray, List.set_cons_zero, List.set_cons_succ]
                    refine laneO_told (madeT 1 56 [.int .i64 nd, .int .i64 x, .int .i64 (y + u - upZ hz), .int .i64 sw, .int .i64 hz, .int .i64 aq, .int .i64 (ae + 1), .int .i64 n]) (madeT_steady _ _ _) (by kernel_rfl) rfl (fun w hw => .inl ⟨by rfl, ?_⟩) ?_
                    focus (unfold gives; simp [go_sem]; exact madeT_new 1 56 #[.int .i64 nd, .int .i64 x, .int .i64 (y + u - upZ hz), .int .i64 sw, .int .i64 hz, .int .i64 aq, .int .i64 (ae + 1), .int .i64 n] w)
                    refine laneO_end (by simp) rfl rfl rfl fun w4 hb0 => ?_
                    rintro v ⟨g1, rfl, hg1⟩
                    simp only [Act.put, List.setIfInBounds_toArray, List.set_cons_zero, List.set_cons_succ, fillAll]
                    clear z0 z1 z2 z3 UPC he1 he2 he3
                    have HO4 := Lib.hid (own_below HOC.out hb0 (Nat.le_refl _))
                    have HB4 := Lib.hid (HBC.out.trans (Below.mono hb0 zc))
                    have z4 := HB4.out.size
                    clear hb0 HOC HBC
                    refine wpList_pushOne (by rfl) (.tmp 154) (.tmp 188) _ rfl w2.heap.size 56 8 64 pcV0 Try.underlying50 pc_info rfl (by decide) m (.slice A3 m c3) _ rfl HO4.out z4 g1 [.int .i64 nd, .int .i64 x, .int .i64 (y + u - upZ hz), .int .i64 sw, .int .i64 hz, .int .i64 aq, .int .i64 (ae + 1), .int .i64 n] rfl hg1 rfl (by simp [Value.oneCell']) (by unfold maxLen; omega) (by omega) ?_
                    intro A5 c5 w5 h5 ho5 hk5
                    have HO5 := Lib.hid h5
                    have HB5 := Lib.hid (HB4.out.trans (ho5.below (B := w2.heap.size) (fun a ha => own_low HO4.out a (by simpa using ha)) z4))
                    clear h5 ho5 hk5 HO4 HB4 hg1
                    go_wp2
                    go_roundw
                    case rel => exact ⟨A5, m + 1, c5, e, x + sw, cur ++ [⟨nd, x, y + u - upZ hz, sw, hz, aq, ae + 1, n⟩], by go_num, by go_num, by go_num, by omega, by omega, by omega, HX2, Lib.hid (by simp [HM.out]), Lib.hid (by rw [List.flatMap_append]; exact HO5.out), HB5, Lib.hid (by have h := HP3.out; rw [HPC.out] at h; simpa using h)⟩
                    case measure => simp [intOf]; omega
                · have hqi : ¬ (q : Int) < t := by omega
                  have hP := HP.out
                  rw [ivI_end g (y + u) n t q x (by omega), List.map_nil, List.nil_append, ← HR.out] at hP
                  have HP3 := Lib.hid hP
                  have hy2 : y + u + d ≤ 2147483648 * ((n + 1 : Nat) : Int) := by omega
                  clear hP HP
                  go_wp2_with fail
                  go_roundw
                  case rel => exact ⟨A3, m, c3, n + 1, t + 1, y + u + d, cur, rfl, by go_num, by go_num, by omega, by omega, by omega, by omega, hy2, HNX, HM, HO, HB, HP3⟩
                  case measure => simp [intOf]; omega
    · have hli : ¬ (n : Int) < L.length := by omega
      have hP := HP.out
      have hD := HD.out
      rw [show n = L.length by omega] at hD
      rw [place_end rs g avail st align i n y (lines_last hD), List.map_nil, List.append_nil] at hP
      obtain ⟨h1, h2⟩ := hP
      have HY := Lib.hid h2
      have HC := Lib.hid h1
      clear h1 h2 hD HD HP
      go_wp2
      refine bodyPost_ret (v := .tuple #[.slice A3 m c3, .int .i64 y]) ?_ rfl ?_
      · simp [results, Try.results29, go_sem]
      · unfold PlacePost
        rw [← HC.out, ← HM.out]
        exact ⟨A3, c3, by rw [← HY.out], own_base HO.out B2.out.size, B2.out.trans (HB.out.mono B2.out.size)⟩
end Go.Proofs.Ytmlnpphblicghaa
