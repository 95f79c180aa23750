import Derived.Test.YteaenomfighaoaaZQ
import Derived.Test.YteaenomfighaoaaRefShareQ
import Derived.Deep.CutBlock
/- quoinref9.Along: where each one begins. -/
namespace Go.Proofs.Yteaenomfighaoaa
open Go Go.RowKit
set_option linter.unusedVariables false
set_option linter.unusedSimpArgs false
set_option maxRecDepth 20000
set_option maxHeartbeats 8000000

theorem i64n_info : (Try.prog.info? 2).map (fun i => (i.zero, i.size, i.bytes)) = some (some (.int .i64 0), 1, 8) := by kernel_rfl
/-- A row of another block stands while the gaps are written. -/
theorem Row.offG {w : World} {B g i : Nat} {A : Option Addr} {xs : List Value} {u : Value} (h : Row w B A xs) (hn : ∀ ad, A = some ad → ad.block ≠ g) : Row (w.setCell ⟨g, i, none⟩ u) B A xs := fun hx => by
  obtain ⟨ad, e, hb, hc⟩ := h hx
  refine ⟨ad, e, hb, fun k hk => ?_⟩
  rw [← hc k hk]
  exact World.cell?_of_block (w := w) (Below.heap_setCell w ⟨g, i, none⟩ u (ad.add k).block (by rw [add_block]; exact hn ad e))
theorem ralong_any (l : List Al) (A : Option Addr) (c : Nat) (inner j : Int) (rev : Bool) (W : World) (hR : Row W W.heap.size A (l.flatMap alC)) (hok : ∀ x ∈ l, AlOk x) (hl5 : l.length ≤ 100) (hi : -35184372088832 ≤ inner ∧ inner ≤ 35184372088832) :
    Calls Try.prog 11 #[.slice A l.length c, .int .i64 inner, .int .i64 j, .bool rev] W (AlPost inner l j rev W) := by
  have HR := Lib.hid hR
  have HOK := Lib.hid hok
  have FB := freeA_bd hok hl5 hi
  have NB := Lib.hid (fun k => needA_takebd hok hl5 k)
  have PB := Lib.hid (fun k (hk : k < l.length) => posA_bd (f := freeA inner l) (j := j) hok hl5 (by omega) hk)
  have PA := Lib.hid (placeA_len inner l j rev)
  unfold AlPost
  obtain ⟨n, hn⟩ : ∃ n, l.length = n := ⟨_, rfl⟩
  have HL := Lib.hid hn
  have AL := Lib.hid (autosA_le l)
  have AM := Lib.hid (fun k => autosA_mono l k)
  rw [hn] at hl5 ⊢
  clear hR hok hn
  obtain ⟨M2, hM0⟩ : ∃ M : Nat, 2 * (n : Int) = (M : Int) := ⟨2 * n, by omega⟩
  obtain ⟨N, hN⟩ : ∃ N : Nat, (M2 : Int) + 1 = (N : Int) := ⟨M2 + 1, by omega⟩
  have HN : Hid (2 * l.length + 1 = N) := Lib.hid (by rw [HL.out]; omega)
  have hN2 : 2 * n + 1 ≤ N ∧ N ≤ 2 * n + 1 := by omega
  obtain ⟨i0, hi0, hz0, hz1, hz2⟩ := info_parts i64n_info
  go_enter Try.func11, Try.ntmps11
  go_wp2_with fail
  go_loopw [10, 11, 12] (fun v10 v11 v12 wr => ∃ k m : Nat, v10 = .int .i64 (inner - needA (l.take k)) ∧ v11 = .int .i64 m ∧ v12 = .int .i64 k ∧ k ≤ n ∧ m ≤ 2 * k ∧ Hid (m = autosA (l.take k)) ∧ Hid (Below W.heap.size W wr)) (fun _ _ v12 _ => n - (intOf v12).toNat)
  case atStart => exact ⟨0, 0, by simp [needA], rfl, rfl, Nat.zero_le _, Nat.le_refl _, Lib.hid (by simp [autosA]), Lib.hid (Below.refl _ _)⟩
  case round =>
    generalize wr = w1 at *
    obtain ⟨k, m, rfl, rfl, rfl, hk, hm, HM, B1⟩ := hrel
    have n0 := NB.out k
    by_cases hlt : k < n
    · have hltz : (k : Int) < n := by omega
      have hkl : k < l.length := by rw [HL.out]; exact hlt
      obtain ⟨a1, rfl, hab1, d0, d1, d2, d3, d4⟩ := Row.al (HR.out.below B1.out) hkl
      have hx := HOK.out _ (List.getElem_mem hkl)
      have NT := Lib.hid (needA_take l hkl)
      have AT := Lib.hid (autosA_take l hkl)
      have n1 := NB.out (k + 1)
      rw [NT.out] at n1
      obtain ⟨x, hxe⟩ : ∃ x, l[k] = x := ⟨_, rfl⟩
      rw [hxe] at d0 d1 d2 d3 d4 hx NT AT n1
      clear hxe
      obtain ⟨s, hs⟩ : ∃ s, needA (l.take k) = s := ⟨_, rfl⟩
      rw [hs] at n0 n1 NT ⊢
      clear hs
      obtain ⟨⟨b0, b1⟩, ⟨a0, a9⟩, s0, s1⟩ := (show ((-1099511627776 ≤ x.b ∧ x.b ≤ 1099511627776) ∧ (-1099511627776 ≤ x.a ∧ x.a ≤ 1099511627776) ∧ 0 ≤ x.s ∧ x.s ≤ 1099511627776) from ⟨⟨hx.b0, hx.b1⟩, ⟨hx.a0, hx.a1⟩, hx.s0, hx.s1⟩)
      clear hx
      have q1 : -9223372036854775808 ≤ inner - s - x.b ∧ inner - s - x.b ≤ 9223372036854775807 := by omega
      have q2 : -9223372036854775808 ≤ inner - s - x.b - x.s ∧ inner - s - x.b - x.s ≤ 9223372036854775807 := by omega
      have q3 : -9223372036854775808 ≤ inner - s - x.b - x.s - x.a ∧ inner - s - x.b - x.s - x.a ≤ 9223372036854775807 := by omega
      have c0 : ∀ q, (w1.drewN q).cell? (a1.add (k * 5)) = some (.int .i64 x.b) := fun q => d0
      have c1 : ∀ q, (w1.drewN q).cell? ⟨(a1.add (k * 5)).block, (a1.add (k * 5)).off + 1, none⟩ = some (.int .i64 x.a) := fun q => d1
      have c2 : ∀ q, (w1.drewN q).cell? ⟨(a1.add (k * 5)).block, (a1.add (k * 5)).off + 2, none⟩ = some (.int .i64 x.s) := fun q => d2
      have D3 := Lib.hid d3
      have D4 := Lib.hid d4
      clear d0 d1 d2 d3 d4
      go_upto_region 7 with fail
      go_quiet (fail)
      have B2 := Lib.hid (Below.drewN' B1.out nq)
      have d3 : (w1.drewN nq).cell? ⟨(a1.add (k * 5)).block, (a1.add (k * 5)).off + 3, none⟩ = some (.bool x.ab) := D3.out
      have d4 : (w1.drewN nq).cell? ⟨(a1.add (k * 5)).block, (a1.add (k * 5)).off + 4, none⟩ = some (.bool x.aa) := D4.out
      clear B1 c0 c1 c2 D3 D4
      generalize w1.drewN nq = w2 at *
      have NT2 : Hid (inner - s - x.b - x.s - x.a = inner - needA (l.take (k + 1))) := Lib.hid (by rw [NT.out]; omega)
      rw [NT2.out]
      clear q1 q2 q3 n1 NT b0 b1 a0 a9 s0 s1
      obtain ⟨ab, hab⟩ : ∃ b, x.ab = b := ⟨_, rfl⟩
      obtain ⟨aa, haa⟩ : ∃ b, x.aa = b := ⟨_, rfl⟩
      rw [hab] at d3 AT
      rw [haa] at d4 AT
      clear hab haa
      cases ab <;> cases aa
      all_goals
        go_wp2_with fail
        go_roundw
        case measure => simp [intOf] <;> omega
      case rel => exact ⟨k + 1, m, rfl, by go_num, by go_num, by omega, by omega, Lib.hid (by rw [AT.out, HM.out]; rfl), B2⟩
      case rel => exact ⟨k + 1, m + 1, rfl, by go_num, by go_num, by omega, by omega, Lib.hid (by rw [AT.out, HM.out]; rfl), B2⟩
      case rel => exact ⟨k + 1, m + 1, rfl, by go_num, by go_num, by omega, by omega, Lib.hid (by rw [AT.out, HM.out]; rfl), B2⟩
      case rel => exact ⟨k + 1, m + 1 + 1, rfl, by go_num, by go_num, by omega, by omega, Lib.hid (by rw [AT.out, HM.out]; rfl), B2⟩
    · obtain rfl : n = k := by omega
      have hltz : ¬ (n : Int) < n := by omega
      have e1 : l.take n = l := List.take_of_length_le (by rw [HL.out]; omega)
      rw [e1] at HM
      rw [e1, show inner - needA l = freeA inner l from rfl]
      clear e1 n0
      have HMV := Lib.hid (show isAuto (freeA inner l) l = (decide (0 < freeA inner l) && decide (0 < m)) by unfold isAuto; rw [HM.out])
      obtain ⟨f, hf⟩ : ∃ f, freeA inner l = f := ⟨_, rfl⟩
      have HF := Lib.hid hf
      rw [hf] at FB PB HMV ⊢
      clear hf
      go_upto_region 13 with (at_make; refine wpList_make_full _ rfl _ _ 24 rfl W.heap.size 2 i0 (.int .i64 0) 1 Try.underlying24 hi0 hz0 hz1 .i64 .i64 _ _ N rfl rfl rfl rfl (by rw [hz2]; omega) (by unfold maxLen; omega) (by have := B1.out.size; omega) ?_; intro w2 q1 q2; have O1 := Lib.hid q1; have G1 := Lib.hid (Only.of_grown q2); clear q1 q2)
      have HM0 := Lib.hid hM0
      clear hi0 hz0 hz1 hz2 hN hM0
      have GR : Hid (RowG w2 W.heap.size 2 w1.heap.size N (noneV N)) := Lib.hid (by
        have e1 : (madeCells (Value.int .i64 0).cells (N * 1)).toList = List.replicate N (Value.int .i64 0) := by rw [Nat.mul_one]; exact toList_madeCells_one _ _
        have o := O1.out
        rw [e1] at o
        exact o)
      have BW : Hid (Below W.heap.size W w2) := Lib.hid (B1.out.trans (G1.out.below (by simp) B1.out.size))
      clear O1 G1 B1
      obtain ⟨gz, hgz⟩ : ∃ g, w1.heap.size = g := ⟨_, rfl⟩
      rw [hgz] at GR ⊢
      clear hgz
      have hgl := rowG_lt GR.out
      have HBB : ∀ b, (decide (0 < f) && decide (0 < m)) = b → isAuto f l = b := fun b h => by rw [HMV.out, h]
      have HBB := Lib.hid HBB
      go_upto_block 2 with fail
      go_cut [14, 15, 16, 17, 18, 19, 20, 21] from 71 to 182 (fun v14 v15 v16 v17 v18 v19 v20 v21 wx => ∃ st : Int, v14 = .int .i64 st ∧ Hid (st = startA f l j) ∧ Hid (RowG wx W.heap.size 2 gz N (i64s (gapL f l j))) ∧ Hid (Below W.heap.size W wx))
      case first =>
        clear PB PA NB HF
        by_cases haut : 0 < f ∧ 0 < m
        · obtain ⟨hf0, hm0⟩ := haut
          have zf : decide (f > 0) = true := decide_eq_true (by omega)
          have zc : decide ((m : Int) > 0) = true := decide_eq_true (by omega)
          have HA : Hid (isAuto f l = true) := Lib.hid (HBB.out true (by simp; omega))
          have SL := Lib.hid (ones_part (f := f) (m := m) (by omega) (by omega) (by omega))
          have hmn := AL.out
          rw [← HM.out, HL.out] at hmn
          go_wp2_with fail
          refine (rones_any m (by omega) _).mono ?_
          rintro e w3 ⟨A3, c3, rfl, o3, hb3⟩
          have R3 := Lib.hid (row_of_own o3)
          have G3 := Lib.hid (own_below GR.out hb3 (Nat.le_refl _))
          have B3 := Lib.hid (BW.out.trans (hb3.mono BW.out.size))
          have hs3 := hb3.size
          clear o3 hb3
          have SH := Lib.hid (rshare_own f A3 c3 (onesA m) w3 _ (Nat.le_refl _) R3.out (onesA_facts (by omega) (by omega) (by omega)))
          rw [onesA_len, SL.out.1] at SH
          go_wp2_with fail
          refine SH.out.mono ?_
          rintro e w4 ⟨A4, c4, rfl, o4, hb4⟩
          have G4 := Lib.hid (own_below G3.out hb4 (Nat.le_refl _))
          have O4 := Lib.hid o4
          have B4 := Lib.hid (B3.out.trans (hb4.mono B3.out.size))
          have PN : Hid (∀ g, (Value.slice A4 m c4).ownBlock = some g → g ≠ gz) := Lib.hid (fun g hg => by have := (o4.lt g hg).1; omega)
          clear o4 hb4 SH R3 G3 B3 BW GR
          obtain ⟨P, hP⟩ : ∃ P, shareZ f (onesA m) = P := ⟨_, rfl⟩
          rw [hP] at SL O4
          clear hP
          go_wp2_with fail
          go_loopw [16, 17] (fun v16 v17 wr => ∃ i cn : Nat, v16 = .int .i64 cn ∧ v17 = .int .i64 i ∧ i ≤ n ∧ Hid (cn = autosA (l.take i)) ∧ Hid (RowG wr W.heap.size 2 gz N (gapM f l j N (2 * i))) ∧ Hid (wr.ownsRow w3.heap.size 2 1 (.slice A4 m c4) m (i64s P)) ∧ Hid (Below W.heap.size W wr)) (fun _ v17 _ => n - (intOf v17).toNat)
          case atStart => exact ⟨0, 0, rfl, rfl, Nat.zero_le _, Lib.hid (by simp [autosA]), Lib.hid (by rw [gapM_zero]; exact G4.out), O4, B4⟩
          case round =>
            clear G4 O4 B4
            obtain ⟨i, cn, rfl, rfl, hi2, hcn2, G5, O5, B5⟩ := hrel
            generalize wr = w5 at *
            by_cases hlt : i < n
            · have hltz : (i : Int) < n := by omega
              have hkl : i < l.length := by rw [HL.out]; exact hlt
              obtain ⟨g4, hg4⟩ := own_head O5.out (by omega)
              subst hg4
              obtain ⟨a1, rfl, hab1, d0, d1, d2, d3, d4⟩ := Row.al (HR.out.below B5.out) hkl
              clear d0 d1 d2 d4
              have AT := Lib.hid (autosA_take l hkl)
              have hcn := AM.out (i + 1)
              rw [AT.out, ← hcn2.out, ← HM.out] at hcn
              have G1 : Hid (gap1 f l j i = if l[i].ab then partA f m cn else 0) := Lib.hid (by unfold gap1; rw [if_pos HA.out, getA Al.ab false hkl, ← HM.out, ← hcn2.out])
              have G2 : Hid (gap2 f l j i = if l[i].aa then partA f m (cn + bN l[i].ab) else 0) := Lib.hid (by unfold gap2; rw [if_pos HA.out, getA Al.ab false hkl, getA Al.aa false hkl, ← HM.out, ← hcn2.out])
              obtain ⟨u, hu⟩ : ∃ u : Nat, 2 * (i : Int) = (u : Int) := ⟨2 * i, by omega⟩
              obtain ⟨v, hv⟩ : ∃ v : Nat, (u : Int) + 1 = (v : Int) := ⟨u + 1, by omega⟩
              have hu2 : u ≤ 2 * i ∧ 2 * i ≤ u := by omega
              have hv2 : v ≤ u + 1 ∧ u + 1 ≤ v := by omega
              have hui : Hid (u = 2 * i) := Lib.hid (by omega)
              have hvi : Hid (v = 2 * i + 1) := Lib.hid (by omega)
              have uN : u < N := by omega
              have vN : v < N := by omega
              have uNz : (u : Int) < N := by omega
              have vNz : (v : Int) < N := by omega
              rw [← hui.out] at G5
              obtain ⟨ab, hab⟩ : ∃ b, l[i].ab = b := ⟨_, rfl⟩
              obtain ⟨aa, haa⟩ : ∃ b, l[i].aa = b := ⟨_, rfl⟩
              rw [hab] at d3 AT G1 G2 hcn
              rw [haa] at AT G2 hcn
              cases ab <;> cases aa <;> simp only [bN, if_true, if_false, Bool.false_eq_true, Nat.add_zero] at hcn
              · go_upto_region 23 with fail
                have G6 : Hid (RowG w5 W.heap.size 2 gz N (gapM f l j N (u + 1))) := Lib.hid (by
                  rw [gapM_stay HN.out uN (by rw [hui.out, gapT_1 f l j hkl, G1.out] <;> rfl)]; exact G5.out)
                have O6 := O5
                have B6 := B5
                clear G5 O5 B5
                generalize w5 = w6 at *
                obtain ⟨a7, he7, -, -, -, -, -, d4⟩ := (Row.al (HR.out.below B6.out) hkl)
                injection he7 with he7
                subst he7
                rw [haa] at d4
                rw [show u + 1 = v by omega] at G6
                go_upto_region 19 with fail
                have G7 : Hid (RowG w6 W.heap.size 2 gz N (gapM f l j N (v + 1))) := Lib.hid (by
                  rw [gapM_stay HN.out vN (by rw [hvi.out, gapT_2 f l j hkl, G2.out] <;> rfl)]; exact G6.out)
                have O7 := O6
                have B7 := B6
                clear G6 O6 B6
                generalize w6 = w7 at *
                rw [show v + 1 = 2 * (i + 1) by omega] at G7
                go_wp2_with fail
                go_roundw
                case rel => exact ⟨i + 1, cn, by go_num, by go_num, by omega, Lib.hid (by rw [AT.out, hcn2.out] <;> rfl), G7, O7, B7⟩
                case measure => simp [intOf] <;> omega
              · go_upto_region 23 with fail
                have G6 : Hid (RowG w5 W.heap.size 2 gz N (gapM f l j N (u + 1))) := Lib.hid (by
                  rw [gapM_stay HN.out uN (by rw [hui.out, gapT_1 f l j hkl, G1.out] <;> rfl)]; exact G5.out)
                have O6 := O5
                have B6 := B5
                clear G5 O5 B5
                generalize w5 = w6 at *
                obtain ⟨a7, he7, -, -, -, -, -, d4⟩ := (Row.al (HR.out.below B6.out) hkl)
                injection he7 with he7
                subst he7
                rw [haa] at d4
                rw [show u + 1 = v by omega] at G6
                obtain ⟨a4, he4, -, dp⟩ := Row.int (row_of_own O6.out) (k := cn) (by rw [SL.out.1]; omega)
                injection he4 with he4
                subst he4
                rw [SL.out.2 _ (by rw [SL.out.1]; omega), head_add] at dp
                have cu := rowG_cell (u := .int .i64 0) G6.out vN (by unfold gapM; rw [mixL_get (by rw [gapV_len f l j HN.out, noneV_len]) (by rw [noneV_len]; exact vN)]; simp [noneV])
                have fu := G6.out.frozenAt v
                go_upto_region 19 with fail
                have G7 : Hid (RowG (w6.setCell ⟨gz, v, none⟩ (.int .i64 (partA f m cn))) W.heap.size 2 gz N (gapM f l j N (v + 1))) := Lib.hid (by
                  rw [← gapM_set HN.out vN (by rw [hvi.out, gapT_2 f l j hkl, G2.out] <;> rfl)]; exact rowG_put G6.out v _)
                have O7 := Lib.hid (own_off O6.out (fun g hg => PN.out g hg) v (.int .i64 (partA f m cn)))
                have B7 := Lib.hid (below_put B6.out hgl.1 v (.int .i64 (partA f m cn)))
                clear dp cu fu G6 O6 B6
                generalize w6.setCell _ _ = w7 at *
                rw [show v + 1 = 2 * (i + 1) by omega] at G7
                go_wp2_with fail
                go_roundw
                case rel => exact ⟨i + 1, cn + 1, by go_num, by go_num, by omega, Lib.hid (by rw [AT.out, hcn2.out] <;> rfl), G7, O7, B7⟩
                case measure => simp [intOf] <;> omega
              · obtain ⟨a4, he4, -, dp⟩ := Row.int (row_of_own O5.out) (k := cn) (by rw [SL.out.1]; omega)
                injection he4 with he4
                subst he4
                rw [SL.out.2 _ (by rw [SL.out.1]; omega), head_add] at dp
                have cu := rowG_cell (u := .int .i64 0) G5.out uN (by unfold gapM; rw [mixL_get (by rw [gapV_len f l j HN.out, noneV_len]) (by rw [noneV_len]; exact uN)]; simp [noneV])
                have fu := G5.out.frozenAt u
                go_upto_region 23 with fail
                have G6 : Hid (RowG (w5.setCell ⟨gz, u, none⟩ (.int .i64 (partA f m cn))) W.heap.size 2 gz N (gapM f l j N (u + 1))) := Lib.hid (by
                  rw [← gapM_set HN.out uN (by rw [hui.out, gapT_1 f l j hkl, G1.out] <;> rfl)]; exact rowG_put G5.out u _)
                have O6 := Lib.hid (own_off O5.out (fun g hg => PN.out g hg) u (.int .i64 (partA f m cn)))
                have B6 := Lib.hid (below_put B5.out hgl.1 u (.int .i64 (partA f m cn)))
                clear dp cu fu G5 O5 B5
                generalize w5.setCell _ _ = w6 at *
                obtain ⟨a7, he7, -, -, -, -, -, d4⟩ := (Row.al (HR.out.below B6.out) hkl)
                injection he7 with he7
                subst he7
                rw [haa] at d4
                rw [show u + 1 = v by omega] at G6
                go_upto_region 19 with fail
                have G7 : Hid (RowG w6 W.heap.size 2 gz N (gapM f l j N (v + 1))) := Lib.hid (by
                  rw [gapM_stay HN.out vN (by rw [hvi.out, gapT_2 f l j hkl, G2.out] <;> rfl)]; exact G6.out)
                have O7 := O6
                have B7 := B6
                clear G6 O6 B6
                generalize w6 = w7 at *
                rw [show v + 1 = 2 * (i + 1) by omega] at G7
                go_wp2_with fail
                go_roundw
                case rel => exact ⟨i + 1, cn + 1, by go_num, by go_num, by omega, Lib.hid (by rw [AT.out, hcn2.out] <;> rfl), G7, O7, B7⟩
                case measure => simp [intOf] <;> omega
              · obtain ⟨a4, he4, -, dp⟩ := Row.int (row_of_own O5.out) (k := cn) (by rw [SL.out.1]; omega)
                injection he4 with he4
                subst he4
                rw [SL.out.2 _ (by rw [SL.out.1]; omega), head_add] at dp
                have cu := rowG_cell (u := .int .i64 0) G5.out uN (by unfold gapM; rw [mixL_get (by rw [gapV_len f l j HN.out, noneV_len]) (by rw [noneV_len]; exact uN)]; simp [noneV])
                have fu := G5.out.frozenAt u
                go_upto_region 23 with fail
                have G6 : Hid (RowG (w5.setCell ⟨gz, u, none⟩ (.int .i64 (partA f m cn))) W.heap.size 2 gz N (gapM f l j N (u + 1))) := Lib.hid (by
                  rw [← gapM_set HN.out uN (by rw [hui.out, gapT_1 f l j hkl, G1.out] <;> rfl)]; exact rowG_put G5.out u _)
                have O6 := Lib.hid (own_off O5.out (fun g hg => PN.out g hg) u (.int .i64 (partA f m cn)))
                have B6 := Lib.hid (below_put B5.out hgl.1 u (.int .i64 (partA f m cn)))
                clear dp cu fu G5 O5 B5
                generalize w5.setCell _ _ = w6 at *
                obtain ⟨a7, he7, -, -, -, -, -, d4⟩ := (Row.al (HR.out.below B6.out) hkl)
                injection he7 with he7
                subst he7
                rw [haa] at d4
                rw [show u + 1 = v by omega] at G6
                obtain ⟨a4, he4, -, dp⟩ := Row.int (row_of_own O6.out) (k := (cn + 1)) (by rw [SL.out.1]; omega)
                injection he4 with he4
                subst he4
                rw [SL.out.2 _ (by rw [SL.out.1]; omega), head_add] at dp
                have cu := rowG_cell (u := .int .i64 0) G6.out vN (by unfold gapM; rw [mixL_get (by rw [gapV_len f l j HN.out, noneV_len]) (by rw [noneV_len]; exact vN)]; simp [noneV])
                have fu := G6.out.frozenAt v
                go_upto_region 19 with fail
                have G7 : Hid (RowG (w6.setCell ⟨gz, v, none⟩ (.int .i64 (partA f m (cn + 1)))) W.heap.size 2 gz N (gapM f l j N (v + 1))) := Lib.hid (by
                  rw [← gapM_set HN.out vN (by rw [hvi.out, gapT_2 f l j hkl, G2.out] <;> rfl)]; exact rowG_put G6.out v _)
                have O7 := Lib.hid (own_off O6.out (fun g hg => PN.out g hg) v (.int .i64 (partA f m (cn + 1))))
                have B7 := Lib.hid (below_put B6.out hgl.1 v (.int .i64 (partA f m (cn + 1))))
                clear dp cu fu G6 O6 B6
                generalize w6.setCell _ _ = w7 at *
                rw [show v + 1 = 2 * (i + 1) by omega] at G7
                go_wp2_with fail
                go_roundw
                case rel => exact ⟨i + 1, cn + 1 + 1, by go_num, by go_num, by omega, Lib.hid (by rw [AT.out, hcn2.out] <;> rfl), G7, O7, B7⟩
                case measure => simp [intOf] <;> omega
            · obtain rfl : n = i := by omega
              have hltz : ¬ (n : Int) < n := by omega
              have SE : Hid ((0 : Int) = startA f l j) := Lib.hid (by unfold startA; rw [if_pos HA.out])
              have G6 : Hid (RowG w5 W.heap.size 2 gz N (i64s (gapL f l j))) := Lib.hid (by
                rw [← gapM_all HN.out (show 2 * n ≤ N by omega) (fun k h1 h2 => gapT_end f l j (by rw [HL.out]; exact h1))]; exact G5.out)
              clear G5 O5
              go_wp2_with fail
              go_meet
              exact ⟨0, rfl, SE, G6, B5⟩
        · by_cases hj1 : j = 1
          · have hj := hj1
            clear hj1
            by_cases hf0 : 0 < f
            · have hm1 : ¬ 0 < m := by omega
              have zf : decide (f > 0) = true := decide_eq_true (by omega)
              have zc : decide ((m : Int) > 0) = false := decide_eq_false (by omega)
              have ha : isAuto f l = false := HBB.out false (by simp; omega)
              have e1 : (j == 1) = true := by rw [beq_iff_eq]; omega
              have SE : Hid (f = startA f l j) := Lib.hid (by unfold startA; rw [ha]; simp only [Bool.false_eq_true, if_false]; rw [if_pos hj])
              have GE : Hid (noneV N = i64s (gapL f l j)) := Lib.hid (by rw [← gapM_zero (f := f) (l := l) (j := j), gapM_all HN.out (by omega) (fun k _ _ => gapT_none ha (by rw [HL.out]; omega) (by omega) k)])
              have HJ := Lib.hid hj
              clear hj ha
              clear HMV
              go_wp2_with fail
              go_meet
              exact ⟨_, rfl, SE, Lib.hid (by rw [← GE.out]; exact GR.out), BW⟩
            · have zf : decide (f > 0) = false := decide_eq_false (by omega)
              have ha : isAuto f l = false := HBB.out false (by simp; omega)
              have e1 : (j == 1) = true := by rw [beq_iff_eq]; omega
              have SE : Hid (f = startA f l j) := Lib.hid (by unfold startA; rw [ha]; simp only [Bool.false_eq_true, if_false]; rw [if_pos hj])
              have GE : Hid (noneV N = i64s (gapL f l j)) := Lib.hid (by rw [← gapM_zero (f := f) (l := l) (j := j), gapM_all HN.out (by omega) (fun k _ _ => gapT_none ha (by rw [HL.out]; omega) (by omega) k)])
              have HJ := Lib.hid hj
              clear hj ha
              clear HMV
              go_wp2_with fail
              go_meet
              exact ⟨_, rfl, SE, Lib.hid (by rw [← GE.out]; exact GR.out), BW⟩
          · by_cases hj2 : j = 2
            · have hj := hj2
              clear hj2
              by_cases hf0 : 0 < f
              · have hm1 : ¬ 0 < m := by omega
                have zf : decide (f > 0) = true := decide_eq_true (by omega)
                have zc : decide ((m : Int) > 0) = false := decide_eq_false (by omega)
                have ha : isAuto f l = false := HBB.out false (by simp; omega)
                have e1 : (j == 1) = false := by rw [beq_eq_false_iff_ne]; omega
                have e2 : (j == 2) = true := by rw [beq_iff_eq]; omega
                have SE : Hid (f / 2 = startA f l j) := Lib.hid (by unfold startA; rw [ha]; simp only [Bool.false_eq_true, if_false]; rw [if_neg (by omega), if_pos hj])
                have GE : Hid (noneV N = i64s (gapL f l j)) := Lib.hid (by rw [← gapM_zero (f := f) (l := l) (j := j), gapM_all HN.out (by omega) (fun k _ _ => gapT_none ha (by rw [HL.out]; omega) (by omega) k)])
                have HJ := Lib.hid hj
                clear hj ha
                go_wp2_with fail
                refine (rhalf_any f _ (by omega) (by omega)).mono ?_
                rintro e w' ⟨rfl, rfl⟩
                clear HMV
                go_wp2_with fail
                go_meet
                exact ⟨_, rfl, SE, Lib.hid (by rw [← GE.out]; exact GR.out), BW⟩
              · have zf : decide (f > 0) = false := decide_eq_false (by omega)
                have ha : isAuto f l = false := HBB.out false (by simp; omega)
                have e1 : (j == 1) = false := by rw [beq_eq_false_iff_ne]; omega
                have e2 : (j == 2) = true := by rw [beq_iff_eq]; omega
                have SE : Hid (f / 2 = startA f l j) := Lib.hid (by unfold startA; rw [ha]; simp only [Bool.false_eq_true, if_false]; rw [if_neg (by omega), if_pos hj])
                have GE : Hid (noneV N = i64s (gapL f l j)) := Lib.hid (by rw [← gapM_zero (f := f) (l := l) (j := j), gapM_all HN.out (by omega) (fun k _ _ => gapT_none ha (by rw [HL.out]; omega) (by omega) k)])
                have HJ := Lib.hid hj
                clear hj ha
                go_wp2_with fail
                refine (rhalf_any f _ (by omega) (by omega)).mono ?_
                rintro e w' ⟨rfl, rfl⟩
                clear HMV
                go_wp2_with fail
                go_meet
                exact ⟨_, rfl, SE, Lib.hid (by rw [← GE.out]; exact GR.out), BW⟩
            · by_cases hj3 : j = 3
              · have hj := hj3
                clear hj3
                by_cases hf0 : 0 < f
                · have hm1 : ¬ 0 < m := by omega
                  have zf : decide (f > 0) = true := decide_eq_true (by omega)
                  have zc : decide ((m : Int) > 0) = false := decide_eq_false (by omega)
                  have ha : isAuto f l = false := HBB.out false (by simp; omega)
                  have e1 : (j == 1) = false := by rw [beq_eq_false_iff_ne]; omega
                  have e2 : (j == 2) = false := by rw [beq_eq_false_iff_ne]; omega
                  have e3 : (j == 3) = true := by rw [beq_iff_eq]; omega
                  have e4 : (j == 4) = false := by rw [beq_eq_false_iff_ne]; omega
                  have SE : Hid ((0 : Int) = startA f l j) := Lib.hid (by unfold startA; rw [ha]; simp only [Bool.false_eq_true, if_false]; rw [if_neg (by omega), if_neg (by omega)])
                  by_cases hn1 : n > 1
                  · have zn : decide ((n : Int) > 1) = true := decide_eq_true (by omega)
                    have HJ := Lib.hid hj
                    have HA := Lib.hid ha
                    clear hj ha
                    obtain ⟨M, hM⟩ : ∃ M : Nat, (n : Int) - 1 = (M : Int) := ⟨n - 1, by omega⟩
                    have hM2 : M + 1 ≤ n ∧ n ≤ M + 1 := by omega
                    have SL := Lib.hid (ones_part (f := f) (m := M) (by omega) (by omega) (by omega))
                    go_wp2_with fail
                    refine (rones_any M (by omega) _).mono ?_
                    rintro e w3 ⟨A3, c3, rfl, o3, hb3⟩
                    have R3 := Lib.hid (row_of_own o3)
                    have G3 := Lib.hid (own_below GR.out hb3 (Nat.le_refl _))
                    have B3 := Lib.hid (BW.out.trans (hb3.mono BW.out.size))
                    have hs3 := hb3.size
                    clear o3 hb3
                    have SH := Lib.hid (rshare_own f A3 c3 (onesA M) w3 _ (Nat.le_refl _) R3.out (onesA_facts (by omega) (by omega) (by omega)))
                    rw [onesA_len, SL.out.1] at SH
                    go_wp2_with fail
                    refine SH.out.mono ?_
                    rintro e w4 ⟨A4, c4, rfl, o4, hb4⟩
                    have G4 := Lib.hid (own_below G3.out hb4 (Nat.le_refl _))
                    have O4 := Lib.hid o4
                    have B4 := Lib.hid (B3.out.trans (hb4.mono B3.out.size))
                    have PN : Hid (∀ g, (Value.slice A4 M c4).ownBlock = some g → g ≠ gz) := Lib.hid (fun g hg => by have := (o4.lt g hg).1; omega)
                    clear o4 hb4 SH R3 G3 B3 BW GR
                    obtain ⟨P, hP⟩ : ∃ P, shareZ f (onesA M) = P := ⟨_, rfl⟩
                    rw [hP] at SL O4
                    clear hP
                    go_wp2_with fail
                    go_loopw [19] (fun v19 wr => ∃ i : Nat, v19 = .int .i64 i ∧ i ≤ M ∧ Hid (RowG wr W.heap.size 2 gz N (gapM f l j N (2 * i))) ∧ Hid (wr.ownsRow w3.heap.size 2 1 (.slice A4 M c4) M (i64s P)) ∧ Hid (Below W.heap.size W wr)) (fun v19 _ => n - (intOf v19).toNat)
                    case atStart => exact ⟨0, rfl, Nat.zero_le _, Lib.hid (by rw [gapM_zero]; exact G4.out), O4, B4⟩
                    case round =>
                      clear G4 O4 B4
                      obtain ⟨i, rfl, hi2, G5, O5, B5⟩ := hrel
                      generalize wr = w5 at *
                      by_cases hlt : i < M
                      · have hltz : (i : Int) + 1 < n := by omega
                        have hkl : i < l.length := by rw [HL.out]; omega
                        obtain ⟨g4, hg4⟩ := own_head O5.out (by omega)
                        subst hg4
                        obtain ⟨u, hu⟩ : ∃ u : Nat, 2 * (i : Int) = (u : Int) := ⟨2 * i, by omega⟩
                        obtain ⟨v, hv⟩ : ∃ v : Nat, (u : Int) + 1 = (v : Int) := ⟨u + 1, by omega⟩
                        have hu2 : u ≤ 2 * i ∧ 2 * i ≤ u := by omega
                        have hv2 : v ≤ u + 1 ∧ u + 1 ≤ v := by omega
                        have hui : Hid (u = 2 * i) := Lib.hid (by omega)
                        have hvi : Hid (v = 2 * i + 1) := Lib.hid (by omega)
                        have uN : u < N := by omega
                        have vN : v < N := by omega
                        have uNz : (u : Int) < N := by omega
                        have vNz : (v : Int) < N := by omega
                        rw [← hui.out] at G5
                        have E1 : Hid (gapT f l j u = 0) := Lib.hid (by rw [hui.out, gapT_1 f l j hkl]; unfold gap1; rw [HA.out]; simp only [Bool.false_eq_true, if_false]; rw [if_neg (by have := HJ.out; omega)])
                        have E2 : Hid (gapT f l j v = partA f M i) := Lib.hid (by
                          rw [hvi.out, gapT_2 f l j hkl]; unfold gap2; rw [HA.out]; simp only [Bool.false_eq_true, if_false]
                          rw [if_pos ⟨HJ.out, by omega, by rw [HL.out]; omega⟩, if_pos (by rw [HL.out]; omega), HL.out, show n - 1 = M by omega])
                        have G6 : Hid (RowG w5 W.heap.size 2 gz N (gapM f l j N (u + 1))) := Lib.hid (by
                          rw [gapM_stay HN.out uN (E1.out)]; exact G5.out)
                        have O6 := O5
                        have B6 := B5
                        clear G5 O5 B5
                        generalize w5 = w6 at *
                        rw [show u + 1 = v by omega] at G6
                        obtain ⟨a4, he4, -, dp⟩ := Row.int (row_of_own O6.out) (k := i) (by rw [SL.out.1]; omega)
                        injection he4 with he4
                        subst he4
                        rw [SL.out.2 _ (by rw [SL.out.1]; omega), head_add] at dp
                        have cu := rowG_cell (u := .int .i64 0) G6.out vN (by unfold gapM; rw [mixL_get (by rw [gapV_len f l j HN.out, noneV_len]) (by rw [noneV_len]; exact vN)]; simp [noneV])
                        have fu := G6.out.frozenAt v
                        go_upto_region 34 with fail
                        have G7 : Hid (RowG (w6.setCell ⟨gz, v, none⟩ (.int .i64 (partA f M i))) W.heap.size 2 gz N (gapM f l j N (v + 1))) := Lib.hid (by
                          rw [← gapM_set HN.out vN (E2.out)]; exact rowG_put G6.out v _)
                        have O7 := Lib.hid (own_off O6.out (fun g hg => PN.out g hg) v (.int .i64 (partA f M i)))
                        have B7 := Lib.hid (below_put B6.out hgl.1 v (.int .i64 (partA f M i)))
                        clear dp cu fu G6 O6 B6
                        generalize w6.setCell _ _ = w7 at *
                        rw [show v + 1 = 2 * (i + 1) by omega] at G7
                        go_wp2_with fail
                        go_roundw
                        case rel => exact ⟨i + 1, by go_num, by omega, G7, O7, B7⟩
                        case measure => simp [intOf] <;> omega
                      · obtain rfl : M = i := by omega
                        have hltz : ¬ (M : Int) + 1 < n := by omega
                        have G6 : Hid (RowG w5 W.heap.size 2 gz N (i64s (gapL f l j))) := Lib.hid (by
                          rw [← gapM_all HN.out (show 2 * M ≤ N by omega) (fun k h1 h2 => by
                            by_cases h3 : 2 * l.length ≤ k
                            · exact gapT_end f l j h3
                            · have hh := HL.out
                              unfold gapT
                              rw [if_pos (by omega), show k / 2 = M by omega]
                              split
                              · unfold gap1; rw [HA.out]; simp only [Bool.false_eq_true, if_false]; rw [if_neg (by have := HJ.out; omega)]
                              · unfold gap2; rw [HA.out]; simp only [Bool.false_eq_true, if_false]; rw [if_pos ⟨HJ.out, by omega, by omega⟩, if_neg (by omega)])]; exact G5.out)
                        clear G5 O5
                        go_wp2_with fail
                        go_meet
                        exact ⟨0, rfl, SE, G6, B5⟩
                  · have zn : decide ((n : Int) > 1) = false := decide_eq_false (by omega)
                    have GE : Hid (noneV N = i64s (gapL f l j)) := Lib.hid (by rw [← gapM_zero (f := f) (l := l) (j := j), gapM_all HN.out (by omega) (fun k _ _ => gapT_none ha (by rw [HL.out]; omega) (by omega) k)])
                    have HJ := Lib.hid hj
                    clear hj ha
                    clear HMV
                    go_wp2_with fail
                    go_meet
                    exact ⟨_, rfl, SE, Lib.hid (by rw [← GE.out]; exact GR.out), BW⟩
                · have zf : decide (f > 0) = false := decide_eq_false (by omega)
                  have ha : isAuto f l = false := HBB.out false (by simp; omega)
                  have e1 : (j == 1) = false := by rw [beq_eq_false_iff_ne]; omega
                  have e2 : (j == 2) = false := by rw [beq_eq_false_iff_ne]; omega
                  have e3 : (j == 3) = true := by rw [beq_iff_eq]; omega
                  have e4 : (j == 4) = false := by rw [beq_eq_false_iff_ne]; omega
                  have SE : Hid ((0 : Int) = startA f l j) := Lib.hid (by unfold startA; rw [ha]; simp only [Bool.false_eq_true, if_false]; rw [if_neg (by omega), if_neg (by omega)])
                  have GE : Hid (noneV N = i64s (gapL f l j)) := Lib.hid (by rw [← gapM_zero (f := f) (l := l) (j := j), gapM_all HN.out (by omega) (fun k _ _ => gapT_none ha (by rw [HL.out]; omega) (by omega) k)])
                  have HJ := Lib.hid hj
                  clear hj ha
                  clear HMV
                  go_wp2_with fail
                  go_meet
                  exact ⟨_, rfl, SE, Lib.hid (by rw [← GE.out]; exact GR.out), BW⟩
              · by_cases hj4 : j = 4
                · have hj := hj4
                  clear hj4
                  by_cases hf0 : 0 < f
                  · have hm1 : ¬ 0 < m := by omega
                    have zf : decide (f > 0) = true := decide_eq_true (by omega)
                    have zc : decide ((m : Int) > 0) = false := decide_eq_false (by omega)
                    have ha : isAuto f l = false := HBB.out false (by simp; omega)
                    have e1 : (j == 1) = false := by rw [beq_eq_false_iff_ne]; omega
                    have e2 : (j == 2) = false := by rw [beq_eq_false_iff_ne]; omega
                    have e3 : (j == 3) = false := by rw [beq_eq_false_iff_ne]; omega
                    have e4 : (j == 4) = true := by rw [beq_iff_eq]; omega
                    have SE : Hid ((0 : Int) = startA f l j) := Lib.hid (by unfold startA; rw [ha]; simp only [Bool.false_eq_true, if_false]; rw [if_neg (by omega), if_neg (by omega)])
                    have HJ := Lib.hid hj
                    have HA := Lib.hid ha
                    clear hj ha
                    generalize M2 = M at *
                    have hM := HM0.out
                    have hM2 : M ≤ 2 * n ∧ 2 * n ≤ M := by omega
                    have SL := Lib.hid (ones_part (f := f) (m := M) (by omega) (by omega) (by omega))
                    go_wp2_with fail
                    refine (rones_any M (by omega) _).mono ?_
                    rintro e w3 ⟨A3, c3, rfl, o3, hb3⟩
                    have R3 := Lib.hid (row_of_own o3)
                    have G3 := Lib.hid (own_below GR.out hb3 (Nat.le_refl _))
                    have B3 := Lib.hid (BW.out.trans (hb3.mono BW.out.size))
                    have hs3 := hb3.size
                    clear o3 hb3
                    have SH := Lib.hid (rshare_own f A3 c3 (onesA M) w3 _ (Nat.le_refl _) R3.out (onesA_facts (by omega) (by omega) (by omega)))
                    rw [onesA_len, SL.out.1] at SH
                    go_wp2_with fail
                    refine SH.out.mono ?_
                    rintro e w4 ⟨A4, c4, rfl, o4, hb4⟩
                    have G4 := Lib.hid (own_below G3.out hb4 (Nat.le_refl _))
                    have O4 := Lib.hid o4
                    have B4 := Lib.hid (B3.out.trans (hb4.mono B3.out.size))
                    have PN : Hid (∀ g, (Value.slice A4 M c4).ownBlock = some g → g ≠ gz) := Lib.hid (fun g hg => by have := (o4.lt g hg).1; omega)
                    clear o4 hb4 SH R3 G3 B3 BW GR
                    obtain ⟨P, hP⟩ : ∃ P, shareZ f (onesA M) = P := ⟨_, rfl⟩
                    rw [hP] at SL O4
                    clear hP
                    go_wp2_with fail
                    go_loopw [21] (fun v21 wr => ∃ i : Nat, v21 = .int .i64 i ∧ i ≤ M ∧ Hid (RowG wr W.heap.size 2 gz N (gapM f l j N i)) ∧ Hid (wr.ownsRow w3.heap.size 2 1 (.slice A4 M c4) M (i64s P)) ∧ Hid (Below W.heap.size W wr)) (fun v21 _ => M - (intOf v21).toNat)
                    case atStart => exact ⟨0, rfl, Nat.zero_le _, Lib.hid (by rw [gapM_zero]; exact G4.out), O4, B4⟩
                    case round =>
                      clear G4 O4 B4
                      obtain ⟨i, rfl, hi2, G5, O5, B5⟩ := hrel
                      generalize wr = w5 at *
                      by_cases hlt : i < M
                      · have hltz : (i : Int) < M := by omega
                        have iN : i < N := by omega
                        have iNz : (i : Int) < N := by omega
                        obtain ⟨g4, hg4⟩ := own_head O5.out (by omega)
                        subst hg4
                        have E1 : Hid (gapT f l j i = partA f M i) := Lib.hid (by
                          have hh := HL.out
                          unfold gapT
                          rw [if_pos (by omega)]
                          split
                          · unfold gap1; rw [HA.out]; simp only [Bool.false_eq_true, if_false]; rw [if_pos ⟨HJ.out, by omega⟩, show 2 * l.length = M by omega, show 2 * (i / 2) = i by omega]
                          · unfold gap2; rw [HA.out]; simp only [Bool.false_eq_true, if_false]; rw [if_neg (by have := HJ.out; omega), if_pos ⟨HJ.out, by omega⟩, show 2 * l.length = M by omega, show 2 * (i / 2) + 1 = i by omega])
                        obtain ⟨a4, he4, -, dp⟩ := Row.int (row_of_own O5.out) (k := i) (by rw [SL.out.1]; omega)
                        injection he4 with he4
                        subst he4
                        rw [SL.out.2 _ (by rw [SL.out.1]; omega), head_add] at dp
                        have cu := rowG_cell (u := .int .i64 0) G5.out iN (by unfold gapM; rw [mixL_get (by rw [gapV_len f l j HN.out, noneV_len]) (by rw [noneV_len]; exact iN)]; simp [noneV])
                        have fu := G5.out.frozenAt i
                        go_upto_region 40 with fail
                        have G6 : Hid (RowG (w5.setCell ⟨gz, i, none⟩ (.int .i64 (partA f M i))) W.heap.size 2 gz N (gapM f l j N (i + 1))) := Lib.hid (by
                          rw [← gapM_set HN.out iN (E1.out)]; exact rowG_put G5.out i _)
                        have O6 := Lib.hid (own_off O5.out (fun g hg => PN.out g hg) i (.int .i64 (partA f M i)))
                        have B6 := Lib.hid (below_put B5.out hgl.1 i (.int .i64 (partA f M i)))
                        clear dp cu fu G5 O5 B5
                        generalize w5.setCell _ _ = w6 at *
                        go_wp2_with fail
                        go_roundw
                        case rel => exact ⟨i + 1, by go_num, by omega, G6, O6, B6⟩
                        case measure => simp [intOf] <;> omega
                      · obtain rfl : M = i := by omega
                        have hltz : ¬ (M : Int) < M := by omega
                        have G6 : Hid (RowG w5 W.heap.size 2 gz N (i64s (gapL f l j))) := Lib.hid (by
                          rw [← gapM_all HN.out (show M ≤ N by omega) (fun k h1 h2 => gapT_end f l j (by rw [HL.out]; omega))]; exact G5.out)
                        clear G5 O5
                        go_wp2_with fail
                        go_meet
                        exact ⟨0, rfl, SE, G6, B5⟩
                  · have zf : decide (f > 0) = false := decide_eq_false (by omega)
                    have ha : isAuto f l = false := HBB.out false (by simp; omega)
                    have e1 : (j == 1) = false := by rw [beq_eq_false_iff_ne]; omega
                    have e2 : (j == 2) = false := by rw [beq_eq_false_iff_ne]; omega
                    have e3 : (j == 3) = false := by rw [beq_eq_false_iff_ne]; omega
                    have e4 : (j == 4) = true := by rw [beq_iff_eq]; omega
                    have SE : Hid ((0 : Int) = startA f l j) := Lib.hid (by unfold startA; rw [ha]; simp only [Bool.false_eq_true, if_false]; rw [if_neg (by omega), if_neg (by omega)])
                    have GE : Hid (noneV N = i64s (gapL f l j)) := Lib.hid (by rw [← gapM_zero (f := f) (l := l) (j := j), gapM_all HN.out (by omega) (fun k _ _ => gapT_none ha (by rw [HL.out]; omega) (by omega) k)])
                    have HJ := Lib.hid hj
                    clear hj ha
                    clear HMV
                    go_wp2_with fail
                    go_meet
                    exact ⟨_, rfl, SE, Lib.hid (by rw [← GE.out]; exact GR.out), BW⟩
                · have hj : j ≠ 1 ∧ j ≠ 2 ∧ j ≠ 3 ∧ j ≠ 4 := ⟨hj1, hj2, hj3, hj4⟩
                  clear hj1 hj2 hj3 hj4
                  by_cases hf0 : 0 < f
                  · have hm1 : ¬ 0 < m := by omega
                    have zf : decide (f > 0) = true := decide_eq_true (by omega)
                    have zc : decide ((m : Int) > 0) = false := decide_eq_false (by omega)
                    have ha : isAuto f l = false := HBB.out false (by simp; omega)
                    have e1 : (j == 1) = false := by rw [beq_eq_false_iff_ne]; omega
                    have e2 : (j == 2) = false := by rw [beq_eq_false_iff_ne]; omega
                    have e3 : (j == 3) = false := by rw [beq_eq_false_iff_ne]; omega
                    have e4 : (j == 4) = false := by rw [beq_eq_false_iff_ne]; omega
                    have SE : Hid ((0 : Int) = startA f l j) := Lib.hid (by unfold startA; rw [ha]; simp only [Bool.false_eq_true, if_false]; rw [if_neg (by omega), if_neg (by omega)])
                    have GE : Hid (noneV N = i64s (gapL f l j)) := Lib.hid (by rw [← gapM_zero (f := f) (l := l) (j := j), gapM_all HN.out (by omega) (fun k _ _ => gapT_none ha (by rw [HL.out]; omega) (by omega) k)])
                    have HJ := Lib.hid hj
                    clear hj ha
                    clear HMV
                    go_wp2_with fail
                    go_meet
                    exact ⟨_, rfl, SE, Lib.hid (by rw [← GE.out]; exact GR.out), BW⟩
                  · have zf : decide (f > 0) = false := decide_eq_false (by omega)
                    have ha : isAuto f l = false := HBB.out false (by simp; omega)
                    have e1 : (j == 1) = false := by rw [beq_eq_false_iff_ne]; omega
                    have e2 : (j == 2) = false := by rw [beq_eq_false_iff_ne]; omega
                    have e3 : (j == 3) = false := by rw [beq_eq_false_iff_ne]; omega
                    have e4 : (j == 4) = false := by rw [beq_eq_false_iff_ne]; omega
                    have SE : Hid ((0 : Int) = startA f l j) := Lib.hid (by unfold startA; rw [ha]; simp only [Bool.false_eq_true, if_false]; rw [if_neg (by omega), if_neg (by omega)])
                    have GE : Hid (noneV N = i64s (gapL f l j)) := Lib.hid (by rw [← gapM_zero (f := f) (l := l) (j := j), gapM_all HN.out (by omega) (fun k _ _ => gapT_none ha (by rw [HL.out]; omega) (by omega) k)])
                    have HJ := Lib.hid hj
                    clear hj ha
                    clear HMV
                    go_wp2_with fail
                    go_meet
                    exact ⟨_, rfl, SE, Lib.hid (by rw [← GE.out]; exact GR.out), BW⟩
      case rest =>
        obtain ⟨st, rfl, HST, GR, BW⟩ := hcut
        clear hgl
        go_wp2_with fail
        go_wp2_with fail
        go_loopw [22, 23, 24] (fun v22 v23 v24 wr => ∃ (k : Nat) (A' : Option Addr) (c' : Nat), v22 = .slice A' k c' ∧ v23 = .int .i64 (atA f l j k) ∧ v24 = .int .i64 k ∧ k ≤ n ∧ Hid (wr.ownsRow wc.heap.size 2 1 (.slice A' k c') k (i64s ((placeA inner l j rev).take k))) ∧ Hid (Below wc.heap.size wc wr)) (fun _ _ v24 _ => n - (intOf v24).toNat)
        case atStart => exact ⟨0, none, 0, rfl, by rw [atA_zero, HST.out], rfl, Nat.zero_le _, Lib.hid ⟨rfl, .inl ⟨rfl, rfl⟩⟩, Lib.hid (Below.refl _ _)⟩
        case round =>
          obtain ⟨k, A5, c5, rfl, rfl, rfl, hk, O, B⟩ := hrel
          generalize wr = w5 at *
          by_cases hlt : k < n
          · have hltz : (k : Int) < n := by omega
            have hkl : k < l.length := by rw [HL.out]; exact hlt
            have PK := PB.out k hkl
            have BX := Lib.hid (BW.out.trans (B.out.mono BW.out.size))
            obtain ⟨a1, rfl, hab1, d0, d1, d2, d3, d4⟩ := Row.al (HR.out.below BX.out) hkl
            have hx := HOK.out _ (List.getElem_mem hkl)
            have i := k
            obtain ⟨u, hu⟩ : ∃ u : Nat, 2 * (k : Int) = (u : Int) := ⟨2 * k, by omega⟩
            obtain ⟨v, hv⟩ : ∃ v : Nat, (u : Int) + 1 = (v : Int) := ⟨u + 1, by omega⟩
            have uN : u < N := by omega
            have vN : v < N := by omega
            have uNz : (u : Int) < N := by omega
            have vNz : (v : Int) < N := by omega
            have GX := Lib.hid (own_below GR.out B.out (Nat.le_refl _))
            have eu := rowG_cell (u := .int .i64 (gap1 f l j k)) GX.out uN (by rw [show u = 2 * k by omega, gapV_get f l j (by rw [HL.out]; omega), gapT_1 f l j hkl])
            have ev := rowG_cell (u := .int .i64 (gap2 f l j k)) GX.out vN (by rw [show v = 2 * k + 1 by omega, gapV_get f l j (by rw [HL.out]; omega), gapT_2 f l j hkl])
            have HP : Hid (posA f l j k = atA f l j k + gap1 f l j k + l[k].b) := Lib.hid (by unfold posA; rw [getA Al.b 0 hkl])
            have HT := Lib.hid (atA_succ f l j hkl)
            have PT : Hid ((placeA inner l j rev).take (k + 1) = (placeA inner l j rev).take k ++ [if rev then inner - posA f l j k - l[k].s else posA f l j k]) := Lib.hid (by
              have h' : k < (placeA inner l j rev).length := by rw [placeA_len]; exact hkl
              rw [List.take_succ_eq_append_getElem h', placeA_get inner l j rev hkl, HF.out])
            obtain ⟨x, hxe⟩ : ∃ x, l[k] = x := ⟨_, rfl⟩
            rw [hxe] at d0 d1 d2 hx HP HT PT
            obtain ⟨T, hT⟩ : ∃ T, atA f l j k = T := ⟨_, rfl⟩
            obtain ⟨g1, hg1⟩ : ∃ g, gap1 f l j k = g := ⟨_, rfl⟩
            obtain ⟨g2, hg2⟩ : ∃ g, gap2 f l j k = g := ⟨_, rfl⟩
            obtain ⟨p, hp⟩ : ∃ p, posA f l j k = p := ⟨_, rfl⟩
            obtain ⟨P1, P2, P3, P4, P5, P6, P7, P8⟩ := PK
            rw [hT] at P1 P2 HP ⊢
            rw [hg1] at P3 P4 HP eu
            rw [hg2] at P5 P6 HT ev
            rw [hp] at P7 P8 HP HT PT
            clear hxe hT hg1 hg2 hp d3 d4
            have b0 := hx.b0
            have b1 := hx.b1
            have a0 := hx.a0
            have a9 := hx.a1
            have s0 := hx.s0
            have s1 := hx.s1
            clear hx
            have q1 : -9223372036854775808 ≤ T + g1 ∧ T + g1 ≤ 9223372036854775807 := by omega
            have q2 : -9223372036854775808 ≤ T + g1 + x.b ∧ T + g1 + x.b ≤ 9223372036854775807 := by omega
            have q3 : -9223372036854775808 ≤ p + x.s ∧ p + x.s ≤ 9223372036854775807 := by omega
            have q4 : -9223372036854775808 ≤ p + x.s + x.a ∧ p + x.s + x.a ≤ 9223372036854775807 := by omega
            have q5 : -9223372036854775808 ≤ p + x.s + x.a + g2 ∧ p + x.s + x.a + g2 ≤ 9223372036854775807 := by omega
            have q6 : -9223372036854775808 ≤ inner - p ∧ inner - p ≤ 9223372036854775807 := by omega
            have q7 : -9223372036854775808 ≤ inner - p - x.s ∧ inner - p - x.s ≤ 9223372036854775807 := by omega
            have c0 : ∀ q, (w5.drewN q).cell? (a1.add (k * 5)) = some (.int .i64 x.b) := fun q => d0
            have cu : ∀ q, (w5.drewN q).cell? ⟨gz, u, none⟩ = some (.int .i64 g1) := fun q => eu
            have D1 := Lib.hid d1
            have D2 := Lib.hid d2
            have EV := Lib.hid ev
            clear d0 d1 d2 eu ev
            go_upto_region 47 with fail
            go_quiet (fail)
            rw [← HP.out]
            have O2 := Lib.hid (own_below O.out (Below.drewN' (Below.refl _ w5) nq) (Nat.le_refl _))
            have B2 := Lib.hid (Below.drewN' B.out nq)
            have d1 : (w5.drewN nq).cell? ⟨(a1.add (k * 5)).block, (a1.add (k * 5)).off + 1, none⟩ = some (.int .i64 x.a) := D1.out
            have d2 : (w5.drewN nq).cell? ⟨(a1.add (k * 5)).block, (a1.add (k * 5)).off + 2, none⟩ = some (.int .i64 x.s) := D2.out
            have ev : (w5.drewN nq).cell? ⟨gz, v, none⟩ = some (.int .i64 g2) := EV.out
            clear c0 cu D1 D2 EV O B q1 q2 GX BX HP
            generalize w5.drewN nq = w6 at *
            have c1 : ∀ q, (w6.drewN q).cell? ⟨(a1.add (k * 5)).block, (a1.add (k * 5)).off + 1, none⟩ = some (.int .i64 x.a) := fun q => d1
            have c2 : ∀ q, (w6.drewN q).cell? ⟨(a1.add (k * 5)).block, (a1.add (k * 5)).off + 2, none⟩ = some (.int .i64 x.s) := fun q => d2
            have cv : ∀ q, (w6.drewN q).cell? ⟨gz, v, none⟩ = some (.int .i64 g2) := fun q => ev
            have D2 := Lib.hid d2
            clear d1 d2 ev
            go_upto_region 48 with fail
            go_quiet (fail)
            rw [← HT.out]
            have O3 := Lib.hid (own_below O2.out (Below.drewN' (Below.refl _ w6) nq) (Nat.le_refl _))
            have B3 := Lib.hid (Below.drewN' B2.out nq)
            have d2 : (w6.drewN nq).cell? ⟨(a1.add (k * 5)).block, (a1.add (k * 5)).off + 2, none⟩ = some (.int .i64 x.s) := D2.out
            clear c1 c2 cv D2 O2 B2 q3 q4 q5
            generalize w6.drewN nq = w7 at *
            have fin : ∀ z : Int, z = (if rev then inner - p - x.s else p) → Hid (i64s ((placeA inner l j rev).take (k + 1)) = i64s ((placeA inner l j rev).take k) ++ [.int .i64 z]) := fun z hz => Lib.hid (by rw [PT.out, i64s_append, hz]; rfl)
            have FIN := Lib.hid fin
            clear fin PT
            cases rev
            · have ES := FIN.out p rfl
              clear FIN
              have O5 := Lib.hid (own_below O3.out ((Below.refl _ w7).alloc (Nat.le_refl _) (.cells #[.int .i64 (p)] 2)) (Nat.le_refl _))
              have B5 := Lib.hid (B3.out.alloc B3.out.size (.cells #[.int .i64 (p)] 2))
              have W5 := Lib.hid (Whole.mk w7 2 #[.int .i64 (p)])
              clear O3 B3
              go_upto_region 46 with (at_builtin; refine wpList_pushOne rfl (.tmp 232) (.tmp 234) _ rfl wc.heap.size 2 1 8 (.int .i64 0) Try.underlying24 i64n_info rfl (by decide) k (.slice A5 k c5) _ rfl O5.out B5.out.size w7.heap.size [.int .i64 (p)] rfl W5.out rfl (by simp [Value.oneCell']) (by unfold maxLen; omega) (by omega) ?_; intro A6 c6 w8 h5 ho5 hk5)
              have O7 : Hid (w8.ownsRow wc.heap.size 2 1 (.slice A6 (k + 1) c6) (k + 1) (i64s ((placeA inner l j false).take (k + 1)))) := Lib.hid (by rw [ES.out]; exact h5)
              have B7 := Lib.hid (own_push O5.out B5.out B5.out.size ho5)
              clear h5 ho5 hk5 O5 B5 W5
              go_wp2_with fail
              go_roundw
              case rel => exact ⟨k + 1, A6, c6, by go_num, rfl, by go_num, by omega, O7, B7⟩
              case measure => simp [intOf] <;> omega
            · have ES := FIN.out (inner - p - x.s) rfl
              clear FIN
              have O5 := Lib.hid (own_below O3.out ((Below.refl _ w7).alloc (Nat.le_refl _) (.cells #[.int .i64 (inner - p - x.s)] 2)) (Nat.le_refl _))
              have B5 := Lib.hid (B3.out.alloc B3.out.size (.cells #[.int .i64 (inner - p - x.s)] 2))
              have W5 := Lib.hid (Whole.mk w7 2 #[.int .i64 (inner - p - x.s)])
              clear O3 B3
              go_upto_region 46 with (at_builtin; refine wpList_pushOne rfl (.tmp 232) (.tmp 234) _ rfl wc.heap.size 2 1 8 (.int .i64 0) Try.underlying24 i64n_info rfl (by decide) k (.slice A5 k c5) _ rfl O5.out B5.out.size w7.heap.size [.int .i64 (inner - p - x.s)] rfl W5.out rfl (by simp [Value.oneCell']) (by unfold maxLen; omega) (by omega) ?_; intro A6 c6 w8 h5 ho5 hk5)
              have O7 : Hid (w8.ownsRow wc.heap.size 2 1 (.slice A6 (k + 1) c6) (k + 1) (i64s ((placeA inner l j true).take (k + 1)))) := Lib.hid (by rw [ES.out]; exact h5)
              have B7 := Lib.hid (own_push O5.out B5.out B5.out.size ho5)
              clear h5 ho5 hk5 O5 B5 W5
              go_wp2_with fail
              go_roundw
              case rel => exact ⟨k + 1, A6, c6, by go_num, rfl, by go_num, by omega, O7, B7⟩
              case measure => simp [intOf] <;> omega
          · obtain rfl : n = k := by omega
            have hltz : ¬ (n : Int) < n := by omega
            have e1 : (placeA inner l j rev).take n = placeA inner l j rev := List.take_of_length_le (by rw [PA.out, HL.out]; omega)
            rw [e1] at O
            have B4 := Lib.hid (BW.out.trans (B.out.mono BW.out.size))
            have bl := BW.out.size
            go_wp2_with fail
            go_ret
            exact ⟨A5, c5, rfl, own_raise O.out (fun g hg => Nat.le_trans bl (own_low O.out g hg)), B4.out⟩
end Go.Proofs.Yteaenomfighaoaa
