import Derived.Test.YtpnpmellohacoaaDoorPlaysMem
import Derived.Deep.CutRange
/- PoolPlays' walk. -/
namespace Go.Proofs.YtpnpmellohacoaaDoor
open Go Go.RowKit
set_option linter.unusedVariables false
set_option linter.unusedSimpArgs false

theorem maskW (n : Int) : bits .and .i64 n 65535 = n % 65536 := and_mask_i64 n 16 (by decide)
theorem pickW (n : Int) (M : Nat) (h : 1 ≤ M) : ∃ a : Nat, (bits .and .i64 n 65535).tmod (M : Int) = a ∧ a < M := by
  rw [maskW, Int.tmod_eq_emod_of_nonneg (by omega)]
  have h1 := Int.emod_nonneg (n % 65536) (show (M : Int) ≠ 0 by omega)
  have h2 := Int.emod_lt_of_pos (n % 65536) (show (0 : Int) < M by omega)
  exact ⟨(n % 65536 % M).toNat, by omega, by omega⟩
theorem maskB (n : Int) : bits .and .i64 n 1 = n % 2 := and_mask_i64 n 1 (by decide)
theorem add_lit1 (a : Addr) (j : Nat) : a.add (j + 1) = ⟨a.block, a.off + (j + 1), none⟩ := rfl
theorem two_of_row {w : World} {B : Nat} {ad : Addr} {rs : List (Int × Int)} (h : Row w B (some ad) (hCells rs)) {k : Nat} (hk : k < rs.length) : ∃ p t, w.cell? (ad.add (k * 2)) = some (.int .i64 p) ∧ w.cell? ⟨(ad.add (k * 2)).block, (ad.add (k * 2)).off + 1, none⟩ = some (.int .i64 t) ∧ (ad.add (k * 2)).block < B := by
  have hl := hCells_length rs
  obtain ⟨ad', e, hb, hc⟩ := h (by omega)
  injection e with e
  subst e
  obtain ⟨e0, e1⟩ := hCells_get rs k hk
  rw [List.getElem?_eq_some_iff] at e0 e1
  obtain ⟨h0, e0⟩ := e0
  obtain ⟨h1, e1⟩ := e1
  refine ⟨rs[k].1, rs[k].2, by rw [hc _ h0, e0], ?_, by rw [add_block]; exact hb⟩
  rw [← e1, ← hc _ h1, ← add_of_add]
  rfl

set_option maxHeartbeats 16000000 in
set_option maxRecDepth 20000 in
theorem plays_any (n : Int) (A : Option Addr) (c : Nat) (zs : List Int) (Ar : Option Addr) (cr : Nat) (rs : List (Int × Int)) (w : World) (hE : ErrTab w) (hr : Row w w.heap.size A (i64s zs)) (hb : ∀ k (hk : k < zs.length), -9223372036854775808 ≤ zs[k] ∧ zs[k] ≤ 9223372036854775807) (hc : zs.length ≤ c) (hm : c ≤ maxLen)
    (hrr : Row w w.heap.size Ar (hCells rs)) (hcr : rs.length ≤ cr) (hmr : cr ≤ maxLen) :
    Calls Tryd.prog 4 #[.int .i64 n, .slice A zs.length c, .slice Ar rs.length cr] w fun e w' => e = .returned (.bool true) ∧ Below w.heap.size w w' := by
  have HE := Lib.hid hE
  have hlt := hE.lt
  have HR := Lib.hid hr
  have HB := Lib.hid hb
  have HRR := Lib.hid hrr
  have hm' : c ≤ 9223372036854775807 := by unfold maxLen at hm; omega
  have hmr' : cr ≤ 9223372036854775807 := by unfold maxLen at hmr; omega
  have hrl : rs.length ≤ 9223372036854775807 := by omega
  clear hE hr hb hm hrr hmr
  go_enter Tryd.func4, Tryd.ntmps4
  go_wp2_with fail
  go_loopw [0, 7] (fun m q wr => ∃ (mi : Int) (qn : Nat), qn ≤ 2 ∧ m = .int .i64 mi ∧ q = .int .i64 qn ∧ Below w.heap.size w wr) (fun _ q _ => 2 - (intOf q).toNat)
  case atStart => exact ⟨n, 0, by omega, rfl, rfl, Below.refl _ _⟩
  case round =>
    obtain ⟨mi, qn, hq2, rfl, rfl, hbl⟩ := hrel
    have HBl := Lib.hid hbl
    clear hbl
    by_cases hq : qn < 2
    · have hqi : (qn : Int) < 2 := by omega
      go_wp2_with fail
      refine (new_any mi wr).mono ?_
      rintro e w1 ⟨rfl, hp1, hb1⟩
      obtain ⟨N, hN⟩ : ∃ N, (bndP mi).toNat = N := ⟨_, rfl⟩
      have hNi : bndP mi = N := by unfold bndP at hN ⊢; omega
      have hN9 : N ≤ 10000 := by unfold bndP at hN; omega
      rw [hNi] at hp1
      have HN := Lib.hid hN
      have P1 := Lib.hid hp1
      have B1 := Lib.hid (HBl.out.trans (hb1.mono HBl.out.size))
      have hg1 : wr.heap.size < w1.heap.size := hp1.lt _ (by simp)
      have hz1 : w.heap.size ≤ wr.heap.size := HBl.out.size
      clear hp1 hb1 hN hNi
      go_wp2_with fail
      refine (rnew_any mi w1).mono ?_
      rintro e w2 ⟨gw, bT, bK, rfl, hr2, hgw, hbT, hbK, hb2⟩
      rw [HN.out] at hr2
      have H0 : Hid (Pls w.heap.size w2 wr.heap.size N [] 0 [wr.heap.size] gw bT bK [] 0 none 0 0 []) := Lib.hid ⟨⟨P1.out.below hb2, by simp; omega, by have := hb2.size; omega⟩, hr2, Beside.nil _ _ _ _ _, by simp; omega, by simp; omega, by simp; omega, by omega, by omega⟩
      have B2 := Lib.hid (B1.out.trans (hb2.mono (by omega)))
      clear hr2 hgw hbT hbK hb2 P1 B1
      generalize wr.heap.size = g at *
      go_wp2_with fail
      go_loopw [10, 11] (fun va i wx => ∃ (j : Nat) (pl : Pl) (S : List Nat) (hs : List (Int × Int)) (A' : Option Addr) (L c' : Nat), j ≤ 60 ∧ i = .int .i64 j ∧ va = .slice A' L c' ∧ L ≤ j ∧ Pls w.heap.size wx g N pl (100 + j) S gw bT bK pl (100 + j) A' L c' hs ∧ Below w.heap.size w wx) (fun _ i _ => 60 - (intOf i).toNat)
      case atStart => exact ⟨0, [], [g], [], none, 0, 0, by omega, rfl, rfl, by omega, H0.out.mono (by omega) (by omega) (by omega) (by omega), B2.out⟩
      case round =>
        clear H0 B2
        obtain ⟨j, pl, S, hs, A', L, c', hj60, rfl, rfl, hLj, hpls, hbl⟩ := hrel
        have HP := Lib.hid hpls
        have HBx := Lib.hid hbl
        obtain ⟨hc1, hc2⟩ := owns_cap hpls.all.row
        clear hpls hbl
        by_cases hend : zs.length ≤ j ∨ 60 ≤ j
        · clear HR HB HRR
          rcases hend with h | h
          · have q1 : ¬ j < zs.length := by omega
            have q2 : ¬ (j : Int) < zs.length := by omega
            go_wp2_with fail
            go_roundw
            case rel => exact ⟨_, qn + 1, by omega, rfl, by go_num, HBx.out⟩
            case measure => simp [intOf]; omega
          · have q1 : ¬ j < 60 := by omega
            have q2 : ¬ (j : Int) < 60 := by omega
            by_cases h2 : j < zs.length
            all_goals
              go_wp2_with fail
              go_roundw
              case rel => exact ⟨_, qn + 1, by omega, rfl, by go_num, HBx.out⟩
              case measure => simp [intOf]; omega
        · have hj1 : j < zs.length := by omega
          have hj2 : (j : Int) < 60 := by omega
          have hj3 : (j : Int) < zs.length := by omega
          clear hend
          obtain ⟨ad, rfl, had, hcz⟩ := HR.out.int hj1
          obtain ⟨hz1, hz2⟩ := HB.out j hj1
          generalize zs[j] = z at *
          have HCZ : Hid (∀ w', Below w.heap.size w w' → w'.cell? (ad.add j) = some (.int .i64 z)) := Lib.hid fun w' hb => (hb.cell (p := ad.add j) (by rw [add_block]; exact had)).trans hcz
          clear hcz
          have hcl : ∀ s : Later wr.heap.size wr, s.w.cell? (ad.add j) = some (.int .i64 z) := fun s => HCZ.out _ (HBx.out.trans (s.h.mono HP.out.room))
          go_wp2_with fail
          refine region_lane [0, 1, 6, 7] [2, 3, 4, 5, 8, 9, 10, 11, 12, 13] [14] (by kernel_rfl) (by kernel_rfl) (fun _ _ _ _ _ h => h) ?_
          simp only [pick, List.map_cons, List.map_nil, List.getD_cons_zero, List.getD_cons_succ, List.drop_succ_cons, List.drop_zero]
          repeat (go_big_quiet_step (fail))
          refine wpQuiet_nil ?_
          refine ⟨rfl, ?_⟩
          refine laneO_run 8 (by kernel_rfl) ?_
          simp only [List.take_succ_cons, List.take_zero, List.drop_succ_cons, List.drop_zero]
          repeat (go_big_quiet_step (fail))
          refine wpQuiet_nil ?_
          have m1 : bits .and .i64 (z / 256) 7 = (z / 256) % 8 := and_mask_i64 _ 3 (by decide)
          have m2 : bits .and .i64 (z / 65536) 3 = (z / 65536) % 4 := and_mask_i64 _ 2 (by decide)
          rw [m1, m2]
          clear m1 m2
          generalize (z / 256) % 8 = p0
          generalize (z / 65536) % 4 = t0
          refine laneO_fixed (v := .agg #[.int .i64 p0, .int .i64 t0]) (by kernel_rfl) (fun w hw => .inl ⟨by rfl, ?_⟩) ?_
          · unfold gives
            simp [go_sem]
            exact Behind.refl w
          simp only [Act.put, List.setIfInBounds_toArray, List.set_cons_zero, List.set_cons_succ]
          refine laneO_told (newT wr.heap.size 27 [.int .i64 0, .int .i64 0]) (newT_steady _ _ _) (by kernel_rfl) rfl (fun w hw => .inl ⟨by rfl, ?_⟩) ?_
          · unfold gives
            simp [go_sem]
            exact newT_new wr.heap.size 27 #[.int .i64 0, .int .i64 0] w hw.size
          refine laneO_end (by simp) rfl rfl rfl fun w3 hb0 => ?_
          rintro x ⟨r, rfl, hr1, hw1⟩
          simp only [Act.put, List.setIfInBounds_toArray, List.set_cons_zero, List.set_cons_succ, fillAll]
          have hb3 : Below wr.heap.size wr w3 := hb0
          have HP3 := Lib.hid (HP.out.below hb3)
          have HB3 := Lib.hid (HBx.out.trans (hb3.mono HP.out.room))
          have HV3 : Hid (HVar w.heap.size w3 S A' L c' r 0 0) := Lib.hid ⟨hw1, fun hm => by have := HP.out.pb.pool.lt r hm; omega, fun k hk e => by have := owns_lt HP.out.all.row hk; omega, by have := HP.out.room; omega⟩
          have e0 : w3.cell? ⟨r, 0, none⟩ = some (.int .i64 0) := hw1.cell 0
          have e1 : w3.cell? ⟨r, 1, none⟩ = some (.int .i64 0) := hw1.cell 1
          have e2 := hw1.free 0
          have e3 := hw1.free 1
          have hrb : w.heap.size ≤ r := HV3.out.base
          have HP4 := Lib.hid (HP3.out.var (two_cells w3 r (.int .i64 p0) (.int .i64 t0)) HV3.out.whole HV3.out.offS HV3.out.offA)
          have HV4 := Lib.hid (HV3.out.put p0 t0)
          have HB4 := Lib.hid ((HB3.out.setCell (p := ⟨r, 0, none⟩) hrb (.int .i64 p0)).setCell (p := ⟨r, 1, none⟩) hrb (.int .i64 t0))
          clear hb0 hb3 hcl HP HBx hw1 hr1 HP3 HV3 HB3
          go_upto_region 12 with (fail)
          generalize (w3.setCell ⟨r, 0, none⟩ (.int .i64 p0)).setCell ⟨r, 1, none⟩ (.int .i64 t0) = w4 at *
          clear e0 e1 e2 e3
          have cz := HCZ.out _ HB4.out
          go_cut [62] from 39 to 145 (fun v wx => (∃ b : Bool, v = .bool b ∧ (b = true → 0 < L)) ∧ wx = w4)
          case first =>
            by_cases h0 : L = 0
            · subst h0
              go_wp2_with fail
              go_meet
              case rel => exact ⟨⟨_, rfl, by simp⟩, rfl⟩
            · have h1 : 0 < L := by omega
              have h2 : (0 : Int) < L := by omega
              go_wp2_with fail
              go_meet
              case rel => exact ⟨⟨_, rfl, fun _ => h1⟩, rfl⟩
          case rest =>
            obtain ⟨⟨b, rfl, hbL⟩, rfl⟩ := hcut
            clear cz
            go_upto_if 62 with (fail)
            go_cut [] from 39 to 145 (fun wx => ∃ p t, HVar w.heap.size wx S A' L c' r p t ∧ Pls w.heap.size wx g N pl (100 + j) S gw bT bK pl (100 + j) A' L c' hs ∧ Below w.heap.size w wx)
            case first =>
              cases b with
              | false =>
                go_wp2_with fail
                go_meet
                case rel => exact ⟨p0, t0, HV4.out, HP4.out, HB4.out⟩
              | true =>
                have hL := hbL rfl
                have hLi : (0 : Int) < L := by omega
                have cz := HCZ.out _ HB4.out
                obtain ⟨gA, cA, e, _, _, hgA⟩ := owns_some HP4.out.all.row hL
                injection e with e1 _ e2
                subst e1 e2
                obtain ⟨κ, hκ, hκl⟩ := pickW (z / 256) L hL
                have hκi : (κ : Int) < L := by omega
                have hκh : κ < hs.length := by have := HP4.out.all.row.1; rw [hCells_length] at this; omega
                obtain ⟨c0, c1, _, _⟩ := HP4.out.all.hand hκl (List.getElem?_eq_getElem hκh)
                have e0 : wc.cell? ⟨r, 0, none⟩ = some (.int .i64 p0) := HV4.out.whole.cell 0
                have e1 : wc.cell? ⟨r, 1, none⟩ = some (.int .i64 t0) := HV4.out.whole.cell 1
                have e2 := HV4.out.whole.free 0
                have e3 := HV4.out.whole.free 1
                go_wp2_with fail
                go_meet
                case rel => exact ⟨_, _, HV4.out.put _ _, HP4.out.var (two_cells _ r _ _) HV4.out.whole HV4.out.offS HV4.out.offA, (HB4.out.setCell (p := ⟨r, 0, none⟩) hrb _).setCell (p := ⟨r, 1, none⟩) hrb _⟩
            case rest =>
              obtain ⟨p1, t1, hv1, hp1, hb1⟩ := hcut
              have HV5 := Lib.hid hv1
              have HP5 := Lib.hid hp1
              have HB5 := Lib.hid hb1
              clear hv1 hp1 hb1 HV4 HP4 HB4 hbL
              have cz := HCZ.out _ HB5.out
              go_upto_region 14 with (fail)
              generalize wc = w5 at *
              go_cut [86] from 39 to 145 (fun v wx => (∃ b : Bool, v = .bool b ∧ (b = true → j < rs.length)) ∧ wx = w5)
              case first =>
                by_cases h0 : j < rs.length
                · have h2 : (j : Int) < rs.length := by omega
                  go_wp2_with fail
                  go_meet
                  case rel => exact ⟨⟨_, rfl, fun _ => h0⟩, rfl⟩
                · have h2 : ¬ (j : Int) < rs.length := by omega
                  go_wp2_with fail
                  go_meet
                  case rel => exact ⟨⟨_, rfl, by simp⟩, rfl⟩
              case rest =>
                obtain ⟨⟨b2, rfl, hbR⟩, rfl⟩ := hcut
                clear cz
                go_upto_if 86 with (fail)
                go_cut [] from 39 to 145 (fun wx => ∃ p t, HVar w.heap.size wx S A' L c' r p t ∧ Pls w.heap.size wx g N pl (100 + j) S gw bT bK pl (100 + j) A' L c' hs ∧ Below w.heap.size w wx)
                case first =>
                  cases b2 with
                  | false =>
                    go_wp2_with fail
                    go_meet
                    case rel => exact ⟨p1, t1, HV5.out, HP5.out, HB5.out⟩
                  | true =>
                    have hR := hbR rfl
                    have hRi : (j : Int) < rs.length := by omega
                    rcases Ar with _ | ar
                    · exfalso
                      have := HRR.out.none_nil
                      have h2 := hCells_length rs
                      rw [this] at h2
                      simp at h2
                      omega
                    · obtain ⟨p, t, c0, c1, hbk⟩ := two_of_row HRR.out hR
                      have d0 := (HB5.out.cell (p := ar.add (j * 2)) hbk).trans c0
                      have d1 := (HB5.out.cell (p := ⟨(ar.add (j * 2)).block, (ar.add (j * 2)).off + 1, none⟩) hbk).trans c1
                      have e0 : wc.cell? ⟨r, 0, none⟩ = some (.int .i64 p1) := HV5.out.whole.cell 0
                      have e1 : wc.cell? ⟨r, 1, none⟩ = some (.int .i64 t1) := HV5.out.whole.cell 1
                      have e2 := HV5.out.whole.free 0
                      have e3 := HV5.out.whole.free 1
                      clear c0 c1 hbk
                      go_wp2_with fail
                      go_meet
                      case rel => exact ⟨p, t, HV5.out.put p t, HP5.out.var (two_cells _ r _ _) HV5.out.whole HV5.out.offS HV5.out.offA, (HB5.out.setCell (p := ⟨r, 0, none⟩) hrb _).setCell (p := ⟨r, 1, none⟩) hrb _⟩
                case rest =>
                  obtain ⟨p, t, hv1, hp1, hb1⟩ := hcut
                  have HV6 := Lib.hid hv1
                  have HP6 := Lib.hid hp1
                  have HB6 := Lib.hid hb1
                  clear hv1 hp1 hb1 HV5 HP5 HB5 hbR
                  generalize wc = w6 at *
                  have cz := HCZ.out _ HB6.out
                  have hm1 := maskB z
                  by_cases hodd : z % 2 = 1
                  · rw [hodd] at hm1
                    have hcle := HP6.out.pb.pool.len
                    have hcl2 := countP_le pl
                    by_cases hfull : countP pl = N
                    · have HFull := Lib.hid hfull
                      clear hfull
                      go_wp2_with fail
                      refine (take_full _ _ _ _ _ w6 HP6.out.pb.pool (by rw [HFull.out])).mono ?_
                      rintro e w7 ⟨rfl, b7⟩
                      have HP7 := Lib.hid ((HP6.out.below b7).alloc (.cells #[.int .i64 0, .int .i64 0] 27))
                      have HB7 := Lib.hid ((HB6.out.trans (b7.mono HP6.out.room)).alloc (o := .cells #[.int .i64 0, .int .i64 0] 27) (HP6.out.below b7).room)
                      have E7 := Lib.hid (Whole.mk w7 27 #[.int .i64 0, .int .i64 0])
                      clear b7 HP6 HB6 HV6 cz
                      go_wp2_with fail
                      refine (rtake_no _ gw bT bK N pl _ HP7.out.rf HFull.out).mono ?_
                      rintro e w8 ⟨rfl, b8⟩
                      have E8 := Lib.hid (E7.out.under b8 E7.out.size)
                      have z8 : w7.heap.size < w8.heap.size := E8.out.size
                      have c0 : w8.cell? ⟨w7.heap.size, 0, none⟩ = some (.int .i64 0) := E8.out.cell 0
                      have c1 : w8.cell? ⟨w7.heap.size, 1, none⟩ = some (.int .i64 0) := E8.out.cell 1
                      have HP8 := Lib.hid ((HP7.out.below b8).alloc (.cells #[.int .i64 0, .int .i64 0] 27))
                      have HB8 := Lib.hid ((HB7.out.trans (b8.mono HP7.out.room)).alloc (o := .cells #[.int .i64 0, .int .i64 0] 27) (HP7.out.below b8).room)
                      have E8a := Lib.hid (E8.out.made (.cells #[.int .i64 0, .int .i64 0] 27))
                      clear b8 HP7 HB7 E7
                      go_wp2_with fail
                      refine (code_errno 2 _ (HE.out.below HB8.out hlt)).mono ?_
                      rintro e w9 ⟨rfl, b9⟩
                      have E9 := Lib.hid (E8a.out.under b9 E8a.out.size)
                      have HP9 := Lib.hid (HP8.out.below b9)
                      have HB9 := Lib.hid (HB8.out.trans (b9.mono HP8.out.room))
                      clear b9 HP8 HB8 E8 E8a c0 c1
                      have R9 := HP9.out.all.row
                      have c0 : w9.cell? ⟨w7.heap.size, 0, none⟩ = some (.int .i64 (0)) := E9.out.cell 0
                      have c1 : w9.cell? ⟨w7.heap.size, 1, none⟩ = some (.int .i64 (0)) := E9.out.cell 1
                      go_wp2_with (at_builtin; refine wpList_one rfl (.tmp 118) (.tmp 120) _ rfl 27 2 16 (.agg #[.int .i64 0, .int .i64 0]) Tryd.underlying25 handle_info rfl (by decide) _ _ _ _ rfl R9 rfl ⟨by omega, by unfold maxLen; omega⟩ rfl (by simp [Value.oneCell']) ?_; intro A3 c3 w10 hown3 ho3 hk3; obtain ⟨P10, b10⟩ := Pls.pushed HP9.out hown3 ho3 hk3; have HP10 := Lib.hid P10; have HB10 := Lib.hid (HB9.out.trans b10); clear P10 b10 hown3 ho3 hk3 R9 c0 c1)
                      go_roundw
                      case rel => exact ⟨j + 1, _, _, _, A3, L + 1, c3, by omega, by go_num, rfl, by omega, HP10.out.mono (by push_cast; omega) (by push_cast; omega) (by push_cast; omega) (by push_cast; omega), HB10.out⟩
                      case measure => simp [intOf]; omega
                    · have hlt2 : countP pl < N := by omega
                      have hlt3 : (countP pl : Int) < N := by omega
                      go_wp2_with fail
                      refine (ptake _ _ _ _ _ _ w6 HP6.out.pb hlt3 (by omega)).mono ?_
                      rintro e w7 ⟨rfl, S', P2, O2, N2, b7⟩
                      have HP7 := Lib.hid ((HP6.out.pool P2 O2 N2).alloc (.cells #[.int .i64 (leastF pl), .int .i64 (turnOf pl (leastF pl) + 1)] 27))
                      have HB7 := Lib.hid ((HB6.out.trans b7).alloc (o := .cells #[.int .i64 (leastF pl), .int .i64 (turnOf pl (leastF pl) + 1)] 27) P2.room)
                      have E7 := Lib.hid (Whole.mk w7 27 #[.int .i64 (leastF pl), .int .i64 (turnOf pl (leastF pl) + 1)])
                      clear b7 HP6 HB6 HV6 cz P2 O2 N2
                      go_wp2_with fail
                      refine (rtake_any _ gw bT bK N pl _ HP7.out.rf hlt2 (by omega)).mono ?_
                      rintro e w8 ⟨rfl, R2, O2⟩
                      have E8 := Lib.hid (HP7.out.keepR E7.out O2)
                      have z8 : w7.heap.size < w8.heap.size := E8.out.size
                      obtain ⟨P8, b8⟩ := HP7.out.ref R2 O2
                      have HP8 := Lib.hid (P8.alloc (.cells #[.int .i64 (leastF pl), .int .i64 (turnOf pl (leastF pl) + 1)] 27))
                      have HB8 := Lib.hid ((HB7.out.trans b8).alloc (o := .cells #[.int .i64 (leastF pl), .int .i64 (turnOf pl (leastF pl) + 1)] 27) P8.room)
                      have E8a := Lib.hid (E8.out.made (.cells #[.int .i64 (leastF pl), .int .i64 (turnOf pl (leastF pl) + 1)] 27))
                      clear b8 P8 R2 O2 HP7 HB7 E7
                      generalize (leastF pl : Int) = lf at *
                      generalize turnOf pl (leastF pl) + 1 = tn at *
                      have c0 : w8.cell? ⟨w7.heap.size, 0, none⟩ = some (.int .i64 lf) := E8.out.cell 0
                      have c1 : w8.cell? ⟨w7.heap.size, 1, none⟩ = some (.int .i64 tn) := E8.out.cell 1
                      go_wp2_with fail
                      refine (code_nil _).mono ?_
                      rintro e w9 ⟨rfl, hw9⟩
                      have HP9 := HP8
                      have HB9 := HB8
                      have E9 := E8a
                      rw [← hw9] at HP9 HB9 E9
                      clear HP8 HB8 E8 E8a c0 c1 hw9
                      have R9 := HP9.out.all.row
                      have c0 : w9.cell? ⟨w7.heap.size, 0, none⟩ = some (.int .i64 (lf)) := E9.out.cell 0
                      have c1 : w9.cell? ⟨w7.heap.size, 1, none⟩ = some (.int .i64 (tn)) := E9.out.cell 1
                      go_wp2_with (at_builtin; refine wpList_one rfl (.tmp 118) (.tmp 120) _ rfl 27 2 16 (.agg #[.int .i64 0, .int .i64 0]) Tryd.underlying25 handle_info rfl (by decide) _ _ _ _ rfl R9 rfl ⟨by omega, by unfold maxLen; omega⟩ rfl (by simp [Value.oneCell']) ?_; intro A3 c3 w10 hown3 ho3 hk3; obtain ⟨P10, b10⟩ := Pls.pushed HP9.out hown3 ho3 hk3; have HP10 := Lib.hid P10; have HB10 := Lib.hid (HB9.out.trans b10); clear P10 b10 hown3 ho3 hk3 R9 c0 c1)
                      go_roundw
                      case rel => exact ⟨j + 1, _, _, _, A3, L + 1, c3, by omega, by go_num, rfl, by omega, HP10.out.mono (by push_cast; omega) (by push_cast; omega) (by push_cast; omega) (by push_cast; omega), HB10.out⟩
                      case measure => simp [intOf]; omega
                  · have hev : z % 2 = 0 := by omega
                    rw [hev] at hm1
                    have hr9 := HV6.out.whole.size
                    have K0 : ∀ s : Later w6.heap.size w6, s.w.cell? ⟨r, 0, none⟩ = some (.int .i64 p) := fun s => (s.h.cell (p := ⟨r, 0, none⟩) hr9).trans (HV6.out.whole.cell 0)
                    have K1 : ∀ s : Later w6.heap.size w6, s.w.cell? ⟨r, 1, none⟩ = some (.int .i64 t) := fun s => (s.h.cell (p := ⟨r, 1, none⟩) hr9).trans (HV6.out.whole.cell 1)
                    have PH := Lib.hid (fun w' (hb : Below w6.heap.size w6 w') => poolHas_any g N pl _ S p t w' (HP6.out.pb.pool.below hb))
                    have RH := Lib.hid (fun w' (hb : Below w6.heap.size w6 w') => rhas_any w' gw bT bK N pl _ p t (HP6.out.rf.below hb))
                    cases hr : hasP pl p t with
                    | false =>
                      rw [hr] at PH RH
                      have HNo := Lib.hid hr
                      clear hr
                      go_wp2_with fail
                      refine region_later (by kernel_rfl) (by kernel_rfl) ?_
                      repeat (go_big_quiet_step (first | (with_reducible exact later_call _ (Nat.le_refl _) (PH.out _ (Later.h _))) | (with_reducible exact later_call _ (Nat.le_refl _) (RH.out _ (Later.h _)))))
                      refine wpQuiet_nil ?_
                      rintro w' ⟨s, rfl⟩
                      have b7 := s.h
                      generalize s.w = w7 at *
                      have E7 := Lib.hid (HV6.out.whole.under b7 hr9)
                      have HP7 := Lib.hid (HP6.out.below b7)
                      have HB7 := Lib.hid (HB6.out.trans (b7.mono HP6.out.room))
                      clear K0 K1 PH RH b7 HP6 HB6 HV6 cz hr9
                      have c0 : w7.cell? ⟨r, 0, none⟩ = some (.int .i64 p) := E7.out.cell 0
                      have c1 : w7.cell? ⟨r, 1, none⟩ = some (.int .i64 t) := E7.out.cell 1
                      go_wp2_with fail
                      refine (rfree_no w7 gw bT bK N pl _ p t HP7.out.rf HNo.out).mono ?_
                      rintro e w8 ⟨rfl, b8⟩
                      have E8 := Lib.hid (E7.out.under b8 E7.out.size)
                      have HP8 := Lib.hid (HP7.out.below b8)
                      have HB8 := Lib.hid (HB7.out.trans (b8.mono HP7.out.room))
                      clear b8 HP7 HB7 E7 c0 c1
                      have c0 : w8.cell? ⟨r, 0, none⟩ = some (.int .i64 p) := E8.out.cell 0
                      have c1 : w8.cell? ⟨r, 1, none⟩ = some (.int .i64 t) := E8.out.cell 1
                      go_wp2_with fail
                      refine (free_no _ _ _ _ _ p t w8 HP8.out.pb.pool HNo.out).mono ?_
                      rintro e w9 ⟨rfl, b9⟩
                      have HP9 := Lib.hid (HP8.out.below b9)
                      have HB9 := Lib.hid (HB8.out.trans (b9.mono HP8.out.room))
                      clear b9 HP8 HB8 E8 c0 c1
                      go_wp2_with fail
                      refine (code_errno 3 _ (HE.out.below HB9.out hlt)).mono ?_
                      rintro e w10 ⟨rfl, b10⟩
                      have HP10 := Lib.hid (HP9.out.below b10)
                      have HB10 := Lib.hid (HB9.out.trans (b10.mono HP9.out.room))
                      clear b10 HP9 HB9
                      go_wp2_with fail
                      refine (poolLen_any _ _ _ _ _ w10 HP10.out.pb.pool).mono ?_
                      rintro e w11 ⟨rfl, b11⟩
                      have HP11 := Lib.hid (HP10.out.below b11)
                      have HB11 := Lib.hid (HB10.out.trans (b11.mono HP10.out.room))
                      clear b11 HP10 HB10
                      go_wp2_with fail
                      refine (rlen_any w11 gw bT bK N pl _ HP11.out.rf).mono ?_
                      rintro e w12 ⟨rfl, rfl⟩
                      go_wp2_with fail
                      go_roundw
                      case rel => exact ⟨j + 1, _, _, _, A', L, c', by omega, by go_num, rfl, by omega, HP11.out.mono (by push_cast; omega) (by push_cast; omega) (by push_cast; omega) (by push_cast; omega), HB11.out⟩
                      case measure => simp [intOf]; omega
                    | true =>
                      rw [hr] at PH RH
                      obtain ⟨k, hpk, _, htk, htt⟩ := hasP_true hr
                      have HQ1 := Lib.hid hpk
                      have HQ2 := Lib.hid htk
                      have HQ3 := Lib.hid htt
                      clear hr hpk htk htt
                      go_wp2_with fail
                      refine region_later (by kernel_rfl) (by kernel_rfl) ?_
                      repeat (go_big_quiet_step (first | (with_reducible exact later_call _ (Nat.le_refl _) (PH.out _ (Later.h _))) | (with_reducible exact later_call _ (Nat.le_refl _) (RH.out _ (Later.h _)))))
                      refine wpQuiet_nil ?_
                      rintro w' ⟨s, rfl⟩
                      have b7 := s.h
                      generalize s.w = w7 at *
                      have E7 := Lib.hid (HV6.out.whole.under b7 hr9)
                      have HP7 := Lib.hid (HP6.out.below b7)
                      have HB7 := Lib.hid (HB6.out.trans (b7.mono HP6.out.room))
                      clear K0 K1 PH RH b7 HP6 HB6 HV6 cz hr9
                      have c0 : w7.cell? ⟨r, 0, none⟩ = some (.int .i64 p) := E7.out.cell 0
                      have c1 : w7.cell? ⟨r, 1, none⟩ = some (.int .i64 t) := E7.out.cell 1
                      have RF := Lib.hid (rfree_any w7 gw bT bK N pl _ t k HP7.out.rf HQ2.out HQ3.out)
                      rw [← HQ1.out] at RF
                      go_wp2_with fail
                      refine RF.out.mono ?_
                      rintro e w8 ⟨rfl, R2, O2⟩
                      have E8 := Lib.hid (HP7.out.keepR E7.out O2)
                      obtain ⟨P8, b8⟩ := HP7.out.ref R2 O2
                      have HP8 := Lib.hid P8
                      have HB8 := Lib.hid (HB7.out.trans b8)
                      clear b8 P8 R2 O2 HP7 HB7 E7 c0 c1 RF
                      have c0 : w8.cell? ⟨r, 0, none⟩ = some (.int .i64 p) := E8.out.cell 0
                      have c1 : w8.cell? ⟨r, 1, none⟩ = some (.int .i64 t) := E8.out.cell 1
                      go_wp2_with fail
                      refine (pfree_at _ _ _ _ _ _ k t w8 HP8.out.pb HQ1.out HQ2.out HQ3.out).mono ?_
                      rintro e w9 ⟨rfl, S', P2, O2, N2, b9⟩
                      have HP9 := Lib.hid (HP8.out.pool P2 O2 N2)
                      have HB9 := Lib.hid (HB8.out.trans b9)
                      clear b9 P2 O2 N2 HP8 HB8 E8 c0 c1
                      go_wp2_with fail
                      refine (code_nil _).mono ?_
                      rintro e w10 ⟨rfl, hw10⟩
                      have HP10 := HP9
                      have HB10 := HB9
                      rw [← hw10] at HP10 HB10
                      clear HP9 HB9 hw10
                      go_wp2_with fail
                      refine (poolLen_any _ _ _ _ _ w10 HP10.out.pb.pool).mono ?_
                      rintro e w11 ⟨rfl, b11⟩
                      have HP11 := Lib.hid (HP10.out.below b11)
                      have HB11 := Lib.hid (HB10.out.trans (b11.mono HP10.out.room))
                      clear b11 HP10 HB10
                      go_wp2_with fail
                      refine (rlen_any w11 gw bT bK N (freeP pl k) _ HP11.out.rf).mono ?_
                      rintro e w12 ⟨rfl, rfl⟩
                      go_wp2_with fail
                      go_roundw
                      case rel => exact ⟨j + 1, _, _, _, A', L, c', by omega, by go_num, rfl, by omega, HP11.out.mono (by push_cast; omega) (by push_cast; omega) (by push_cast; omega) (by push_cast; omega), HB11.out⟩
                      case measure => simp [intOf]; omega
    · -- the end
      have hqi : ¬ (qn : Int) < 2 := by omega
      go_wp2_with fail
      refine (awake_any wr (HE.out.below HBl.out hlt)).mono ?_
      rintro e w5 ⟨rfl, b5⟩
      have HB5 := Lib.hid (HBl.out.trans (b5.mono HBl.out.size))
      clear b5
      go_wp2
      go_ret
      exact ⟨rfl, HB5.out⟩
end Go.Proofs.YtpnpmellohacoaaDoor
