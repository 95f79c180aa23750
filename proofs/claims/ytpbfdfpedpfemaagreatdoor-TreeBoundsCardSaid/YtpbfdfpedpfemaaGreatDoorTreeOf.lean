import Derived.Test.YtpbfdfpedpfemaaGreatDoorNodesRow
/- tree.Of. -/
namespace Go.Proofs.YtpbfdfpedpfemaaGreatDoor
open Go Go.RowKit
set_option linter.unusedVariables false
set_option linter.unusedSimpArgs false
set_option maxRecDepth 20000
set_option maxHeartbeats 2000000

def OfPost (W : World) (most : Int) (l : List Nd) (e : Ending) (w' : World) : Prop :=
  if ofB most l = true then ∃ t, e = .returned (.tuple #[.pointer (some ⟨t, 0, none⟩), .bool true]) ∧ Tree w' W.heap.size t (mostZ most) l else e = .returned (.tuple #[.pointer none, .bool false])
theorem of_step (m : Nat) (r : Nd) (R : List Nd) (k : Nat) (hk : k < R.length) (last : Int) : growB m (r :: R.take k) last (R.drop k) = (decide (k + 1 < m) && takesB (r :: R.take k) last R[k] && growB m (r :: R.take (k + 1)) R[k].id (R.drop (k + 1))) := by
  have e : (r :: R.take k).length = k + 1 := by simp; omega
  rw [List.drop_eq_getElem_cons hk, growB, e, List.take_succ_eq_append_getElem hk]
  rfl
theorem own_mono {w : World} {base base' e size n : Nat} {v : Value} {xs : List Value} (h : w.ownsRow base e size v n xs) (hb : base' ≤ base) : w.ownsRow base' e size v n xs := by
  refine ⟨h.1, ?_⟩
  rcases h.2 with h0 | ⟨g, cap, cur, hv, h1, h2⟩
  · exact .inl h0
  · exact .inr ⟨g, cap, cur, hv, by omega, h2⟩
theorem Tree.mono {w : World} {base base' t : Nat} {most : Int} {L : List Nd} (h : Tree w base t most L) (hb : base' ≤ base) : Tree w base' t most L := by
  obtain ⟨b, f, sv, kv, h⟩ := h
  exact ⟨b, f, sv, kv, h.ok, ⟨by have := h.low; omega, by have := h.low; omega⟩, h.hd, h.mp, h.dom, fun n hn g hg => ⟨by have := (h.nod n hn g hg).1; omega, (h.nod n hn g hg).2⟩, fun n hn => (h.sty n hn).mono hb, fun n hn => own_mono (h.kid n hn) hb, h.inj, h.apart⟩
theorem give_root (r : Nd) (h : rootB r = true) : giveZ [root0] r = [r] := by
  unfold rootB at h
  simp only [Bool.and_eq_true, decide_eq_true_eq, Bool.not_eq_true'] at h
  obtain ⟨⟨⟨h1, h2⟩, h3⟩, -⟩ := h
  cases r with
  | mk a b c d e =>
    simp only at h1 h2 h3
    subst h1 h2 h3
    rfl
theorem tof_any (most : Int) (A : Option Addr) (c : Nat) (l : List Nd) (svs : List Value) (W : World) (h : NodesLow W W.heap.size A l svs) (hc : l.length ≤ c) (hU : ∀ n ∈ l, n.tx = false → ∀ d ∈ n.sty, UntoldOK d) :
    Calls Tryz.prog 9 #[.int .i64 most, .slice A l.length c] W fun e w' => OfPost W most l e w' ∧ Below W.heap.size W w' := by
  have H := Lib.hid h
  have HU := Lib.hid hU
  clear h hU
  cases l with
  | nil =>
    go_enter Tryz.func9, Tryz.ntmps9
    go_wp2
    refine bodyPost_ret (v := .tuple #[.pointer none, .bool false]) (by simp [results, Tryz.results9, go_sem]) rfl ⟨by unfold OfPost; rw [if_neg (by rw [ofB]; decide)], Below.refl _ _⟩
  | cons r R =>
    cases svs with
    | nil => have := H.out.len; simp at this
    | cons s S =>
    obtain ⟨ad, sv, es, rfl, hb0, hs0, d0, d1, d2, d3, d4⟩ := H.out.nd (k := 0) (by simp)
    have es : s = sv := by simpa using es
    subst es
    simp only [Nat.zero_mul, add_zero, List.getElem_cons_zero] at d0 d1 d2 d3 d4 hs0
    have HR := Lib.hid (isRoot_any r s (HU.out r (by simp)) W (hs0.at_ (Nat.le_refl _)) (H.out.dat r (by simp)).1)
    have hlen : (0 : Int) < (r :: R).length := by simp
    cases hr : rootB r
    · rw [hr] at HR
      go_enter Tryz.func9, Tryz.ntmps9
      go_wp2_with fail
      refine HR.out.mono ?_
      rintro e w1 ⟨rfl, hb⟩
      have B1 := Lib.hid hb
      clear hb
      go_wp2
      refine bodyPost_ret (v := .tuple #[.pointer none, .bool false]) (by simp [results, Tryz.results9, go_sem]) rfl ⟨by unfold OfPost; rw [if_neg (by rw [ofB, hr]; simp)], B1.out⟩
    · rw [hr] at HR
      go_enter Tryz.func9, Tryz.ntmps9
      go_wp2_with fail
      refine HR.out.mono ?_
      rintro e w1 ⟨rfl, hb⟩
      have B1 := Lib.hid hb
      clear hb
      go_wp2_with fail
      refine (tnew_any most w1).mono ?_
      rintro e w2 ⟨t, rfl, hT, hb⟩
      have T2 := Lib.hid (hT.mono B1.out.size)
      have B2 := Lib.hid (B1.out.trans (hb.mono B1.out.size))
      clear hT hb HR d0 d1 d2 d3 d4
      obtain ⟨ad', sv', es, ea, -, -, d0, d1, d2, d3, d4⟩ := H.out.nd (k := 0) (by simp)
      injection ea with ea
      subst ea
      have es : s = sv' := by simpa using es
      subst es
      simp only [Nat.zero_mul, add_zero, List.getElem_cons_zero] at d0 d1 d2 d3 d4
      have y0 : ∀ x : Later w2.heap.size w2, x.w.cell? ad = some (.int .i64 r.id) := fun x => (Below.cell (B2.out.trans (x.h.mono B2.out.size)) hb0).trans d0
      have y1 : ∀ x : Later w2.heap.size w2, x.w.cell? ⟨ad.block, ad.off + 1, none⟩ = some (.int .i64 r.par) := fun x => (Below.cell (B2.out.trans (x.h.mono B2.out.size)) (show (⟨ad.block, ad.off + 1, none⟩ : Addr).block < W.heap.size from hb0)).trans d1
      have y2 : ∀ x : Later w2.heap.size w2, x.w.cell? ⟨ad.block, ad.off + 2, none⟩ = some (.bool r.tx) := fun x => (Below.cell (B2.out.trans (x.h.mono B2.out.size)) (show (⟨ad.block, ad.off + 2, none⟩ : Addr).block < W.heap.size from hb0)).trans d2
      have y3 : ∀ x : Later w2.heap.size w2, x.w.cell? ⟨ad.block, ad.off + 3, none⟩ = some (.string r.dat) := fun x => (Below.cell (B2.out.trans (x.h.mono B2.out.size)) (show (⟨ad.block, ad.off + 3, none⟩ : Addr).block < W.heap.size from hb0)).trans d3
      have y4 : ∀ x : Later w2.heap.size w2, x.w.cell? ⟨ad.block, ad.off + 4, none⟩ = some s := fun x => (Below.cell (B2.out.trans (x.h.mono B2.out.size)) (show (⟨ad.block, ad.off + 4, none⟩ : Addr).block < W.heap.size from hb0)).trans d4
      clear d0 d1 d2 d3 d4
      go_upto_region 4 with fail
      refine region_lane [] [0, 1, 2, 3, 4] [5] (by kernel_rfl) (by kernel_rfl) (fun _ _ _ _ _ h => h) ?_
      simp only [pick, List.map_nil]
      refine wpQuiet_nil ⟨rfl, ?_⟩
      simp only [List.map_cons, List.map_nil, List.getD_cons_zero, List.getD_cons_succ, List.drop_succ_cons, List.drop_zero]
      refine laneO_run 1 (by kernel_rfl) ?_
      simp only [List.take_succ_cons, List.take_zero, List.drop_succ_cons, List.drop_zero]
      repeat (go_big_quiet_step (fail))
      refine wpQuiet_nil ?_
      refine laneO_call (v := (.pointer (some ⟨t, 0, none⟩))) (by kernel_rfl) (by rfl) (fun C hC h0 => ?_) ?_
      focus (go_big_quiet_op; exact ⟨_, fun w hw => (held_t t w).mono fun e w' ⟨he, hb⟩ => ⟨he, hb ▸ hw⟩, rfl⟩)
      simp only [Act.put, List.setIfInBounds_toArray, List.set_cons_zero, List.set_cons_succ]
      refine laneO_run 3 (by kernel_rfl) ?_
      simp only [List.take_succ_cons, List.take_zero, List.drop_succ_cons, List.drop_zero]
      repeat (go_big_quiet_step (fail))
      refine wpQuiet_nil ?_
      refine laneO_end0 rfl rfl fun w3 hb3 => ?_
      have T3 := Lib.hid (T2.out.behind hb3)
      have B3 := Lib.hid (B2.out.trans (Below.mono hb3 B2.out.size))
      clear y0 y1 y2 y3 y4
      have GV := Lib.hid (ngive_any T3.out B3.out.size (n := r) (sv := s) (hs0.below B3.out) (by unfold rootB at hr; simp only [Bool.and_eq_true, decide_eq_true_eq] at hr; rw [hr.1.1.1]; rfl))
      rw [give_root r hr] at GV
      go_wp2_with fail
      refine GV.out.mono ?_
      rintro e w4 ⟨rfl, hT, hb⟩
      have T4 := Lib.hid hT
      have B4 := Lib.hid (B3.out.trans hb)
      clear hT hb GV T2 T3 B1 B2 B3 hb3
      have h7 : (1 : Int) ≤ (r :: R).length := by simp; omega
      go_upto_region 6 with fail
      go_cut [29, 30, 31] (fun v29 v30 v31 wx => ∃ A' c', v29 = .slice A' R.length c' ∧ (R ≠ [] → A' = some (ad.add 5)) ∧ v30 = .int .i64 R.length ∧ v31 = .int .i64 0 ∧ wx = w4)
      case first =>
        by_cases hc1 : c = 1
        · have hR0 : R = [] := by
            cases R with
            | nil => rfl
            | cons a b => simp at hc; omega
          subst hc1 hR0
          go_wp2_with fail
          go_meet
          exact ⟨_, _, rfl, fun h => absurd rfl h, rfl, rfl, rfl⟩
        · go_wp2_with fail
          go_meet
          exact ⟨_, _, rfl, fun _ => rfl, rfl, rfl, rfl⟩
      case rest =>
        obtain ⟨A', c', rfl, hA, rfl, rfl, rfl⟩ := hcut
        have HT := Lib.hid (H.out.tail A' hA)
        have HUR := Lib.hid (fun n (hn : n ∈ R) => HU.out n (List.mem_cons_of_mem _ hn))
        have hm1 := mostZ_bd most
        clear h7 hA
        go_wp2_with fail
        go_loopw [7, 31] (fun v7 v31 wr => ∃ (k : Nat) (last : Int), k ≤ R.length ∧ v31 = .int .i64 k ∧ v7 = .int .i64 last ∧ Hid (In64i last) ∧ Hid (Tree wr W.heap.size t (mostZ most) (r :: R.take k)) ∧ Hid (growB (mostZ most) [r] 0 R = growB (mostZ most) (r :: R.take k) last (R.drop k)) ∧ k + 1 ≤ mostZ most ∧ Hid (Below W.heap.size W wr)) (fun v7 v31 _ => R.length - (intOf v31).toNat)
        case atStart => exact ⟨0, 0, Nat.zero_le _, rfl, rfl, Lib.hid (by unfold In64i; omega), T4, Lib.hid rfl, by omega, B4⟩
        case round =>
          clear T4 B4
          obtain ⟨k, last, hk, rfl, rfl, hla, hT, hG, hkm, hB⟩ := hrel
          by_cases hlt : k < R.length
          · obtain ⟨ad2, sv2, e2, rfl, hb2, hs2, d0, d1, d2, d3, d4⟩ := (HT.out.below hB.out).nd hlt
            have ST := Lib.hid (of_step (mostZ most) r R k hlt last)
            have DT := Lib.hid (HT.out.dat R[k] (List.getElem_mem hlt))
            have UU := Lib.hid (HUR.out R[k] (List.getElem_mem hlt))
            have TAK := Lib.hid (show R.take (k + 1) = R.take k ++ [R[k]] from List.take_succ_eq_append_getElem hlt)
            have hLn : (r :: R.take k).length = k + 1 := by simp; omega
            generalize R[k] = n at *
            obtain ⟨As, cs, rfl, -⟩ := id hs2
            have P5 := Lib.hid (Whole.mk wr 32 (nodeC n (.slice As n.sty.length cs)).toArray)
            have hal : Below wr.heap.size wr (wr.alloc (.cells (nodeC n (.slice As n.sty.length cs)).toArray 32)) := (Below.refl _ _).alloc (Nat.le_refl _) _
            have T5 := Lib.hid (hT.out.behind hal)
            have B5 := Lib.hid (hB.out.trans (hal.mono hB.out.size))
            have S5 := Lib.hid (hs2.below (hal.mono hB.out.size))
            clear hal hs2
            unfold nodeC at P5 T5 B5 S5
            go_upto_region 9 with fail
            generalize wr.alloc _ = w5 at *
            generalize wr.heap.size = q at *
            clear d0 d1 d2 d3 d4
            have P5 : Hid (Whole w5 q 32 (nodeC n (.slice As n.sty.length cs))) := P5
            go_wp2_with fail
            refine (held_t t w5).mono ?_
            rintro e w6 ⟨rfl, rfl⟩
            go_wp2_with fail
            refine (nfull_any T5.out).mono ?_
            rintro e w6 ⟨rfl, hb⟩
            have T6 := Lib.hid (T5.out.behind hb)
            have B6 := Lib.hid (B5.out.trans (hb.mono B5.out.size))
            have P6 := Lib.hid (P5.out.under hb P5.out.size)
            have S6 := Lib.hid (S5.out.below (hb.mono B5.out.size))
            clear hb T5 B5 P5 S5
            rw [hLn]
            by_cases hfull : mostZ most ≤ k + 1
            · have hd : decide ((mostZ most : Int) ≤ ((k + 1 : Nat) : Int)) = true := by rw [decide_eq_true_eq]; omega
              have EQ := Lib.hid (show growB (mostZ most) [r] 0 R = false by rw [hG.out, ST.out, decide_eq_false (by omega)]; simp)
              have BX := B6
              rw [hd]
              go_wp2_with fail
              refine bodyPost_ret (v := .tuple #[.pointer none, .bool false]) (by simp [results, Tryz.results9, go_sem]) rfl ⟨?_, BX.out⟩
              unfold OfPost
              rw [if_neg (by rw [ofB, hr, Bool.true_and, EQ.out]; simp)]
            · have hd : decide ((mostZ most : Int) ≤ ((k + 1 : Nat) : Int)) = false := by rw [decide_eq_false_iff_not]; omega
              rw [hd]
              have TK := Lib.hid (takes_any T6.out hla.out n (.slice As n.sty.length cs) UU.out (S6.out.at_ B6.out.size) DT.out.1 DT.out.2.1 DT.out.2.2 (by rw [hLn]; omega))
              have c0 : w6.cell? ⟨q, 0, none⟩ = some (.int .i64 n.id) := P6.out.cell 0
              have c1 : w6.cell? ⟨q, 1, none⟩ = some (.int .i64 n.par) := P6.out.cell 1
              have c2 : w6.cell? ⟨q, 2, none⟩ = some (.bool n.tx) := P6.out.cell 2
              have c3 : w6.cell? ⟨q, 3, none⟩ = some (.string n.dat) := P6.out.cell 3
              have c4 : w6.cell? ⟨q, 4, none⟩ = some (.slice As n.sty.length cs) := P6.out.cell 4
              go_wp2_with fail
              refine TK.out.mono ?_
              rintro e w7 ⟨rfl, hb⟩
              have T7 := Lib.hid (T6.out.behind hb)
              have B7 := Lib.hid (B6.out.trans (hb.mono B6.out.size))
              have P7 := Lib.hid (P6.out.under hb P6.out.size)
              have S7 := Lib.hid (S6.out.below (hb.mono B6.out.size))
              clear hb T6 B6 P6 S6 TK c0 c1 c2 c3 c4
              cases htk : takesB (r :: R.take k) last n
              · have EQ := Lib.hid (show growB (mostZ most) [r] 0 R = false by rw [hG.out, ST.out, htk]; simp)
                have BX := B7
                go_wp2_with fail
                refine bodyPost_ret (v := .tuple #[.pointer none, .bool false]) (by simp [results, Tryz.results9, go_sem]) rfl ⟨?_, BX.out⟩
                unfold OfPost
                rw [if_neg (by rw [ofB, hr, Bool.true_and, EQ.out]; simp)]
              · have EQ := Lib.hid (show growB (mostZ most) [r] 0 R = growB (mostZ most) (r :: R.take (k + 1)) n.id (R.drop (k + 1)) by rw [hG.out, ST.out, htk, decide_eq_true (by omega)]; simp)
                obtain ⟨f1, f2, -, -, -, -, f7⟩ := takes_facts htk
                go_upto_region 11 with fail
                have YP := Lib.hid (fun w (hb : Behind w7 w) => P7.out.under hb P7.out.size)
                refine region_lane [] [0, 1, 2] [3] (by kernel_rfl) (by kernel_rfl) (fun _ _ _ _ _ h => h) ?_
                simp only [pick, List.map_nil]
                refine wpQuiet_nil ⟨rfl, ?_⟩
                simp only [List.map_cons, List.map_nil, List.getD_cons_zero, List.getD_cons_succ, List.drop_succ_cons, List.drop_zero]
                refine laneO_run 1 (by kernel_rfl) ?_
                simp only [List.take_succ_cons, List.take_zero, List.drop_succ_cons, List.drop_zero]
                repeat (go_big_quiet_step (fail))
                refine wpQuiet_nil ?_
                refine laneO_call (v := (.pointer (some ⟨t, 0, none⟩))) (by kernel_rfl) (by rfl) (fun C hC h0 => ?_) ?_
                focus (go_big_quiet_op; exact ⟨_, fun w hw => (held_t t w).mono fun e w' ⟨he, hb⟩ => ⟨he, hb ▸ hw⟩, rfl⟩)
                simp only [Act.put, List.setIfInBounds_toArray, List.set_cons_zero, List.set_cons_succ]
                refine laneO_fixed (v := .agg (nodeC n (.slice As n.sty.length cs)).toArray) (by kernel_rfl) (fun w hw => .inl ⟨by rfl, cells_gives (n := 5) nodeT (.tmp 9) rfl q rfl (nodeC n (.slice As n.sty.length cs)) rfl 32 (YP.out w hw)⟩) ?_
                simp only [Act.put, List.setIfInBounds_toArray, List.set_cons_zero, List.set_cons_succ]
                refine laneO_end0 rfl rfl fun w8 hb8 => ?_
                have T8 := Lib.hid (T7.out.behind hb8)
                have B8 := Lib.hid (B7.out.trans (Below.mono hb8 B7.out.size))
                have P8 := Lib.hid (P7.out.under hb8 P7.out.size)
                have S8 := Lib.hid (S7.out.below (Below.mono hb8 B7.out.size))
                clear YP T7 B7 P7 S7 hb8
                go_wp2_with fail
                refine (nput_any T8.out B8.out.size (S8.out.at_ B8.out.size) f1 f2 f7 (by rw [hLn]; omega)).mono ?_
                rintro e w9 ⟨rfl, hT9, hb, hq⟩
                have T9 := Lib.hid (show Tree w9 W.heap.size t (mostZ most) (r :: R.take (k + 1)) by rw [TAK.out]; exact hT9)
                have B9 := Lib.hid (B8.out.trans hb)
                have P9 := hq q _ P8.out
                have c0 : w9.cell? ⟨q, 0, none⟩ = some (.int .i64 n.id) := P9.cell 0
                clear hT9 hb hq P9 P8 S8 T8 B8
                go_wp2_with fail
                go_roundw
                case rel => exact ⟨k + 1, n.id, by omega, by go_num, rfl, Lib.hid DT.out.2.1, T9, EQ, by omega, B9⟩
                case measure => simp [intOf]; omega
          · have hq : k = R.length := by omega
            have EQ := Lib.hid (show ofB most (r :: R) = true by rw [ofB, hr, Bool.true_and, hG.out, hq, List.drop_length]; rfl)
            have TX := Lib.hid (show Tree wr W.heap.size t (mostZ most) (r :: R) by have := hT.out; rw [hq, List.take_length] at this; exact this)
            go_wp2_with fail
            refine bodyPost_ret (v := .tuple #[.pointer (some ⟨t, 0, none⟩), .bool true]) (by simp [results, Tryz.results9, go_sem]) rfl ⟨?_, hB.out⟩
            unfold OfPost
            rw [if_pos EQ.out]
            exact ⟨t, rfl, TX.out⟩
end Go.Proofs.YtpbfdfpedpfemaaGreatDoor
