import Derived.Test.YtodnplllkpgfaaaFreeMoreQ
import Derived.Test.YtodnplllkpgfaaaFreeTameQ
/- FreeShares: each within its bounds; the room, or all at their ends. -/
namespace Go.Proofs.Ytodnplllkpgfaaa
open Go Go.RowKit
set_option linter.unusedVariables false
set_option linter.unusedSimpArgs false
set_option maxRecDepth 20000
set_option maxHeartbeats 8000000

theorem shares_num {inner : Int} {l : List Fx} (hr : InRoom inner) (hok : ∀ x ∈ l, FxOk x) (hlen : l.length ≤ 500) : ∃ r : List It, r.map It.x = l ∧ r.map It.s = sizesF inner l ∧ (∀ i ∈ r, Fits1 i) ∧
    ((growsF inner l = true ∧ allS r ≤ inner ∧ (allS r < inner → ∀ i ∈ r, 0 < i.x.grow → 0 ≤ i.x.mx ∧ topF i.x ≤ i.s)) ∨
     (growsF inner l = false ∧ inner ≤ allS r ∧ (inner < allS r → ∀ i ∈ r, 0 < i.x.shrink → 0 < i.x.base → hypF i.x ≤ i.x.base → i.s ≤ botF i.x))) := by
  cases hg : growsF inner l with
  | true => obtain ⟨r, h1, h2, h3, h4, h5⟩ := grow_shares hok hlen hr hg; exact ⟨r, h1, h2, h3, .inl ⟨rfl, h4, h5⟩⟩
  | false => obtain ⟨r, h1, h2, h3, h4, h5⟩ := shrink_shares hok hlen hr hg; exact ⟨r, h1, h2, h3, .inr ⟨rfl, h4, h5⟩⟩
theorem allS_bd {l : List Fx} {r : List It} {P : List Int} (k : Nat) (hok : ∀ x ∈ l, FxOk x) (e1 : r.map It.x = l) (e2 : r.map It.s = P) (hP : ∀ z ∈ P, 0 ≤ z ∧ z ≤ 54043195528445952) : -(8796093022208 * (r.take k).length : Int) ≤ allS (r.take k) ∧ allS (r.take k) ≤ 54051991621468160 * ((r.take k).length : Int) :=
  ⟨sum_lo_by _ fun i hi => by
    have hi := List.mem_of_mem_take hi
    have h1 := (hok i.x (by rw [← e1]; exact List.mem_map_of_mem hi)).a0
    have h2 := (hP i.s (by rw [← e2]; exact List.mem_map_of_mem hi)).1
    show _ ≤ i.x.around + i.s; omega,
   sum_hi_by _ fun i hi => by
    have hi := List.mem_of_mem_take hi
    have h1 := (hok i.x (by rw [← e1]; exact List.mem_map_of_mem hi)).a1
    have h2 := (hP i.s (by rw [← e2]; exact List.mem_map_of_mem hi)).2
    show i.x.around + i.s ≤ _; omega⟩
theorem fshares_any (l0 : List Fx) (hl : l0.length ≤ 9223372036854775807) (A : Option Addr) (c : Nat) (inner : Int) (small : Bool) (W : World) (hR : Row W W.heap.size A (l0.flatMap fxC)) :
    Calls Try.prog 7 #[.slice A l0.length c, .int .i64 inner, .bool small] W fun e w' => e = .returned (.bool true) ∧ Below W.heap.size W w' := by
  have AW := Lib.hid (fun w => fawake_any w)
  have TM := Lib.hid (ftame_any l0 hl A c small W hR)
  clear hR
  go_enter Try.func7, Try.ntmps7
  go_wp2_with fail
  refine TM.out.mono ?_
  rintro e w1 ⟨l, A1, c1, rfl, o1, hl12, hok, hb1⟩
  have R1 := Lib.hid (row_of_own o1)
  have B1 := Lib.hid hb1
  clear o1 hb1 TM
  cases small with
  | true =>
    have CV := conv_lt inner 1099511627776 (by decide) (by decide)
    obtain ⟨u, hu, u0, u1⟩ := CV
    have k10 : ∀ x : Int, bits .and .i64 x 1023 = x % 1024 := fun x => and_mask_i64 x 10 (by decide)
    have t0 := Int.emod_nonneg u (show (1024 : Int) ≠ 0 by decide)
    have t1 := Int.emod_lt_of_pos u (show (0 : Int) < 1024 by decide)
    obtain ⟨t, ht⟩ : ∃ t, u % 1024 = t := ⟨_, rfl⟩
    rw [ht] at t0 t1
    have ra : InRoom t := ⟨by omega, by omega⟩
    have hl5 : l.length ≤ 500 := by omega
    obtain ⟨r, er1, er2, rf, rs⟩ := shares_num ra hok hl5
    have SB := Lib.hid (sizes_bd ra hok hl5)
    have la : (sizesF t l).length = l.length := sizesF_len _ _
    have ea := res_yes ra hok hl5
    obtain ⟨n, hn⟩ : ∃ n, l.length = n := ⟨_, rfl⟩
    have HN := Lib.hid hn
    have FA := Lib.hid (fun (w : World) (h : Row w w.heap.size A1 (l.flatMap fxC)) => (fres_any l A1 c1 t w h (by omega)).mono fun e w' hp => res_row hp ea la)
    rw [hn] at FA hl12 la
    have HRN := Lib.hid (show r.length = n by have h := congrArg List.length er1; rw [List.length_map, hn] at h; exact h)
    obtain ⟨P, hP⟩ : ∃ P, sizesF t l = P := ⟨_, rfl⟩
    rw [hP] at SB la FA er2
    have LA := Lib.hid la
    have E1 := Lib.hid er1
    have E2 := Lib.hid er2
    have RF := Lib.hid rf
    have HA : Hid (haS l < t ↔ growsF t l = true) := Lib.hid (by unfold growsF; rw [decide_eq_true_eq]; rfl)
    have HOK := Lib.hid hok
    have HG0 : Hid (decide (haS l < t) = growsF t l) := Lib.hid rfl
    have RS := Lib.hid rs
    have AB := Lib.hid (fun k => allS_bd (r := r) (P := P) k hok er1 er2 SB.out)
    have HB := Lib.hid (fun k => haS_bd (l.take k) (fun x hx => hok x (List.mem_of_mem_take hx)))
    rw [hn]
    clear ra hl5 er1 er2 rf rs la ea hn hP hok
    go_wp2_with fail
    clear hu k10 ht
    refine (FA.out _ R1.out).mono ?_
    rintro e w2 ⟨A2, c2, rfl, r2, hb2⟩
    have R2 := Lib.hid r2
    have S1 := Lib.hid ((R1.out.below hb2).more hb2.size)
    have B2 := Lib.hid (B1.out.trans (hb2.mono B1.out.size))
    clear r2 hb2 FA R1 B1
    go_wp2_with fail
    go_loopw [9, 10, 11] (fun v9 v10 v11 wr => ∃ k : Nat, v9 = .int .i64 (allS (r.take k)) ∧ v10 = .int .i64 (haS (l.take k)) ∧ v11 = .int .i64 k ∧ k ≤ n ∧ Hid (Below w2.heap.size w2 wr)) (fun _ _ v11 _ => n - (intOf v11).toNat)
    case atStart => exact ⟨0, rfl, rfl, rfl, Nat.zero_le _, Lib.hid (Below.refl _ _)⟩
    case round =>
      generalize wr = w3 at *
      obtain ⟨k, rfl, rfl, rfl, hk, B3⟩ := hrel
      by_cases hlt : k < n
      · have hltz : (k : Int) < n := by omega
        have hkl : k < l.length := by rw [HN.out]; exact hlt
        have hkr : k < r.length := by rw [HRN.out]; exact hlt
        have hkp : k < P.length := by rw [LA.out]; exact hlt
        obtain ⟨a1, rfl, hab1, d0, d1, d2, d3, d4, d5⟩ := Row.flex (S1.out.below B3.out) hkl
        obtain ⟨a2, rfl, hab2, dp⟩ := (R2.out.below B3.out).int hkp
        have hx := HOK.out _ (List.getElem_mem hkl)
        have hp := SB.out _ (List.getElem_mem hkp)
        have hf := RF.out _ (List.getElem_mem hkr)
        have ex : r[k].x = l[k] := by
          have h : (r.map It.x)[k]? = l[k]? := by rw [E1.out]
          rw [List.getElem?_map, List.getElem?_eq_getElem hkr, List.getElem?_eq_getElem hkl] at h
          simpa using h
        have es : r[k].s = P[k] := by
          have h : (r.map It.s)[k]? = P[k]? := by rw [E2.out]
          rw [List.getElem?_map, List.getElem?_eq_getElem hkr, List.getElem?_eq_getElem hkp] at h
          simpa using h
        have AT : allS (r.take (k + 1)) = allS (r.take k) + P[k] + l[k].around := by
          unfold allS
          rw [List.take_succ_eq_append_getElem hkr, List.map_append, List.sum_append, ← ex, ← es]
          simp; omega
        have HT := haS_take l k hkl
        have a0 := AB.out k
        have a9 := AB.out (k + 1)
        have h0 := HB.out k
        have h9 := HB.out (k + 1)
        rw [List.length_take, HN.out] at h0 h9
        rw [List.length_take, HRN.out] at a0 a9
        unfold Fits1 botF topF at hf
        rw [ex, es] at hf
        obtain ⟨x, hxe⟩ : ∃ x, l[k] = x := ⟨_, rfl⟩
        obtain ⟨p, hpe⟩ : ∃ p, P[k] = p := ⟨_, rfl⟩
        rw [hxe] at d0 d1 d2 d3 d4 d5 hx hf AT HT
        rw [hpe] at dp hp hf AT
        rw [AT] at a9
        rw [HT] at h9
        have AT := Lib.hid AT
        have HT := Lib.hid HT
        obtain ⟨S, hS⟩ : ∃ S, allS (r.take k) = S := ⟨_, rfl⟩
        obtain ⟨H, hH⟩ : ∃ H, haS (l.take k) = H := ⟨_, rfl⟩
        rw [hS] at AT a0 a9 ⊢
        rw [hH] at HT h0 h9 ⊢
        clear hxe hpe hS hH ex es
        have m0 := hx.m0
        have b0 := hx.b0
        have hy1 := hypF_hi hx
        have hy0 : 0 ≤ hypF x := by have := hypF_bot x; have := botF_nn x; omega
        have ha0 := hx.a0
        have ha1 := hx.a1
        have HY := Lib.hid (fun w => rhyp_any x w)
        have z1 : decide (p < x.mn) = false := decide_eq_false (by omega)
        have z1p : ¬ p < x.mn := by omega
        have z2 : decide (p < 0) = false := decide_eq_false (by omega)
        have z2p : ¬ p < 0 := by omega
        have z4 : x.mx ≥ 0 → decide (p > max x.mx x.mn) = false ∧ ¬ p > max x.mx x.mn := fun h => ⟨decide_eq_false (by have := hf.2 h; omega), by have := hf.2 h; omega⟩
        have Z4 := Lib.hid z4
        clear z4 hx hf
        have c1q : ∀ q, (w3.drewN q).cell? ⟨(a1.add (k * 6)).block, (a1.add (k * 6)).off + 1, none⟩ = some (.int .i64 x.mn) := fun q => d1
        have c2q : ∀ q, (w3.drewN q).cell? ⟨(a1.add (k * 6)).block, (a1.add (k * 6)).off + 2, none⟩ = some (.int .i64 x.mx) := fun q => d2
        have hbl : (a1.add (k * 6)).block < w3.heap.size := by have := B3.out.size; rw [add_block]; omega
        have hbl2 : (a2.add k).block < w3.heap.size := by have := B3.out.size; rw [add_block]; omega
        have D0 := Lib.hid d0
        have D1 := Lib.hid d1
        have D2 := Lib.hid d2
        have D3 := Lib.hid d3
        have D4 := Lib.hid d4
        have D5 := Lib.hid d5
        have DP := Lib.hid dp
        clear d0 d1 d2 d3 d4 d5 dp
        go_upto_region 12 with fail
        go_quiet (fail)
        have QB := Below.drewN' (Below.refl w3.heap.size w3) nq
        have hsq : w3.heap.size = (w3.drewN nq).heap.size := rfl
        have B4 := Lib.hid (Below.drewN' B3.out nq)
        have e0 : (w3.drewN nq).cell? (a1.add (k * 6)) = some (.int .i64 x.base) := D0.out
        have e1 : (w3.drewN nq).cell? ⟨(a1.add (k * 6)).block, (a1.add (k * 6)).off + 1, none⟩ = some (.int .i64 x.mn) := D1.out
        have e2 : (w3.drewN nq).cell? ⟨(a1.add (k * 6)).block, (a1.add (k * 6)).off + 2, none⟩ = some (.int .i64 x.mx) := D2.out
        have e3 : (w3.drewN nq).cell? ⟨(a1.add (k * 6)).block, (a1.add (k * 6)).off + 3, none⟩ = some (.int .i64 x.grow) := D3.out
        have e4 : (w3.drewN nq).cell? ⟨(a1.add (k * 6)).block, (a1.add (k * 6)).off + 4, none⟩ = some (.int .i64 x.shrink) := D4.out
        have e5 : (w3.drewN nq).cell? ⟨(a1.add (k * 6)).block, (a1.add (k * 6)).off + 5, none⟩ = some (.int .i64 x.around) := D5.out
        have ep : (w3.drewN nq).cell? (a2.add k) = some (.int .i64 p) := DP.out
        rw [hsq] at hbl hbl2
        clear D0 D1 D2 D3 D4 D5 DP c1q c2q QB hsq B3
        generalize w3.drewN nq = w4 at *
        have c0 : ∀ t : Later w4.heap.size w4, t.w.cell? (a1.add (k * 6)) = some (.int .i64 x.base) := fun t => (t.h.cell (p := a1.add (k * 6)) hbl).trans e0
        have c1 : ∀ t : Later w4.heap.size w4, t.w.cell? ⟨(a1.add (k * 6)).block, (a1.add (k * 6)).off + 1, none⟩ = some (.int .i64 x.mn) := fun t => (t.h.cell (p := ⟨(a1.add (k * 6)).block, (a1.add (k * 6)).off + 1, none⟩) hbl).trans e1
        have c2 : ∀ t : Later w4.heap.size w4, t.w.cell? ⟨(a1.add (k * 6)).block, (a1.add (k * 6)).off + 2, none⟩ = some (.int .i64 x.mx) := fun t => (t.h.cell (p := ⟨(a1.add (k * 6)).block, (a1.add (k * 6)).off + 2, none⟩) hbl).trans e2
        have c3 : ∀ t : Later w4.heap.size w4, t.w.cell? ⟨(a1.add (k * 6)).block, (a1.add (k * 6)).off + 3, none⟩ = some (.int .i64 x.grow) := fun t => (t.h.cell (p := ⟨(a1.add (k * 6)).block, (a1.add (k * 6)).off + 3, none⟩) hbl).trans e3
        have c4 : ∀ t : Later w4.heap.size w4, t.w.cell? ⟨(a1.add (k * 6)).block, (a1.add (k * 6)).off + 4, none⟩ = some (.int .i64 x.shrink) := fun t => (t.h.cell (p := ⟨(a1.add (k * 6)).block, (a1.add (k * 6)).off + 4, none⟩) hbl).trans e4
        have c5 : ∀ t : Later w4.heap.size w4, t.w.cell? ⟨(a1.add (k * 6)).block, (a1.add (k * 6)).off + 5, none⟩ = some (.int .i64 x.around) := fun t => (t.h.cell (p := ⟨(a1.add (k * 6)).block, (a1.add (k * 6)).off + 5, none⟩) hbl).trans e5
        have cp : ∀ t : Later w4.heap.size w4, t.w.cell? (a2.add k) = some (.int .i64 p) := fun t => (t.h.cell (p := a2.add k) hbl2).trans ep
        have n1 : -9223372036854775808 ≤ S + p ∧ S + p ≤ 9223372036854775807 := by omega
        have n2 : -9223372036854775808 ≤ S + p + x.around ∧ S + p + x.around ≤ 9223372036854775807 := by omega
        have n3 : -9223372036854775808 ≤ H + hypF x ∧ H + hypF x ≤ 9223372036854775807 := by omega
        have n4 : -9223372036854775808 ≤ H + hypF x + x.around ∧ H + hypF x + x.around ≤ 9223372036854775807 := by omega
        by_cases hm : x.mx ≥ 0
        · have z3 : decide (x.mx ≥ 0) = true := decide_eq_true hm
          obtain ⟨z5, z5p⟩ := Z4.out hm
          go_upto_region 15 with fail
          clear e0 e1 e2 e3 e4 e5 ep
          refine region_lane [] (List.range 26) [26] (by kernel_rfl) (by kernel_rfl) (fun _ _ _ _ _ h => h) ?_
          simp only [pick, List.map_nil]
          refine wpQuiet_nil ⟨rfl, ?_⟩
          rw [show List.range 26 = [0, 1, 2, 3, 4, 5, 6, 7, 8, 9, 10, 11, 12, 13, 14, 15, 16, 17, 18, 19, 20, 21, 22, 23, 24, 25] from rfl]
          simp only [List.map_cons, List.map_nil, List.getD_cons_zero, List.getD_cons_succ, List.drop_succ_cons, List.drop_zero]
          refine laneO_run 17 (by kernel_rfl) ?_
          simp only [List.take_succ_cons, List.take_zero, List.drop_succ_cons, List.drop_zero]
          repeat (go_big_quiet_step (fail))
          refine wpQuiet_nil ?_
          refine laneO_call (v := .int .i64 (hypF x)) (by kernel_rfl) (by rfl) (fun C hC h0 => ?_) ?_
          focus (go_big_quiet_op; exact ⟨_, fun w hw => (HY.out w).mono fun e w' ⟨he, hb⟩ => ⟨he, hC _ _ hw hb⟩, rfl⟩)
          simp only [Act.put, List.setIfInBounds_toArray, List.set_cons_zero, List.set_cons_succ]
          refine laneO_run 8 (by kernel_rfl) ?_
          simp only [List.take_succ_cons, List.take_zero, List.drop_succ_cons, List.drop_zero]
          repeat (go_big_quiet_step (fail))
          refine wpQuiet_nil ?_
          refine laneO_end0 rfl rfl fun w5 hb5 => ?_
          have B5 := Lib.hid (B4.out.trans (hb5.mono B4.out.size))
          clear c0 c1 c2 c3 c4 c5 cp hb5 B4
          go_wp2_with fail
          go_roundw
          case rel => exact ⟨k + 1, by rw [AT.out], by rw [HT.out], by go_num, by omega, B5⟩
          case measure => simp [intOf] <;> omega
        · have z3 : decide (x.mx ≥ 0) = false := decide_eq_false hm
          go_upto_region 15 with fail
          clear e0 e1 e2 e3 e4 e5 ep
          refine region_lane [] (List.range 26) [26] (by kernel_rfl) (by kernel_rfl) (fun _ _ _ _ _ h => h) ?_
          simp only [pick, List.map_nil]
          refine wpQuiet_nil ⟨rfl, ?_⟩
          rw [show List.range 26 = [0, 1, 2, 3, 4, 5, 6, 7, 8, 9, 10, 11, 12, 13, 14, 15, 16, 17, 18, 19, 20, 21, 22, 23, 24, 25] from rfl]
          simp only [List.map_cons, List.map_nil, List.getD_cons_zero, List.getD_cons_succ, List.drop_succ_cons, List.drop_zero]
          refine laneO_run 17 (by kernel_rfl) ?_
          simp only [List.take_succ_cons, List.take_zero, List.drop_succ_cons, List.drop_zero]
          repeat (go_big_quiet_step (fail))
          refine wpQuiet_nil ?_
          refine laneO_call (v := .int .i64 (hypF x)) (by kernel_rfl) (by rfl) (fun C hC h0 => ?_) ?_
          focus (go_big_quiet_op; exact ⟨_, fun w hw => (HY.out w).mono fun e w' ⟨he, hb⟩ => ⟨he, hC _ _ hw hb⟩, rfl⟩)
          simp only [Act.put, List.setIfInBounds_toArray, List.set_cons_zero, List.set_cons_succ]
          refine laneO_run 8 (by kernel_rfl) ?_
          simp only [List.take_succ_cons, List.take_zero, List.drop_succ_cons, List.drop_zero]
          repeat (go_big_quiet_step (fail))
          refine wpQuiet_nil ?_
          refine laneO_end0 rfl rfl fun w5 hb5 => ?_
          have B5 := Lib.hid (B4.out.trans (hb5.mono B4.out.size))
          clear c0 c1 c2 c3 c4 c5 cp hb5 B4
          go_wp2_with fail
          go_roundw
          case rel => exact ⟨k + 1, by rw [AT.out], by rw [HT.out], by go_num, by omega, B5⟩
          case measure => simp [intOf] <;> omega
      · obtain rfl : n = k := by omega
        have hltz : ¬ (n : Int) < n := by omega
        have e1 : r.take n = r := List.take_of_length_le (by rw [HRN.out]; omega)
        have e2 : l.take n = l := List.take_of_length_le (by rw [HN.out]; omega)
        have a0 := AB.out n
        have h0 := HB.out n
        rw [e1, HRN.out] at a0
        rw [e2, HN.out] at h0
        rw [e1, e2]
        clear e1 e2 AB HB
        have B4 := Lib.hid (B2.out.trans (B3.out.mono B2.out.size))
        have T1 := Lib.hid ((S1.out.below B3.out).more B3.out.size)
        have T2 := Lib.hid ((R2.out.below B3.out).more B3.out.size)
        clear B2 S1 R2 B3
        obtain ⟨S, hS⟩ : ∃ S, allS r = S := ⟨_, rfl⟩
        rw [hS] at RS a0 ⊢
        clear hS
        obtain ⟨H, hH⟩ : ∃ H, haS l = H := ⟨_, rfl⟩
        rw [hH] at HG0 h0 ⊢
        clear hH HA
        by_cases hst : S = t
        · have zs : (S == t) = true := by rw [beq_iff_eq]; exact hst
          have HST := Lib.hid hst
          clear hst
          go_wp2_with fail
          refine (AW.out _).mono ?_
          rintro e w5 ⟨rfl, hb5⟩
          have B5 := Lib.hid (B4.out.trans (hb5.mono B4.out.size))
          clear hb5
          go_wp2_with fail
          go_ret
          exact ⟨rfl, B5.out⟩
        · have zs : (S == t) = false := by rw [beq_eq_false_iff_ne]; exact hst
          have hne : S < t ∨ t < S := by omega
          have HNE := Lib.hid hne
          clear hst hne
          have G0 := HG0.out
          obtain ⟨gr, hgr⟩ : ∃ g, growsF t l = g := ⟨_, rfl⟩
          rw [hgr] at G0 RS
          clear hgr HG0
          go_wp2_with fail
          clear zs
          go_loopw [15] (fun v15 wr => ∃ k : Nat, v15 = .int .i64 k ∧ k ≤ n ∧ Hid (Below w3.heap.size w3 wr)) (fun v15 _ => n - (intOf v15).toNat)
          case atStart => exact ⟨0, rfl, Nat.zero_le _, Lib.hid (Below.refl _ _)⟩
          case round =>
            generalize wr = w5 at *
            obtain ⟨k, rfl, hk, B5⟩ := hrel
            by_cases hlt : k < n
            · have hltz : (k : Int) < n := by omega
              have hkl : k < l.length := by rw [HN.out]; exact hlt
              have hkr : k < r.length := by rw [HRN.out]; exact hlt
              have hkp : k < P.length := by rw [LA.out]; exact hlt
              obtain ⟨a1, rfl, hab1, d0, d1, d2, d3, d4, d5⟩ := Row.flex (T1.out.below B5.out) hkl
              obtain ⟨a2, rfl, hab2, dp⟩ := (T2.out.below B5.out).int hkp
              have hx := HOK.out _ (List.getElem_mem hkl)
              have ex : r[k].x = l[k] := by
                have h : (r.map It.x)[k]? = l[k]? := by rw [E1.out]
                rw [List.getElem?_map, List.getElem?_eq_getElem hkr, List.getElem?_eq_getElem hkl] at h
                simpa using h
              have es : r[k].s = P[k] := by
                have h : (r.map It.s)[k]? = P[k]? := by rw [E2.out]
                rw [List.getElem?_map, List.getElem?_eq_getElem hkr, List.getElem?_eq_getElem hkp] at h
                simpa using h
              have rs : (gr = true ∧ S ≤ t ∧ (S < t → 0 < l[k].grow → 0 ≤ l[k].mx ∧ topF l[k] ≤ P[k])) ∨ (gr = false ∧ t ≤ S ∧ (t < S → 0 < l[k].shrink → 0 < l[k].base → hypF l[k] ≤ l[k].base → P[k] ≤ botF l[k])) := by
                have hm := List.getElem_mem hkr
                rcases RS.out with ⟨g1, g2, g3⟩ | ⟨g1, g2, g3⟩
                · exact .inl ⟨g1, g2, fun h h2 => by have := g3 h _ hm (by rw [ex]; exact h2); rw [ex, es] at this; exact this⟩
                · exact .inr ⟨g1, g2, fun h h2 h3 h4 => by have := g3 h _ hm (by rw [ex]; exact h2) (by rw [ex]; exact h3) (by rw [ex]; exact h4); rw [ex, es] at this; exact this⟩
              obtain ⟨x, hxe⟩ : ∃ x, l[k] = x := ⟨_, rfl⟩
              obtain ⟨p, hpe⟩ : ∃ p, P[k] = p := ⟨_, rfl⟩
              rw [hxe] at d0 d1 d2 d3 d4 d5 hx rs
              rw [hpe] at dp rs
              have m0 := hx.m0
              have HY := Lib.hid (fun w => rhyp_any x w)
              have R5 := Lib.hid rs
              clear hxe hpe ex es rs hx
              have hbl : (a1.add (k * 6)).block < w5.heap.size := by have := B5.out.size; rw [add_block]; omega
              have hbl2 : (a2.add k).block < w5.heap.size := by have := B5.out.size; rw [add_block]; omega
              have D0 := Lib.hid d0
              have D1 := Lib.hid d1
              have D2 := Lib.hid d2
              have D3 := Lib.hid d3
              have D4 := Lib.hid d4
              have DP := Lib.hid dp
              go_wp2_with fail
              refine (HY.out _).mono ?_
              rintro e w6 ⟨rfl, hb6⟩
              have B6 := Lib.hid (B5.out.trans (hb6.mono B5.out.size))
              have c0 := (hb6.cell (p := a1.add (k * 6)) hbl).trans D0.out
              have c1 := (hb6.cell (p := ⟨(a1.add (k * 6)).block, (a1.add (k * 6)).off + 1, none⟩) hbl).trans D1.out
              have c2 := (hb6.cell (p := ⟨(a1.add (k * 6)).block, (a1.add (k * 6)).off + 2, none⟩) hbl).trans D2.out
              have c3 := (hb6.cell (p := ⟨(a1.add (k * 6)).block, (a1.add (k * 6)).off + 3, none⟩) hbl).trans D3.out
              have c4 := (hb6.cell (p := ⟨(a1.add (k * 6)).block, (a1.add (k * 6)).off + 4, none⟩) hbl).trans D4.out
              have cp := (hb6.cell (p := a2.add k) hbl2).trans DP.out
              clear D0 D1 D2 D3 D4 DP d0 d1 d2 d3 d4 d5 dp B5 hbl hbl2 hb6 HY
              have q0 : ∀ q, (w6.drewN q).cell? (a1.add (k * 6)) = some (.int .i64 x.base) := fun q => c0
              have q1 : ∀ q, (w6.drewN q).cell? ⟨(a1.add (k * 6)).block, (a1.add (k * 6)).off + 1, none⟩ = some (.int .i64 x.mn) := fun q => c1
              have q2 : ∀ q, (w6.drewN q).cell? ⟨(a1.add (k * 6)).block, (a1.add (k * 6)).off + 2, none⟩ = some (.int .i64 x.mx) := fun q => c2
              have q3 : ∀ q, (w6.drewN q).cell? ⟨(a1.add (k * 6)).block, (a1.add (k * 6)).off + 3, none⟩ = some (.int .i64 x.grow) := fun q => c3
              have q4 : ∀ q, (w6.drewN q).cell? ⟨(a1.add (k * 6)).block, (a1.add (k * 6)).off + 4, none⟩ = some (.int .i64 x.shrink) := fun q => c4
              have qp : ∀ q, (w6.drewN q).cell? (a2.add k) = some (.int .i64 p) := fun q => cp
              clear c0 c1 c2 c3 c4 cp
              obtain ⟨hy, hhy⟩ : ∃ h, hypF x = h := ⟨_, rfl⟩
              rw [hhy] at R5 ⊢
              clear hhy
              rcases R5.out with ⟨g1, g2, g3⟩ | ⟨g1, g2, g3⟩
              · subst g1
                have hlt3 : S < t := by rcases HNE.out with h | h <;> omega
                have y1 : decide (S < t) = true := decide_eq_true hlt3
                have y3 := g3 hlt3
                unfold topF at y3
                have Y3 := Lib.hid y3
                clear g3 y3 q0 q4
                by_cases f1 : x.grow > 0
                · have y4 : decide (x.grow > 0) = true := decide_eq_true f1
                  obtain ⟨k1, k2⟩ := Y3.out f1
                  have y5 : decide (x.mx < 0) = false := decide_eq_false (by omega)
                  have y5p : ¬ x.mx < 0 := by omega
                  have y6 : decide (p < max x.mx x.mn) = false := decide_eq_false (by omega)
                  have y6p : ¬ p < max x.mx x.mn := by omega
                  go_upto_region 25 with fail
                  go_quiet (fail)
                  have B7 := Lib.hid (Below.drewN' B6.out nq)
                  clear B6 q1 q2 q3 qp
                  generalize w6.drewN nq = w7 at *
                  go_wp2_with fail
                  go_roundw
                  case rel => exact ⟨k + 1, by go_num, by omega, B7⟩
                  case measure => simp [intOf] <;> omega
                · have y4 : decide (x.grow > 0) = false := decide_eq_false f1
                  go_upto_region 25 with fail
                  go_quiet (fail)
                  have B7 := Lib.hid (Below.drewN' B6.out nq)
                  clear B6 q1 q2 q3 qp
                  generalize w6.drewN nq = w7 at *
                  go_wp2_with fail
                  go_roundw
                  case rel => exact ⟨k + 1, by go_num, by omega, B7⟩
                  case measure => simp [intOf] <;> omega
              · subst g1
                have hlt3 : S > t := by rcases HNE.out with h | h <;> omega
                have y1 : decide (S > t) = true := decide_eq_true hlt3
                have y3 := g3 hlt3
                unfold botF at y3
                have Y3 := Lib.hid y3
                clear g3 y3 q2 q3
                by_cases f1 : x.shrink > 0
                · have y4 : decide (x.shrink > 0) = true := decide_eq_true f1
                  by_cases f2 : x.base > 0
                  · have y5 : decide (x.base > 0) = true := decide_eq_true f2
                    by_cases f3 : p > max x.mn 0
                    · have y6 : decide (p > max x.mn 0) = true := decide_eq_true f3
                      have f4 : ¬ x.base ≥ hy := fun h => by have := Y3.out f1 f2 h; omega
                      have y7 : decide (x.base ≥ hy) = false := decide_eq_false f4
                      go_upto_region 28 with fail
                      go_quiet (fail)
                      have B7 := Lib.hid (Below.drewN' B6.out nq)
                      clear B6 q0 q1 q4 qp
                      generalize w6.drewN nq = w7 at *
                      go_wp2_with fail
                      go_roundw
                      case rel => exact ⟨k + 1, by go_num, by omega, B7⟩
                      case measure => simp [intOf] <;> omega
                    · have y6 : decide (p > max x.mn 0) = false := decide_eq_false f3
                      go_upto_region 28 with fail
                      go_quiet (fail)
                      have B7 := Lib.hid (Below.drewN' B6.out nq)
                      clear B6 q0 q1 q4 qp
                      generalize w6.drewN nq = w7 at *
                      go_wp2_with fail
                      go_roundw
                      case rel => exact ⟨k + 1, by go_num, by omega, B7⟩
                      case measure => simp [intOf] <;> omega
                  · have y5 : decide (x.base > 0) = false := decide_eq_false f2
                    go_upto_region 28 with fail
                    go_quiet (fail)
                    have B7 := Lib.hid (Below.drewN' B6.out nq)
                    clear B6 q0 q1 q4 qp
                    generalize w6.drewN nq = w7 at *
                    go_wp2_with fail
                    go_roundw
                    case rel => exact ⟨k + 1, by go_num, by omega, B7⟩
                    case measure => simp [intOf] <;> omega
                · have y4 : decide (x.shrink > 0) = false := decide_eq_false f1
                  go_upto_region 28 with fail
                  go_quiet (fail)
                  have B7 := Lib.hid (Below.drewN' B6.out nq)
                  clear B6 q0 q1 q4 qp
                  generalize w6.drewN nq = w7 at *
                  go_wp2_with fail
                  go_roundw
                  case rel => exact ⟨k + 1, by go_num, by omega, B7⟩
                  case measure => simp [intOf] <;> omega
            · obtain rfl : n = k := by omega
              have hltz : ¬ (n : Int) < n := by omega
              have B6 := Lib.hid (B4.out.trans (B5.out.mono B4.out.size))
              go_wp2_with fail
              refine (AW.out _).mono ?_
              rintro e w6 ⟨rfl, hb6⟩
              have B7 := Lib.hid (B6.out.trans (hb6.mono B6.out.size))
              clear hb6
              go_wp2_with fail
              go_ret
              exact ⟨rfl, B7.out⟩
  | false =>
    have CV := conv_lt inner 1099511627776 (by decide) (by decide)
    obtain ⟨u, hu, u0, u1⟩ := CV
    obtain ⟨t, rfl⟩ : ∃ t, t = u := ⟨_, rfl⟩
    have t0 : 0 ≤ t := by omega
    have t1 : t < 1099511627776 := by omega
    have ra : InRoom t := ⟨by omega, by omega⟩
    have hl5 : l.length ≤ 500 := by omega
    obtain ⟨r, er1, er2, rf, rs⟩ := shares_num ra hok hl5
    have SB := Lib.hid (sizes_bd ra hok hl5)
    have la : (sizesF t l).length = l.length := sizesF_len _ _
    have ea := res_yes ra hok hl5
    obtain ⟨n, hn⟩ : ∃ n, l.length = n := ⟨_, rfl⟩
    have HN := Lib.hid hn
    have FA := Lib.hid (fun (w : World) (h : Row w w.heap.size A1 (l.flatMap fxC)) => (fres_any l A1 c1 t w h (by omega)).mono fun e w' hp => res_row hp ea la)
    rw [hn] at FA hl12 la
    have HRN := Lib.hid (show r.length = n by have h := congrArg List.length er1; rw [List.length_map, hn] at h; exact h)
    obtain ⟨P, hP⟩ : ∃ P, sizesF t l = P := ⟨_, rfl⟩
    rw [hP] at SB la FA er2
    have LA := Lib.hid la
    have E1 := Lib.hid er1
    have E2 := Lib.hid er2
    have RF := Lib.hid rf
    have HA : Hid (haS l < t ↔ growsF t l = true) := Lib.hid (by unfold growsF; rw [decide_eq_true_eq]; rfl)
    have HOK := Lib.hid hok
    have HG0 : Hid (decide (haS l < t) = growsF t l) := Lib.hid rfl
    have RS := Lib.hid rs
    have AB := Lib.hid (fun k => allS_bd (r := r) (P := P) k hok er1 er2 SB.out)
    have HB := Lib.hid (fun k => haS_bd (l.take k) (fun x hx => hok x (List.mem_of_mem_take hx)))
    rw [hn]
    clear ra hl5 er1 er2 rf rs la ea hn hP hok
    go_wp2_with fail
    simp only [hu]
    clear hu
    refine (FA.out _ R1.out).mono ?_
    rintro e w2 ⟨A2, c2, rfl, r2, hb2⟩
    have R2 := Lib.hid r2
    have S1 := Lib.hid ((R1.out.below hb2).more hb2.size)
    have B2 := Lib.hid (B1.out.trans (hb2.mono B1.out.size))
    clear r2 hb2 FA R1 B1
    go_wp2_with fail
    go_loopw [9, 10, 11] (fun v9 v10 v11 wr => ∃ k : Nat, v9 = .int .i64 (allS (r.take k)) ∧ v10 = .int .i64 (haS (l.take k)) ∧ v11 = .int .i64 k ∧ k ≤ n ∧ Hid (Below w2.heap.size w2 wr)) (fun _ _ v11 _ => n - (intOf v11).toNat)
    case atStart => exact ⟨0, rfl, rfl, rfl, Nat.zero_le _, Lib.hid (Below.refl _ _)⟩
    case round =>
      generalize wr = w3 at *
      obtain ⟨k, rfl, rfl, rfl, hk, B3⟩ := hrel
      by_cases hlt : k < n
      · have hltz : (k : Int) < n := by omega
        have hkl : k < l.length := by rw [HN.out]; exact hlt
        have hkr : k < r.length := by rw [HRN.out]; exact hlt
        have hkp : k < P.length := by rw [LA.out]; exact hlt
        obtain ⟨a1, rfl, hab1, d0, d1, d2, d3, d4, d5⟩ := Row.flex (S1.out.below B3.out) hkl
        obtain ⟨a2, rfl, hab2, dp⟩ := (R2.out.below B3.out).int hkp
        have hx := HOK.out _ (List.getElem_mem hkl)
        have hp := SB.out _ (List.getElem_mem hkp)
        have hf := RF.out _ (List.getElem_mem hkr)
        have ex : r[k].x = l[k] := by
          have h : (r.map It.x)[k]? = l[k]? := by rw [E1.out]
          rw [List.getElem?_map, List.getElem?_eq_getElem hkr, List.getElem?_eq_getElem hkl] at h
          simpa using h
        have es : r[k].s = P[k] := by
          have h : (r.map It.s)[k]? = P[k]? := by rw [E2.out]
          rw [List.getElem?_map, List.getElem?_eq_getElem hkr, List.getElem?_eq_getElem hkp] at h
          simpa using h
        have AT : allS (r.take (k + 1)) = allS (r.take k) + P[k] + l[k].around := by
          unfold allS
          rw [List.take_succ_eq_append_getElem hkr, List.map_append, List.sum_append, ← ex, ← es]
          simp; omega
        have HT := haS_take l k hkl
        have a0 := AB.out k
        have a9 := AB.out (k + 1)
        have h0 := HB.out k
        have h9 := HB.out (k + 1)
        rw [List.length_take, HN.out] at h0 h9
        rw [List.length_take, HRN.out] at a0 a9
        unfold Fits1 botF topF at hf
        rw [ex, es] at hf
        obtain ⟨x, hxe⟩ : ∃ x, l[k] = x := ⟨_, rfl⟩
        obtain ⟨p, hpe⟩ : ∃ p, P[k] = p := ⟨_, rfl⟩
        rw [hxe] at d0 d1 d2 d3 d4 d5 hx hf AT HT
        rw [hpe] at dp hp hf AT
        rw [AT] at a9
        rw [HT] at h9
        have AT := Lib.hid AT
        have HT := Lib.hid HT
        obtain ⟨S, hS⟩ : ∃ S, allS (r.take k) = S := ⟨_, rfl⟩
        obtain ⟨H, hH⟩ : ∃ H, haS (l.take k) = H := ⟨_, rfl⟩
        rw [hS] at AT a0 a9 ⊢
        rw [hH] at HT h0 h9 ⊢
        clear hxe hpe hS hH ex es
        have m0 := hx.m0
        have b0 := hx.b0
        have hy1 := hypF_hi hx
        have hy0 : 0 ≤ hypF x := by have := hypF_bot x; have := botF_nn x; omega
        have ha0 := hx.a0
        have ha1 := hx.a1
        have HY := Lib.hid (fun w => rhyp_any x w)
        have z1 : decide (p < x.mn) = false := decide_eq_false (by omega)
        have z1p : ¬ p < x.mn := by omega
        have z2 : decide (p < 0) = false := decide_eq_false (by omega)
        have z2p : ¬ p < 0 := by omega
        have z4 : x.mx ≥ 0 → decide (p > max x.mx x.mn) = false ∧ ¬ p > max x.mx x.mn := fun h => ⟨decide_eq_false (by have := hf.2 h; omega), by have := hf.2 h; omega⟩
        have Z4 := Lib.hid z4
        clear z4 hx hf
        have c1q : ∀ q, (w3.drewN q).cell? ⟨(a1.add (k * 6)).block, (a1.add (k * 6)).off + 1, none⟩ = some (.int .i64 x.mn) := fun q => d1
        have c2q : ∀ q, (w3.drewN q).cell? ⟨(a1.add (k * 6)).block, (a1.add (k * 6)).off + 2, none⟩ = some (.int .i64 x.mx) := fun q => d2
        have hbl : (a1.add (k * 6)).block < w3.heap.size := by have := B3.out.size; rw [add_block]; omega
        have hbl2 : (a2.add k).block < w3.heap.size := by have := B3.out.size; rw [add_block]; omega
        have D0 := Lib.hid d0
        have D1 := Lib.hid d1
        have D2 := Lib.hid d2
        have D3 := Lib.hid d3
        have D4 := Lib.hid d4
        have D5 := Lib.hid d5
        have DP := Lib.hid dp
        clear d0 d1 d2 d3 d4 d5 dp
        go_upto_region 12 with fail
        go_quiet (fail)
        have QB := Below.drewN' (Below.refl w3.heap.size w3) nq
        have hsq : w3.heap.size = (w3.drewN nq).heap.size := rfl
        have B4 := Lib.hid (Below.drewN' B3.out nq)
        have e0 : (w3.drewN nq).cell? (a1.add (k * 6)) = some (.int .i64 x.base) := D0.out
        have e1 : (w3.drewN nq).cell? ⟨(a1.add (k * 6)).block, (a1.add (k * 6)).off + 1, none⟩ = some (.int .i64 x.mn) := D1.out
        have e2 : (w3.drewN nq).cell? ⟨(a1.add (k * 6)).block, (a1.add (k * 6)).off + 2, none⟩ = some (.int .i64 x.mx) := D2.out
        have e3 : (w3.drewN nq).cell? ⟨(a1.add (k * 6)).block, (a1.add (k * 6)).off + 3, none⟩ = some (.int .i64 x.grow) := D3.out
        have e4 : (w3.drewN nq).cell? ⟨(a1.add (k * 6)).block, (a1.add (k * 6)).off + 4, none⟩ = some (.int .i64 x.shrink) := D4.out
        have e5 : (w3.drewN nq).cell? ⟨(a1.add (k * 6)).block, (a1.add (k * 6)).off + 5, none⟩ = some (.int .i64 x.around) := D5.out
        have ep : (w3.drewN nq).cell? (a2.add k) = some (.int .i64 p) := DP.out
        rw [hsq] at hbl hbl2
        clear D0 D1 D2 D3 D4 D5 DP c1q c2q QB hsq B3
        generalize w3.drewN nq = w4 at *
        have c0 : ∀ t : Later w4.heap.size w4, t.w.cell? (a1.add (k * 6)) = some (.int .i64 x.base) := fun t => (t.h.cell (p := a1.add (k * 6)) hbl).trans e0
        have c1 : ∀ t : Later w4.heap.size w4, t.w.cell? ⟨(a1.add (k * 6)).block, (a1.add (k * 6)).off + 1, none⟩ = some (.int .i64 x.mn) := fun t => (t.h.cell (p := ⟨(a1.add (k * 6)).block, (a1.add (k * 6)).off + 1, none⟩) hbl).trans e1
        have c2 : ∀ t : Later w4.heap.size w4, t.w.cell? ⟨(a1.add (k * 6)).block, (a1.add (k * 6)).off + 2, none⟩ = some (.int .i64 x.mx) := fun t => (t.h.cell (p := ⟨(a1.add (k * 6)).block, (a1.add (k * 6)).off + 2, none⟩) hbl).trans e2
        have c3 : ∀ t : Later w4.heap.size w4, t.w.cell? ⟨(a1.add (k * 6)).block, (a1.add (k * 6)).off + 3, none⟩ = some (.int .i64 x.grow) := fun t => (t.h.cell (p := ⟨(a1.add (k * 6)).block, (a1.add (k * 6)).off + 3, none⟩) hbl).trans e3
        have c4 : ∀ t : Later w4.heap.size w4, t.w.cell? ⟨(a1.add (k * 6)).block, (a1.add (k * 6)).off + 4, none⟩ = some (.int .i64 x.shrink) := fun t => (t.h.cell (p := ⟨(a1.add (k * 6)).block, (a1.add (k * 6)).off + 4, none⟩) hbl).trans e4
        have c5 : ∀ t : Later w4.heap.size w4, t.w.cell? ⟨(a1.add (k * 6)).block, (a1.add (k * 6)).off + 5, none⟩ = some (.int .i64 x.around) := fun t => (t.h.cell (p := ⟨(a1.add (k * 6)).block, (a1.add (k * 6)).off + 5, none⟩) hbl).trans e5
        have cp : ∀ t : Later w4.heap.size w4, t.w.cell? (a2.add k) = some (.int .i64 p) := fun t => (t.h.cell (p := a2.add k) hbl2).trans ep
        have n1 : -9223372036854775808 ≤ S + p ∧ S + p ≤ 9223372036854775807 := by omega
        have n2 : -9223372036854775808 ≤ S + p + x.around ∧ S + p + x.around ≤ 9223372036854775807 := by omega
        have n3 : -9223372036854775808 ≤ H + hypF x ∧ H + hypF x ≤ 9223372036854775807 := by omega
        have n4 : -9223372036854775808 ≤ H + hypF x + x.around ∧ H + hypF x + x.around ≤ 9223372036854775807 := by omega
        by_cases hm : x.mx ≥ 0
        · have z3 : decide (x.mx ≥ 0) = true := decide_eq_true hm
          obtain ⟨z5, z5p⟩ := Z4.out hm
          go_upto_region 15 with fail
          clear e0 e1 e2 e3 e4 e5 ep
          refine region_lane [] (List.range 26) [26] (by kernel_rfl) (by kernel_rfl) (fun _ _ _ _ _ h => h) ?_
          simp only [pick, List.map_nil]
          refine wpQuiet_nil ⟨rfl, ?_⟩
          rw [show List.range 26 = [0, 1, 2, 3, 4, 5, 6, 7, 8, 9, 10, 11, 12, 13, 14, 15, 16, 17, 18, 19, 20, 21, 22, 23, 24, 25] from rfl]
          simp only [List.map_cons, List.map_nil, List.getD_cons_zero, List.getD_cons_succ, List.drop_succ_cons, List.drop_zero]
          refine laneO_run 17 (by kernel_rfl) ?_
          simp only [List.take_succ_cons, List.take_zero, List.drop_succ_cons, List.drop_zero]
          repeat (go_big_quiet_step (fail))
          refine wpQuiet_nil ?_
          refine laneO_call (v := .int .i64 (hypF x)) (by kernel_rfl) (by rfl) (fun C hC h0 => ?_) ?_
          focus (go_big_quiet_op; exact ⟨_, fun w hw => (HY.out w).mono fun e w' ⟨he, hb⟩ => ⟨he, hC _ _ hw hb⟩, rfl⟩)
          simp only [Act.put, List.setIfInBounds_toArray, List.set_cons_zero, List.set_cons_succ]
          refine laneO_run 8 (by kernel_rfl) ?_
          simp only [List.take_succ_cons, List.take_zero, List.drop_succ_cons, List.drop_zero]
          repeat (go_big_quiet_step (fail))
          refine wpQuiet_nil ?_
          refine laneO_end0 rfl rfl fun w5 hb5 => ?_
          have B5 := Lib.hid (B4.out.trans (hb5.mono B4.out.size))
          clear c0 c1 c2 c3 c4 c5 cp hb5 B4
          go_wp2_with fail
          go_roundw
          case rel => exact ⟨k + 1, by rw [AT.out], by rw [HT.out], by go_num, by omega, B5⟩
          case measure => simp [intOf] <;> omega
        · have z3 : decide (x.mx ≥ 0) = false := decide_eq_false hm
          go_upto_region 15 with fail
          clear e0 e1 e2 e3 e4 e5 ep
          refine region_lane [] (List.range 26) [26] (by kernel_rfl) (by kernel_rfl) (fun _ _ _ _ _ h => h) ?_
          simp only [pick, List.map_nil]
          refine wpQuiet_nil ⟨rfl, ?_⟩
          rw [show List.range 26 = [0, 1, 2, 3, 4, 5, 6, 7, 8, 9, 10, 11, 12, 13, 14, 15, 16, 17, 18, 19, 20, 21, 22, 23, 24, 25] from rfl]
          simp only [List.map_cons, List.map_nil, List.getD_cons_zero, List.getD_cons_succ, List.drop_succ_cons, List.drop_zero]
          refine laneO_run 17 (by kernel_rfl) ?_
          simp only [List.take_succ_cons, List.take_zero, List.drop_succ_cons, List.drop_zero]
          repeat (go_big_quiet_step (fail))
          refine wpQuiet_nil ?_
          refine laneO_call (v := .int .i64 (hypF x)) (by kernel_rfl) (by rfl) (fun C hC h0 => ?_) ?_
          focus (go_big_quiet_op; exact ⟨_, fun w hw => (HY.out w).mono fun e w' ⟨he, hb⟩ => ⟨he, hC _ _ hw hb⟩, rfl⟩)
          simp only [Act.put, List.setIfInBounds_toArray, List.set_cons_zero, List.set_cons_succ]
          refine laneO_run 8 (by kernel_rfl) ?_
          simp only [List.take_succ_cons, List.take_zero, List.drop_succ_cons, List.drop_zero]
          repeat (go_big_quiet_step (fail))
          refine wpQuiet_nil ?_
          refine laneO_end0 rfl rfl fun w5 hb5 => ?_
          have B5 := Lib.hid (B4.out.trans (hb5.mono B4.out.size))
          clear c0 c1 c2 c3 c4 c5 cp hb5 B4
          go_wp2_with fail
          go_roundw
          case rel => exact ⟨k + 1, by rw [AT.out], by rw [HT.out], by go_num, by omega, B5⟩
          case measure => simp [intOf] <;> omega
      · obtain rfl : n = k := by omega
        have hltz : ¬ (n : Int) < n := by omega
        have e1 : r.take n = r := List.take_of_length_le (by rw [HRN.out]; omega)
        have e2 : l.take n = l := List.take_of_length_le (by rw [HN.out]; omega)
        have a0 := AB.out n
        have h0 := HB.out n
        rw [e1, HRN.out] at a0
        rw [e2, HN.out] at h0
        rw [e1, e2]
        clear e1 e2 AB HB
        have B4 := Lib.hid (B2.out.trans (B3.out.mono B2.out.size))
        have T1 := Lib.hid ((S1.out.below B3.out).more B3.out.size)
        have T2 := Lib.hid ((R2.out.below B3.out).more B3.out.size)
        clear B2 S1 R2 B3
        obtain ⟨S, hS⟩ : ∃ S, allS r = S := ⟨_, rfl⟩
        rw [hS] at RS a0 ⊢
        clear hS
        obtain ⟨H, hH⟩ : ∃ H, haS l = H := ⟨_, rfl⟩
        rw [hH] at HG0 h0 ⊢
        clear hH HA
        by_cases hst : S = t
        · have zs : (S == t) = true := by rw [beq_iff_eq]; exact hst
          have HST := Lib.hid hst
          clear hst
          go_wp2_with fail
          refine (AW.out _).mono ?_
          rintro e w5 ⟨rfl, hb5⟩
          have B5 := Lib.hid (B4.out.trans (hb5.mono B4.out.size))
          clear hb5
          go_wp2_with fail
          go_ret
          exact ⟨rfl, B5.out⟩
        · have zs : (S == t) = false := by rw [beq_eq_false_iff_ne]; exact hst
          have hne : S < t ∨ t < S := by omega
          have HNE := Lib.hid hne
          clear hst hne
          have G0 := HG0.out
          obtain ⟨gr, hgr⟩ : ∃ g, growsF t l = g := ⟨_, rfl⟩
          rw [hgr] at G0 RS
          clear hgr HG0
          go_wp2_with fail
          clear zs
          go_loopw [15] (fun v15 wr => ∃ k : Nat, v15 = .int .i64 k ∧ k ≤ n ∧ Hid (Below w3.heap.size w3 wr)) (fun v15 _ => n - (intOf v15).toNat)
          case atStart => exact ⟨0, rfl, Nat.zero_le _, Lib.hid (Below.refl _ _)⟩
          case round =>
            generalize wr = w5 at *
            obtain ⟨k, rfl, hk, B5⟩ := hrel
            by_cases hlt : k < n
            · have hltz : (k : Int) < n := by omega
              have hkl : k < l.length := by rw [HN.out]; exact hlt
              have hkr : k < r.length := by rw [HRN.out]; exact hlt
              have hkp : k < P.length := by rw [LA.out]; exact hlt
              obtain ⟨a1, rfl, hab1, d0, d1, d2, d3, d4, d5⟩ := Row.flex (T1.out.below B5.out) hkl
              obtain ⟨a2, rfl, hab2, dp⟩ := (T2.out.below B5.out).int hkp
              have hx := HOK.out _ (List.getElem_mem hkl)
              have ex : r[k].x = l[k] := by
                have h : (r.map It.x)[k]? = l[k]? := by rw [E1.out]
                rw [List.getElem?_map, List.getElem?_eq_getElem hkr, List.getElem?_eq_getElem hkl] at h
                simpa using h
              have es : r[k].s = P[k] := by
                have h : (r.map It.s)[k]? = P[k]? := by rw [E2.out]
                rw [List.getElem?_map, List.getElem?_eq_getElem hkr, List.getElem?_eq_getElem hkp] at h
                simpa using h
              have rs : (gr = true ∧ S ≤ t ∧ (S < t → 0 < l[k].grow → 0 ≤ l[k].mx ∧ topF l[k] ≤ P[k])) ∨ (gr = false ∧ t ≤ S ∧ (t < S → 0 < l[k].shrink → 0 < l[k].base → hypF l[k] ≤ l[k].base → P[k] ≤ botF l[k])) := by
                have hm := List.getElem_mem hkr
                rcases RS.out with ⟨g1, g2, g3⟩ | ⟨g1, g2, g3⟩
                · exact .inl ⟨g1, g2, fun h h2 => by have := g3 h _ hm (by rw [ex]; exact h2); rw [ex, es] at this; exact this⟩
                · exact .inr ⟨g1, g2, fun h h2 h3 h4 => by have := g3 h _ hm (by rw [ex]; exact h2) (by rw [ex]; exact h3) (by rw [ex]; exact h4); rw [ex, es] at this; exact this⟩
              obtain ⟨x, hxe⟩ : ∃ x, l[k] = x := ⟨_, rfl⟩
              obtain ⟨p, hpe⟩ : ∃ p, P[k] = p := ⟨_, rfl⟩
              rw [hxe] at d0 d1 d2 d3 d4 d5 hx rs
              rw [hpe] at dp rs
              have m0 := hx.m0
              have HY := Lib.hid (fun w => rhyp_any x w)
              have R5 := Lib.hid rs
              clear hxe hpe ex es rs hx
              have hbl : (a1.add (k * 6)).block < w5.heap.size := by have := B5.out.size; rw [add_block]; omega
              have hbl2 : (a2.add k).block < w5.heap.size := by have := B5.out.size; rw [add_block]; omega
              have D0 := Lib.hid d0
              have D1 := Lib.hid d1
              have D2 := Lib.hid d2
              have D3 := Lib.hid d3
              have D4 := Lib.hid d4
              have DP := Lib.hid dp
              go_wp2_with fail
              refine (HY.out _).mono ?_
              rintro e w6 ⟨rfl, hb6⟩
              have B6 := Lib.hid (B5.out.trans (hb6.mono B5.out.size))
              have c0 := (hb6.cell (p := a1.add (k * 6)) hbl).trans D0.out
              have c1 := (hb6.cell (p := ⟨(a1.add (k * 6)).block, (a1.add (k * 6)).off + 1, none⟩) hbl).trans D1.out
              have c2 := (hb6.cell (p := ⟨(a1.add (k * 6)).block, (a1.add (k * 6)).off + 2, none⟩) hbl).trans D2.out
              have c3 := (hb6.cell (p := ⟨(a1.add (k * 6)).block, (a1.add (k * 6)).off + 3, none⟩) hbl).trans D3.out
              have c4 := (hb6.cell (p := ⟨(a1.add (k * 6)).block, (a1.add (k * 6)).off + 4, none⟩) hbl).trans D4.out
              have cp := (hb6.cell (p := a2.add k) hbl2).trans DP.out
              clear D0 D1 D2 D3 D4 DP d0 d1 d2 d3 d4 d5 dp B5 hbl hbl2 hb6 HY
              have q0 : ∀ q, (w6.drewN q).cell? (a1.add (k * 6)) = some (.int .i64 x.base) := fun q => c0
              have q1 : ∀ q, (w6.drewN q).cell? ⟨(a1.add (k * 6)).block, (a1.add (k * 6)).off + 1, none⟩ = some (.int .i64 x.mn) := fun q => c1
              have q2 : ∀ q, (w6.drewN q).cell? ⟨(a1.add (k * 6)).block, (a1.add (k * 6)).off + 2, none⟩ = some (.int .i64 x.mx) := fun q => c2
              have q3 : ∀ q, (w6.drewN q).cell? ⟨(a1.add (k * 6)).block, (a1.add (k * 6)).off + 3, none⟩ = some (.int .i64 x.grow) := fun q => c3
              have q4 : ∀ q, (w6.drewN q).cell? ⟨(a1.add (k * 6)).block, (a1.add (k * 6)).off + 4, none⟩ = some (.int .i64 x.shrink) := fun q => c4
              have qp : ∀ q, (w6.drewN q).cell? (a2.add k) = some (.int .i64 p) := fun q => cp
              clear c0 c1 c2 c3 c4 cp
              obtain ⟨hy, hhy⟩ : ∃ h, hypF x = h := ⟨_, rfl⟩
              rw [hhy] at R5 ⊢
              clear hhy
              rcases R5.out with ⟨g1, g2, g3⟩ | ⟨g1, g2, g3⟩
              · subst g1
                have hlt3 : S < t := by rcases HNE.out with h | h <;> omega
                have y1 : decide (S < t) = true := decide_eq_true hlt3
                have y3 := g3 hlt3
                unfold topF at y3
                have Y3 := Lib.hid y3
                clear g3 y3 q0 q4
                by_cases f1 : x.grow > 0
                · have y4 : decide (x.grow > 0) = true := decide_eq_true f1
                  obtain ⟨k1, k2⟩ := Y3.out f1
                  have y5 : decide (x.mx < 0) = false := decide_eq_false (by omega)
                  have y5p : ¬ x.mx < 0 := by omega
                  have y6 : decide (p < max x.mx x.mn) = false := decide_eq_false (by omega)
                  have y6p : ¬ p < max x.mx x.mn := by omega
                  go_upto_region 25 with fail
                  go_quiet (fail)
                  have B7 := Lib.hid (Below.drewN' B6.out nq)
                  clear B6 q1 q2 q3 qp
                  generalize w6.drewN nq = w7 at *
                  go_wp2_with fail
                  go_roundw
                  case rel => exact ⟨k + 1, by go_num, by omega, B7⟩
                  case measure => simp [intOf] <;> omega
                · have y4 : decide (x.grow > 0) = false := decide_eq_false f1
                  go_upto_region 25 with fail
                  go_quiet (fail)
                  have B7 := Lib.hid (Below.drewN' B6.out nq)
                  clear B6 q1 q2 q3 qp
                  generalize w6.drewN nq = w7 at *
                  go_wp2_with fail
                  go_roundw
                  case rel => exact ⟨k + 1, by go_num, by omega, B7⟩
                  case measure => simp [intOf] <;> omega
              · subst g1
                have hlt3 : S > t := by rcases HNE.out with h | h <;> omega
                have y1 : decide (S > t) = true := decide_eq_true hlt3
                have y3 := g3 hlt3
                unfold botF at y3
                have Y3 := Lib.hid y3
                clear g3 y3 q2 q3
                by_cases f1 : x.shrink > 0
                · have y4 : decide (x.shrink > 0) = true := decide_eq_true f1
                  by_cases f2 : x.base > 0
                  · have y5 : decide (x.base > 0) = true := decide_eq_true f2
                    by_cases f3 : p > max x.mn 0
                    · have y6 : decide (p > max x.mn 0) = true := decide_eq_true f3
                      have f4 : ¬ x.base ≥ hy := fun h => by have := Y3.out f1 f2 h; omega
                      have y7 : decide (x.base ≥ hy) = false := decide_eq_false f4
                      go_upto_region 28 with fail
                      go_quiet (fail)
                      have B7 := Lib.hid (Below.drewN' B6.out nq)
                      clear B6 q0 q1 q4 qp
                      generalize w6.drewN nq = w7 at *
                      go_wp2_with fail
                      go_roundw
                      case rel => exact ⟨k + 1, by go_num, by omega, B7⟩
                      case measure => simp [intOf] <;> omega
                    · have y6 : decide (p > max x.mn 0) = false := decide_eq_false f3
                      go_upto_region 28 with fail
                      go_quiet (fail)
                      have B7 := Lib.hid (Below.drewN' B6.out nq)
                      clear B6 q0 q1 q4 qp
                      generalize w6.drewN nq = w7 at *
                      go_wp2_with fail
                      go_roundw
                      case rel => exact ⟨k + 1, by go_num, by omega, B7⟩
                      case measure => simp [intOf] <;> omega
                  · have y5 : decide (x.base > 0) = false := decide_eq_false f2
                    go_upto_region 28 with fail
                    go_quiet (fail)
                    have B7 := Lib.hid (Below.drewN' B6.out nq)
                    clear B6 q0 q1 q4 qp
                    generalize w6.drewN nq = w7 at *
                    go_wp2_with fail
                    go_roundw
                    case rel => exact ⟨k + 1, by go_num, by omega, B7⟩
                    case measure => simp [intOf] <;> omega
                · have y4 : decide (x.shrink > 0) = false := decide_eq_false f1
                  go_upto_region 28 with fail
                  go_quiet (fail)
                  have B7 := Lib.hid (Below.drewN' B6.out nq)
                  clear B6 q0 q1 q4 qp
                  generalize w6.drewN nq = w7 at *
                  go_wp2_with fail
                  go_roundw
                  case rel => exact ⟨k + 1, by go_num, by omega, B7⟩
                  case measure => simp [intOf] <;> omega
            · obtain rfl : n = k := by omega
              have hltz : ¬ (n : Int) < n := by omega
              have B6 := Lib.hid (B4.out.trans (B5.out.mono B4.out.size))
              go_wp2_with fail
              refine (AW.out _).mono ?_
              rintro e w6 ⟨rfl, hb6⟩
              have B7 := Lib.hid (B6.out.trans (hb6.mono B6.out.size))
              clear hb6
              go_wp2_with fail
              go_ret
              exact ⟨rfl, B7.out⟩
end Go.Proofs.Ytodnplllkpgfaaa
