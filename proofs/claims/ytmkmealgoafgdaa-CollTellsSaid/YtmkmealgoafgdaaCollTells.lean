import Derived.Test.YtmkmealgoafgdaaCollAwake
import Derived.Test.YtmkmealgoafgdaaCollTame
import Derived.Test.YtmkmealgoafgdaaRefOrd
import Derived.Test.YtmkmealgoafgdaaRefColl
/- CollTells answers true. -/
namespace Go.Proofs.Ytmkmealgoafgdaa
open Go Go.RowKit
set_option linter.unusedVariables false
set_option linter.unusedSimpArgs false
set_option maxRecDepth 20000
set_option maxHeartbeats 8000000

/-- A pair of a row of pairs. -/
theorem Row.pair {w : World} {B : Nat} {A : Option Addr} {L : List (Nat × Nat)} (h : Row w B A (L.flatMap lnC)) {k : Nat} (hk : k < L.length) : ∃ ad, A = some ad ∧ ad.block < B ∧ w.cell? (ad.add (k * 2)) = some (.int .i64 (L[k].1 : Int)) ∧ w.cell? ⟨(ad.add (k * 2)).block, (ad.add (k * 2)).off + 1, none⟩ = some (.int .i64 (L[k].2 : Int)) := by
  obtain ⟨ad, e, hb, h0, hj⟩ := h.rc lnC_two (by decide) hk
  exact ⟨ad, e, hb, h0 _ rfl, hj 1 _ (by decide) rfl⟩
theorem collTells_any (os : List Int) (A : Option Addr) (c : Nat) (l : List Int) (A2 : Option Addr) (c2 : Nat) (inner : Int) (wrap : Bool) (W : World) (hR : Row W W.heap.size A (os.map (Value.int .i64))) (hR2 : Row W W.heap.size A2 (i64s l)) (ho : os.length ≤ 9223372036854775807) (hl : l.length ≤ 9223372036854775807) :
    Calls Try.prog 5 #[.slice A os.length c, .slice A2 l.length c2, .int .i64 inner, .bool wrap] W fun e w' => e = .returned (.bool true) ∧ Below W.heap.size W w' := by
  have HA := Lib.hid (fun w => cawake_any w)
  have HR := Lib.hid hR
  have HR2 := Lib.hid hR2
  clear hR hR2
  by_cases h200 : os.length ≤ 200
  · have h200z : ¬ (os.length : Int) > 200 := by omega
    have O1 := Lib.hid (order_any os A c W HR.out (by omega))
    have O2 := Lib.hid (fun w (hR : Row w w.heap.size A (os.map (Value.int .i64))) => rord_any os A c w hR (by omega))
    go_enter Try.func5, Try.ntmps5
    go_wp2_with fail
    refine O1.out.mono ?_
    rintro e w1 ⟨ga, xs, rfl, hx, o1, hb1⟩
    have RA := Lib.hid (row_of_own o1)
    have B1 := Lib.hid hb1
    have HX := Lib.hid hx
    clear o1 hb1 hx O1
    go_wp2_with fail
    refine (O2.out w1 ((HR.out.below B1.out).more B1.out.size)).mono ?_
    rintro e w2 ⟨Ab, cb, ys, rfl, hy, o2, hb2⟩
    obtain rfl : ys = xs := hy.unique HX.out
    have RB := Lib.hid (row_of_own o2)
    have RA2 := Lib.hid ((RA.out.below hb2).more hb2.size)
    have B2 := Lib.hid (B1.out.trans (hb2.mono B1.out.size))
    have hxl := Lib.hid HX.out.len
    clear o2 hb2 hy O2 RA B1 HX
    obtain ⟨n, hn⟩ : ∃ n, os.length = n := ⟨_, rfl⟩
    rw [hn] at hxl h200 h200z ⊢
    clear hn ho
    have hs2 := B2.out.size
    go_wp2_with fail
    go_loopw [11] (fun v11 wr => ∃ k : Nat, v11 = .int .i64 k ∧ k ≤ n ∧ Hid (Below w2.heap.size w2 wr)) (fun v11 _ => n - (intOf v11).toNat)
    case atStart => exact ⟨0, rfl, Nat.zero_le _, Lib.hid (Below.refl _ _)⟩
    case round =>
      obtain ⟨k, rfl, hk, B3⟩ := hrel
      by_cases hlt : k < n
      · have hltz : (k : Int) < n := by omega
        have hky : k < ys.length := by rw [hxl.out]; exact hlt
        obtain ⟨ad, ea, hba, ca⟩ := Row.ints (RA2.out.below B3.out) hky
        obtain ⟨ad2, eb, hbb, cb1⟩ := Row.ints (RB.out.below B3.out) hky
        injection ea with ea
        subst ea eb
        generalize ys[k] = z at *
        have qa : ∀ q, (wr.drewN q).cell? ((⟨ga, 0, none⟩ : Addr).add k) = some (.int .i64 z) := fun q => ca
        have qb : ∀ q, (wr.drewN q).cell? (ad2.add k) = some (.int .i64 z) := fun q => cb1
        rw [head_add] at qa
        clear ca cb1
        go_wp2_with fail
        go_quiet (fail)
        have B4 := Lib.hid (Below.drewN' B3.out nq)
        clear B3 qa qb
        generalize wr.drewN nq = wz at *
        go_wp2_with fail
        go_roundw
        case rel => exact ⟨k + 1, by go_num, by omega, B4⟩
        case measure => simp [intOf] <;> omega
      · have hltz : ¬ (k : Int) < n := by omega
        have B4 := Lib.hid (B2.out.trans (B3.out.mono hs2))
        clear B3 B2 RA2 RB hs2
        have T := Lib.hid (ctame_any l 1099511627776 (by decide) (by decide) A2 c2 wr ((HR2.out.below B4.out).more B4.out.size) hl)
        have hsr := B4.out.size
        go_wp2_with fail
        refine T.out.mono ?_
        rintro e w3 ⟨A3, c3, rfl, o3, hb3⟩
        have hcap := own_cap o3
        have R3 := Lib.hid (row_of_own o3)
        have B5 := Lib.hid (B4.out.trans (hb3.mono hsr))
        have TB := tameC_bd 1099511627776 (by decide) l
        have TL := tameC_len 1099511627776 l
        obtain ⟨t, ht⟩ : ∃ t, tameC 1099511627776 l = t := ⟨_, rfl⟩
        rw [ht] at TB TL hcap R3 ⊢
        have IB := tmod_bd inner 35184372088832 (by decide)
        obtain ⟨v, hv⟩ : ∃ v, inner.tmod 35184372088832 = v := ⟨_, rfl⟩
        rw [hv] at IB
        have TL6 : t.length ≤ 60 := by omega
        have L1 := Lib.hid (lines_any t (by omega) (fun z hz => by have := TB z hz; unfold I64; omega) v (by unfold I64; omega) wrap A3 c3 hcap w3 R3.out)
        have L2 := Lib.hid (fun w (hR : Row w w.heap.size A3 (i64s t)) => rcoll_any t (by omega) (fun z hz => by have := TB z hz; omega) v (by unfold I64; omega) wrap A3 c3 w hR)
        have hs3 := B5.out.size
        have hvv : -9223372036854775808 ≤ v ∧ v ≤ 9223372036854775807 := by omega
        clear o3 hb3 T B4 hsr TB TL ht IB
        go_upto_region 12 with fail
        try rw [hv]
        clear hv
        go_wp2_with fail
        refine L1.out.mono ?_
        rintro e w4 ⟨A4, c4, rfl, o4, hb4⟩
        have R4 := Lib.hid (row_of_own o4)
        have B6 := Lib.hid (B5.out.trans (hb4.mono hs3))
        have R5 := Lib.hid ((R3.out.below hb4).more hb4.size)
        have hs4 := B6.out.size
        clear o4 hb4 L1 B5 R3
        go_wp2_with fail
        refine (L2.out _ R5.out).mono ?_
        rintro e w5 ⟨A5, c5, rfl, o5, hb5⟩
        have Q5 := Lib.hid (row_of_own o5)
        have Q4 := Lib.hid ((R4.out.below hb5).more hb5.size)
        have B7 := Lib.hid (B6.out.trans (hb5.mono hs4))
        have LB := linesZ_len v wrap t 0
        obtain ⟨z, hz⟩ : ∃ z, linesZ v wrap t 0 = z := ⟨_, rfl⟩
        rw [hz] at Q4 Q5 LB ⊢
        have hs5 := B7.out.size
        have hzl : z.length ≤ 60 := by omega
        clear o5 hb5 L2 hz R4 R5 B6 LB
        go_wp2_with fail
        go_loopw [14] (fun v14 wr => ∃ k : Nat, v14 = .int .i64 k ∧ k ≤ z.length ∧ Hid (Below w5.heap.size w5 wr)) (fun v14 _ => z.length - (intOf v14).toNat)
        case atStart => exact ⟨0, rfl, Nat.zero_le _, Lib.hid (Below.refl _ _)⟩
        case round =>
          obtain ⟨k, rfl, hk, B3⟩ := hrel
          by_cases hlt : k < z.length
          · have hltz : (k : Int) < z.length := by omega
            obtain ⟨ad, ea, hba, ca0, ca1⟩ := Row.pair (Q4.out.below B3.out) hlt
            obtain ⟨ad2, eb, hbb, cb0, cb1⟩ := Row.pair (Q5.out.below B3.out) hlt
            subst ea eb
            obtain ⟨x, hx⟩ : ∃ x, z[k].1 = x := ⟨_, rfl⟩
            obtain ⟨y, hy⟩ : ∃ y, z[k].2 = y := ⟨_, rfl⟩
            rw [hx] at ca0 cb0
            rw [hy] at ca1 cb1
            clear hx hy
            have hsb := B3.out.size
            have qa0 : ∀ t : Later wr.heap.size wr, t.w.cell? (ad.add (k * 2)) = some (.int .i64 (x : Int)) := fun t => (t.h.cell (p := ad.add (k * 2)) (by rw [add_block]; omega)).trans ca0
            have qa1 : ∀ t : Later wr.heap.size wr, t.w.cell? ⟨(ad.add (k * 2)).block, (ad.add (k * 2)).off + 1, none⟩ = some (.int .i64 (y : Int)) := fun t => (t.h.cell (p := ⟨(ad.add (k * 2)).block, (ad.add (k * 2)).off + 1, none⟩) (by show (ad.add (k * 2)).block < _; rw [add_block]; omega)).trans ca1
            have qb0 : ∀ t : Later wr.heap.size wr, t.w.cell? (ad2.add (k * 2)) = some (.int .i64 (x : Int)) := fun t => (t.h.cell (p := ad2.add (k * 2)) (by rw [add_block]; omega)).trans cb0
            have qb1 : ∀ t : Later wr.heap.size wr, t.w.cell? ⟨(ad2.add (k * 2)).block, (ad2.add (k * 2)).off + 1, none⟩ = some (.int .i64 (y : Int)) := fun t => (t.h.cell (p := ⟨(ad2.add (k * 2)).block, (ad2.add (k * 2)).off + 1, none⟩) (by show (ad2.add (k * 2)).block < _; rw [add_block]; omega)).trans cb1
            clear ca0 ca1 cb0 cb1
            go_upto_region 18 with fail
            refine region_lane [] [0, 1, 2, 3, 4, 5, 6, 7] [8] (by kernel_rfl) (by kernel_rfl) (fun _ _ _ _ _ h => h) ?_
            simp only [pick, List.map_nil]
            refine wpQuiet_nil ⟨rfl, ?_⟩
            simp only [List.map_cons, List.map_nil, List.getD_cons_zero, List.getD_cons_succ, List.drop_succ_cons, List.drop_zero]
            refine laneO_run 8 (by kernel_rfl) ?_
            simp only [List.take_succ_cons, List.take_zero, List.drop_succ_cons, List.drop_zero]
            repeat (go_big_quiet_step (fail))
            refine wpQuiet_nil ?_
            refine laneO_end0 rfl rfl fun w6 hb0 => ?_
            have B8 := Lib.hid (B3.out.trans (hb0.mono hsb))
            clear qa0 qa1 qb0 qb1 B3 hb0
            go_wp2_with (rw [pair_eq]; simp only [Result.andThen_ok])
            go_roundw
            case rel => exact ⟨k + 1, by go_num, by omega, B8⟩
            case measure => simp [intOf] <;> omega
          · have hltz : ¬ (k : Int) < z.length := by omega
            have B8 := Lib.hid (B7.out.trans (B3.out.mono hs5))
            have hs8 := B8.out.size
            clear B3 B7 Q4 Q5
            go_wp2_with fail
            refine (HA.out _).mono ?_
            rintro e w6 ⟨rfl, hb6⟩
            have B9 := Lib.hid (B8.out.trans (hb6.mono hs8))
            clear hb6 B8
            go_wp2_with fail
            go_ret
            exact ⟨rfl, B9.out⟩
  · have h200z : (os.length : Int) > 200 := by omega
    go_enter Try.func5, Try.ntmps5
    go_wp2_with fail
    refine (HA.out _).mono ?_
    rintro e w6 ⟨rfl, hb6⟩
    have B9 := Lib.hid hb6
    clear hb6
    go_wp2_with fail
    go_ret
    exact ⟨rfl, B9.out⟩
end Go.Proofs.Ytmkmealgoafgdaa
