import Derived.Test.YtcdjdpgjflhjiaaRefShare
import Derived.Deep.RegionHeld3
/- quoinlaw1.UnitTells answers true, whatever it is given. -/
namespace Go.Proofs.Ytcdjdpgjflhjiaa
open Go.RowKit
set_option linter.unusedVariables false
set_option linter.unusedSimpArgs false

def R64 (n : Int) : Prop := -9223372036854775808 ≤ n ∧ n ≤ 9223372036854775807
theorem w64_bd (n : Int) : -9223372036854775808 ≤ wrap64 n ∧ wrap64 n ≤ 9223372036854775807 := by unfold wrap64; omega
theorem u64_bd' (n : Int) : 0 ≤ IntKind.u64.wrap n ∧ IntKind.u64.wrap n ≤ 18446744073709551615 := by rw [IntKind.wrap_u64]; omega

theorem i64_wrap_bd (n : Int) : -9223372036854775808 ≤ IntKind.i64.wrap n ∧ IntKind.i64.wrap n ≤ 9223372036854775807 := by rw [IntKind.wrap_i64]; omega
theorem weights_64 (zs : List Int) : ints64 (weightsZ zs) := by
  rw [ints64_mem]
  intro z hz
  obtain ⟨y, _, rfl⟩ := List.mem_map.1 hz
  have := wt_bd y
  omega
set_option maxHeartbeats 4000000 in
set_option maxRecDepth 100000 in
theorem tells_walk (a b c : Int) (la : -9223372036854775808 ≤ a) (ua : a ≤ 9223372036854775807) (lb : -9223372036854775808 ≤ b) (ub : b ≤ 9223372036854775807) (lc : -9223372036854775808 ≤ c) (uc : c ≤ 9223372036854775807)
    (L : Option Addr) (d : Nat) (ls : List Int) (K : Option Addr) (d' : Nat) (ks : List Int) (w : World) (hl : Row w w.heap.size L (i64s ls)) (zl : ints64 ls) (hk : Row w w.heap.size K (i64s ks)) (zk : ints64 ks)
    (ml : ls.length ≤ 9223372036854775807) (mk : ks.length ≤ 9223372036854775807) :
    Calls Try.prog 5 #[.int .i64 a, .int .i64 b, .int .i64 c, .slice L ls.length d, .slice K ks.length d'] w fun e w' => e = .returned (.bool true) ∧ Below w.heap.size w w' := by
  have hcase : 60 < ls.length ∨ (ls.length ≤ 60 ∧ 60 < ks.length) ∨ (ls.length ≤ 60 ∧ ks.length ≤ 60) := by omega
  rcases hcase with h | ⟨h, h'⟩ | ⟨h, h'⟩
  · go_enter Try.func5, Try.ntmps5
    go_wp2_with (go_at_call 9; refine (awake_any _).mono ?_; rintro e w' ⟨rfl, hbel⟩)
    go_ret
    exact ⟨rfl, hbel⟩
  · go_enter Try.func5, Try.ntmps5
    go_wp2_with (go_at_call 9; refine (awake_any _).mono ?_; rintro e w' ⟨rfl, hbel⟩)
    go_ret
    exact ⟨rfl, hbel⟩
  · have ZL := Lib.hid zl
    have ZK := Lib.hid zk
    have d1 : decide (60 < (ls.length : Int)) = false := by simp; omega
    have d2 : decide (60 < (ks.length : Int)) = false := by simp; omega
    clear zl zk
    go_enter Try.func5, Try.ntmps5
    go_wp2_with fail
    clear d1 d2
    go_loopw [0, 1, 2, 4, 11] (fun va vb vc vk vi wr => ∃ (i : Nat) (a b c : Int) (K : Option Addr) (m d' : Nat) (ks : List Int), i ≤ 2 ∧ vi = .int .i64 i ∧ va = .int .i64 a ∧ vb = .int .i64 b ∧ vc = .int .i64 c ∧ vk = .slice K m d' ∧
        ks.length = m ∧ m ≤ 60 ∧ Row wr wr.heap.size K (i64s ks) ∧ Hid (ints64 ks) ∧ -9223372036854775808 ≤ a ∧ a ≤ 9223372036854775807 ∧ -9223372036854775808 ≤ b ∧ b ≤ 9223372036854775807 ∧ -9223372036854775808 ≤ c ∧ c ≤ 9223372036854775807 ∧ Below w.heap.size w wr)
      (fun _ _ _ _ i _ => 2 - (intOf i).toNat)
    case atStart => exact ⟨0, a, b, c, K, _, d', ks, by omega, rfl, rfl, rfl, rfl, rfl, rfl, h', hk, ZK, la, ua, lb, ub, lc, uc, Below.refl _ _⟩
    case round =>
      clear la ua lb ub lc uc ZK hk h' mk
      obtain ⟨i, a, b, c, K, m, d', ks, hi, rfl, rfl, rfl, rfl, rfl, hm, hm60, hk, ZK, la, ua, lb, ub, lc, uc, hbel⟩ := hrel
      by_cases hlt : i < 2
      · have HM := Lib.hid hm
        have S1 := Lib.hid (fun W B hB (hr : Row W B K (i64s ks)) => share_any a K d' ks W B hB hr (by omega))
        have S2 := Lib.hid (fun W B hB (hr : Row W B K (i64s ks)) => rshare_any a K d' ks W B hB hr (by omega))
        have ZL' := Lib.hid (fun W B (hr : Row W B L (i64s ls)) => add_any L d ls W B hr ZL.out ml)
        have ZL'' := Lib.hid (fun W B (hr : Row W B L (i64s ls)) => radd_any L d ls W B hr ZL.out ml)
        rw [hm] at S1 S2
        have hl1 := hl.below hbel
        generalize hsh : (shareZ a ks).length = sn at *
        have hsl : sn ≤ 9223372036854775807 := by
          rw [← hsh]; unfold shareZ; split
          · simp; omega
          · simp
        have HSH := Lib.hid hsh
        clear hm hsh
        go_wp2_with (first
          | (go_at_call 10; refine (hold_any _ _ (by omega) (by omega)).mono ?_; rintro e w' ⟨rfl, rfl⟩)
          | (go_at_call 15; refine (rhold_any _ _).mono ?_; rintro e w' ⟨rfl, rfl⟩)
          | (go_at_call 16; refine (px_any _ _ (by omega) (by omega)).mono ?_; rintro e w' ⟨rfl, rfl⟩)
          | (go_at_call 17; refine (rpx_any _ _).mono ?_; rintro e w' ⟨rfl, rfl⟩)
          | (go_at_call 18; refine (pct_any _ _ _ (by omega) (by omega) (by omega) (by omega)).mono ?_; rintro e w' ⟨rfl, rfl⟩)
          | (go_at_call 19; refine (rpct_any _ _ _).mono ?_; rintro e w' ⟨rfl, rfl⟩)
          | (go_at_call 12; refine (ratio_any _ _ _ _).mono ?_; rintro e w' ⟨rfl, q, rfl⟩)
          | (go_at_call 20; refine (rratio_any _ _ _ _).mono ?_; rintro e w' ⟨rfl, rfl⟩)
          | (go_at_call 11; refine (ZL'.out _ _ (hl1.drewN _)).mono ?_; rintro e w' ⟨rfl, rfl⟩)
          | (go_at_call 21; refine (ZL''.out _ _ (hl1.drewN _)).mono ?_; rintro e w' ⟨rfl, rfl⟩)
          | (go_at_call 13; fail))
        refine (S1.out _ _ (Nat.le_refl _) (hk.drewN _)).mono ?_
        rintro e w1 ⟨P1, c1, rfl, hp1, hb1⟩
        have hk1 : Row w1 wr.heap.size K (i64s ks) := hk.below (below_undrew hb1)
        have hbw1 : Below wr.heap.size wr w1 := below_undrew hb1
        go_wp2_with fail
        refine (S2.out _ _ hbw1.size hk1).mono ?_
        rintro e w2 ⟨P2, c2, rfl, hp2, hb2⟩
        have hb12 : Below wr.heap.size wr w2 := hbw1.trans (hb2.mono hbw1.size)
        go_wp2_with fail
        refine (same_yes P1 P2 c1 c2 sn (shareZ a ks) w2 _ _ (hp1.below hb2) hp2 HSH.out hsl).mono ?_
        rintro e w' ⟨rfl, q2, rfl⟩
        have hk2 : Row w2 wr.heap.size K (i64s ks) := hk.below hb12
        have hbel2 : Below w.heap.size w w2 := hbel.trans (hb12.mono hbel.size)
        clear hp1 hp2 hb1 hb2 hbw1 S1 S2 hk1 hl1 ZL' ZL''
        obtain ⟨v1, v2⟩ := u64_bd' (tameZ c 1152921504606846976)
        go_wp2_with (go_at_call 23; refine (tame_any _ _ _ (by omega) (by omega) (by omega) (by omega)).mono ?_; rintro e w' ⟨rfl, rfl⟩)
        clear v1 v2
        generalize IntKind.u64.wrap (tameZ c 1152921504606846976) = U at *
        have f1 : 1 ≤ U % 1152921504606846976 + 1 := by omega
        have f2 : U % 1152921504606846976 + 1 ≤ 1152921504606846976 := by omega
        generalize U % 1152921504606846976 + 1 = c2 at *
        have g1 : IntKind.i64.wrap (c2 + 1) = c2 + 1 := IntWalk.i64_in _ (by omega)
        have g3 : IntKind.u64.wrap (c2 + 1) = c2 + 1 := by rw [IntKind.wrap_u64]; omega
        have g4 : ((c2 + 1 : Int) == 0) = false := by simp; omega
        have g5 : ¬ (c2 + 1 = 0) := by omega
        have g2 : (0 : Int) < c2 + 1 := by omega
        have HW := Lib.hid (fun q => weights_any K d' ks (w2.drewN q) ((hk2.more hb12.size).drewN q) ZK.out (by rw [HM.out]; omega))
        rw [HM.out] at HW
        have HWL := Lib.hid (And.intro (weights_length ks) (weights_64 ks))
        obtain ⟨t1, t2⟩ := tameZ_bd a 1152921504606846976 (by decide)
        generalize weightsZ ks = wz at *
        go_region_held3 (fun w' => True) (first | trivial | go_keep)
          (first | (go_at_call 24; refine (HW.out _).mono ?_; rintro e w3 ⟨K3, c3, rfl, hk3, hb3⟩))
        go_wp2
        go_roundw
        case rel => exact ⟨i + 1, _, _, c2, K3, _, c3, wz, by omega, by go_num, rfl, rfl, rfl, rfl, rfl, by have := HWL.out.1; omega, hk3, Lib.hid HWL.out.2, by omega, by omega, (i64_wrap_bd _).1, (i64_wrap_bd _).2, by omega, by omega, hbel2.trans ((below_undrew hb3).mono hbel2.size)⟩
        case measure => simp [intOf]; omega
      · go_wp2_with (go_at_call 9; refine (awake_any _).mono ?_; rintro e w' ⟨rfl, hbela⟩)
        go_ret
        exact ⟨rfl, hbel.trans (hbela.mono hbel.size)⟩
end Go.Proofs.Ytcdjdpgjflhjiaa
