import Derived.Test.YtcdjdpgjflhjiaaWeights
import Derived.Test.YtcdjdpgjflhjiaaShareNum
import Derived.BigQuiet
/- quoinlaw1.UnitShares answers true, whatever it is given. -/
namespace Go.Proofs.Ytcdjdpgjflhjiaa
open Go.RowKit
set_option linter.unusedVariables false
set_option linter.unusedSimpArgs false

set_option maxHeartbeats 8000000 in
set_option maxRecDepth 100000 in
theorem shares_walk (a0 : Int) (l0 : -9223372036854775808 ≤ a0) (u0 : a0 ≤ 9223372036854775807) (A : Option Addr) (c : Nat) (zs : List Int) (w : World) (hr : Row w w.heap.size A (i64s zs)) (hz : ints64 zs) (hm : zs.length ≤ 9223372036854775807) :
    Calls Try.prog 6 #[.int .i64 a0, .slice A zs.length c] w fun e w' => e = .returned (.bool true) ∧ Below w.heap.size w w' := by
  have T0 := Lib.hid (tame_any a0 1152921504606846976 w l0 u0 (by decide) (by decide))
  obtain ⟨n1, n2⟩ := tameZ_bd a0 1152921504606846976 (by decide)
  generalize tameZ a0 1152921504606846976 = n at *
  have T1 := Lib.hid (weights_any A c zs w hr hz hm)
  have hok := weights_ok zs
  have hwl := weights_length zs
  generalize weightsZ zs = ws at *
  have F := Lib.hid (ShareFacts.mk hok n1 n2)
  have hpl := Lib.hid F.out.length
  clear hok hr hz hm
  go_enter Try.func6, Try.ntmps6
  go_wp2_with fail
  refine T0.out.mono ?_; rintro e w' ⟨rfl, rfl⟩
  go_wp2_with fail
  refine T1.out.mono ?_; rintro e w1 ⟨L, c1, rfl, hrl, hb1⟩
  clear T0 T1
  go_wp2_with fail
  refine (share_any n L c1 ws w1 _ (Nat.le_refl _) hrl (by omega)).mono ?_
  rintro e w2 ⟨Pa, c2, rfl, hrp, hb2⟩
  rw [hpl.out]
  have hl2 := hrl.below hb2
  have hB2 := hb1.trans (hb2.mono hb1.size)
  clear hrl hb1 hb2
  go_wp2_with fail
  generalize w2.heap.size = Bp at hrp
  generalize w1.heap.size = Bl at hl2
  go_loopw [6, 7, 8] (fun s b i wr => ∃ k q : Nat, k ≤ ws.length ∧ i = .int .i64 k ∧ s = .int .i64 (ratZ n (ws.take k).sum ws.sum) ∧ b = .bool (decide (0 < (ws.take k).sum)) ∧ wr = w2.drewN q)
    (fun _ _ i _ => ws.length - (intOf i).toNat)
  case atStart => exact ⟨0, 0, Nat.zero_le _, rfl, by simp [ratZ_zero], by simp, rfl⟩
  case round =>
    obtain ⟨k, q, hk, rfl, rfl, rfl, rfl⟩ := hrel
    by_cases hlt : k < ws.length
    · obtain ⟨ad, rfl, _, hc⟩ := hl2.int hlt
      obtain ⟨ap, rfl, _, hd⟩ := hrp.int (k := k) (by rw [hpl.out]; exact hlt)
      rw [F.out.get] at hd
      have p1 := F.out.pos k hlt
      have p2 := F.out.neg k hlt
      have p3 := F.out.none_ k hlt
      have p4 := all_get ws F.out.all k hlt
      obtain ⟨p5, p6⟩ := share_bd n ws k
      obtain ⟨p7, p8⟩ := ratZ_bd n (ws.take k).sum ws.sum
      have HN := Lib.hid (fun j hj h => F.out.near j k hj hlt h)
      have e1 := Lib.hid (share_run n ws k hlt)
      have e2 := Lib.hid (sum_take_succ ws k hlt)
      have e3 := (F.out.pre k).1
      have hlt' : (k : Int) < (ws.length : Int) := by omega
      have hcase : (0 < n ∧ 0 ≤ shareAt n ws k) ∨ (0 ≤ n ∧ n ≤ 0 ∧ 0 ≤ shareAt n ws k ∧ shareAt n ws k ≤ 0) ∨ (n < 0 ∧ shareAt n ws k ≤ 0) := by omega
      have hcase2 : (0 ≤ ws[k] ∧ ws[k] ≤ 0 ∧ (ws[k] == 0) = true ∧ (shareAt n ws k != 0) = false) ∨ (0 < ws[k] ∧ (ws[k] == 0) = false) := by
        by_cases h : ws[k] = 0
        · exact .inl ⟨by omega, by omega, by simpa using h, by simpa using p3 h⟩
        · exact .inr ⟨by omega, by simpa using h⟩
      have HB := Lib.hid hB2
      have HA := Lib.hid (fun j (hj : j < ws.length) => hl2.int hj)
      have HP := Lib.hid (fun j (hj : j < (shareZ n ws).length) => hrp.int hj)
      clear p1 p2 p3 p4 hl2 hrp hB2
      have key : ∀ b : Bool, b = decide (0 < (ws.take k).sum) → (b || decide (0 < ws[k])) = decide (0 < (ws.take (k + 1)).sum) := by
        intro b hb
        rw [hb, e2.out]
        by_cases h1 : 0 < (ws.take k).sum <;> by_cases h2 : 0 < ws[k] <;> simp [h1, h2] <;> omega
      have KEY := Lib.hid key
      clear key
      generalize hgs : ws[k] = l at *
      generalize shareAt n ws k = p at *
      generalize ratZ n (ws.take k).sum ws.sum = r at *
      obtain ⟨bb, hbb⟩ : ∃ b, decide (0 < (ws.take k).sum) = b := ⟨_, rfl⟩
      rw [hbb]
      have HK2 := Lib.hid (KEY.out bb hbb.symm)
      clear hbb KEY
      have w1' : IntKind.i64.wrap (r + p) = r + p := IntWalk.i64_in _ (by omega)
      cases bb
      all_goals
        go_wp2_with fail
        go_quiet (fail)
        clear w1'
        rcases hcase with ⟨g1, g2⟩ | ⟨g1, g2, g3, g4⟩ | ⟨g1, g2⟩
      all_goals rcases hcase2 with ⟨g5, g6, g7, g8⟩ | ⟨g5, g6⟩
      all_goals go_wp2_with fail
      all_goals
        go_loopw [9] (fun jv wx => ∃ j q' : Nat, j ≤ k ∧ jv = .int .i64 j ∧ wx = w2.drewN q') (fun jv _ => k - (intOf jv).toNat)
        case atStart => exact ⟨0, _, Nat.zero_le _, rfl, rfl⟩
        case round =>
          obtain ⟨j, q', hj, rfl, rfl⟩ := hrel
          by_cases hjk : j < k
          · obtain ⟨x1, ex1, _, hcj⟩ := HA.out j (by omega)
            obtain ⟨x2, ex2, _, hdj⟩ := HP.out j (by rw [hpl.out]; omega)
            cases ex1; cases ex2
            rw [F.out.get] at hdj
            obtain ⟨b1, b2⟩ := share_bd n ws j
            have hn := HN.out j (by omega)
            have hij : (j : Int) < (ws.length : Int) := by omega
            have hk3 : (ws[j]'(by omega) == l) = true ∧ -1 ≤ shareAt n ws j - p ∧ shareAt n ws j - p ≤ 1 ∨ (ws[j]'(by omega) == l) = false := by
              by_cases h : ws[j]'(by omega) = l
              · exact .inl ⟨by simpa using h, (hn h).1, (hn h).2⟩
              · exact .inr (by simpa using h)
            clear hn
            generalize ws[j]'_ = lj at *
            generalize shareAt n ws j = pj at *
            have w2' : IntKind.i64.wrap (pj - p) = pj - p := IntWalk.i64_in _ (by omega)
            go_wp2_with fail
            go_quiet (fail)
            clear w2'
            rcases hk3 with ⟨m1, m2, m3⟩ | m1
            all_goals
              go_wp2_with fail
              go_quiet (fail)
              go_wp2_with fail
              go_roundw
              case rel => exact ⟨j + 1, _, by omega, by go_num, rfl⟩
              case measure => simp [intOf]; omega
          · go_wp2_with fail
            go_roundw
            case rel => exact ⟨k + 1, q', by omega, by go_num, by rw [e1.out], congrArg Value.bool (by rw [← HK2.out]; simp <;> omega), rfl⟩
            case measure => simp [intOf]; omega
    · obtain rfl : k = ws.length := by omega
      have hf := F.out.full
      rw [List.take_length] at hf ⊢
      by_cases hW : 0 < ws.sum
      · rw [if_pos hW] at hf
        rw [hf]
        have hd : decide (0 < ws.sum) = true := by simpa using hW
        rw [hd]
        clear hf hd hW
        go_wp2_with (go_at_call 9; refine (awake_any _).mono ?_; rintro e w' ⟨rfl, hbela⟩)
        go_ret
        exact ⟨rfl, hB2.trans ((below_undrew hbela).mono hB2.size)⟩
      · rw [if_neg hW] at hf
        rw [hf]
        have hd : decide (0 < ws.sum) = false := by simpa using hW
        rw [hd]
        clear hf hd hW
        go_wp2_with (go_at_call 9; refine (awake_any _).mono ?_; rintro e w' ⟨rfl, hbela⟩)
        go_ret
        exact ⟨rfl, hB2.trans ((below_undrew hbela).mono hB2.size)⟩
end Go.Proofs.Ytcdjdpgjflhjiaa
