import Derived.Test.YteaenomfighaoaaRefRatQ
import Derived.Test.YteaenomfighaoaaZQ
import Derived.Test.YteaenomfighaoaaShareQ
/- quoinref1.Share by its contract: the same row as unit.Share's. -/
namespace Go.Proofs.Yteaenomfighaoaa
open Go.RowKit
set_option linter.unusedVariables false
set_option linter.unusedSimpArgs false

theorem rshare_far (n : Int) (A : Option Addr) (c m : Nat) (w : World) (hm : m ≤ 9223372036854775807) (h : 1000 < m ∨ (m ≤ 1000 ∧ n < -1152921504606846976) ∨ (m ≤ 1000 ∧ -1152921504606846976 ≤ n ∧ 1152921504606846976 < n)) :
    Calls Try.prog 20 #[.int .i64 n, .slice A m c] w fun e w' => e = .returned (.slice none 0 0) ∧ w = w' := by
  rcases h with h | ⟨h, h1⟩ | ⟨h, h1, h2⟩
  all_goals
    go_enter Try.func20, Try.ntmps20
    go_wp2
    go_ret
    exact ⟨rfl, rfl⟩
theorem rshare_bad (n : Int) (A : Option Addr) (c : Nat) (zs : List Int) (w : World) (B : Nat) (hr : Row w B A (i64s zs)) (hl : zs.length ≤ 1000) (h1 : -1152921504606846976 ≤ n) (h2 : n ≤ 1152921504606846976)
    (j : Nat) (hj : j < zs.length) (ha : (zs.take j).all wOk = true) (hb : wOk zs[j] = false) :
    Calls Try.prog 20 #[.int .i64 n, .slice A zs.length c] w fun e w' => e = .returned (.slice none 0 0) ∧ w = w' := by
  have HA := Lib.hid ha
  have hb' : zs[j] < 0 ∨ (0 ≤ zs[j] ∧ 1125899906842624 < zs[j]) := by simp [wOk] at hb; omega
  have HB := Lib.hid hb'
  clear ha hb hb'
  go_enter Try.func20, Try.ntmps20
  go_wp2
  go_loop [5, 6] (fun t i => ∃ k : Nat, k ≤ j ∧ i = .int .i64 k ∧ t = .int .i64 (zs.take k).sum) (fun _ i => zs.length - (intOf i).toNat)
  case atStart => exact ⟨0, Nat.zero_le _, rfl, by simp⟩
  case round =>
    obtain ⟨k, hk, rfl, rfl⟩ := hrel
    have hlt : k < zs.length := by omega
    obtain ⟨ad, rfl, _, hc⟩ := hr.int hlt
    by_cases hkj : k < j
    · have e : zs.take k = (zs.take j).take k := by rw [List.take_take, Nat.min_eq_left (by omega)]
      have h0 := all_get (zs.take j) HA.out k (by simp; omega)
      rw [List.getElem_take] at h0
      obtain ⟨h3, h4⟩ := h0
      obtain ⟨h5, h6⟩ := wsum_bd _ (all_take (zs.take j) k HA.out)
      rw [← e] at h5 h6
      have h7 : (zs.take k).length ≤ 1000 := by rw [List.length_take]; omega
      have h6' : (zs.take k).sum ≤ 1125899906842624000 := by omega
      have hs := Lib.hid (sum_take_succ zs k hlt)
      clear hr h6 h7 e HB
      generalize zs[k] = z at *
      go_wp2
      go_round
      case rel => exact ⟨k + 1, by omega, by go_num, by rw [hs.out]⟩
      case measure => simp [intOf]; omega
    · obtain rfl : k = j := by omega
      have hb := HB.out
      clear HB HA hr
      generalize zs[k] = z at *
      rcases hb with hb | ⟨hb, hb2⟩
      all_goals
        go_wp2
        go_ret
        exact ⟨rfl, rfl⟩
set_option maxHeartbeats 1000000 in
set_option maxRecDepth 100000 in
theorem rshare_yes (n : Int) (A : Option Addr) (c : Nat) (zs : List Int) (w : World) (B : Nat) (hB : B ≤ w.heap.size) (hr : Row w B A (i64s zs)) (F : ShareFacts n zs) :
    Calls Try.prog 20 #[.int .i64 n, .slice A zs.length c] w fun e w' =>
      ∃ A' c', e = .returned (.slice A' zs.length c') ∧ w'.ownsRow w.heap.size 2 1 (.slice A' zs.length c') zs.length (i64s ((List.range zs.length).map (shareAt n zs))) ∧ Below w.heap.size w w' := by
  have hl : zs.length ≤ 1000 := by have := F.ok; simp only [sumOk, Bool.and_eq_true, decide_eq_true_eq] at this; exact this.1
  have n1 := F.n1
  have n2 := F.n2
  have hw := F.whole
  have HF := Lib.hid F
  clear F
  go_enter Try.func20, Try.ntmps20
  go_wp2
  go_loop [5, 6] (fun t i => ∃ k : Nat, k ≤ zs.length ∧ i = .int .i64 k ∧ t = .int .i64 (zs.take k).sum) (fun _ i => zs.length - (intOf i).toNat)
  case atStart => exact ⟨0, Nat.zero_le _, rfl, by simp⟩
  case round =>
    obtain ⟨k, hk, rfl, rfl⟩ := hrel
    obtain ⟨h5, h6⟩ := HF.out.pre k
    by_cases hlt : k < zs.length
    · obtain ⟨ad, rfl, _, hc⟩ := hr.int hlt
      obtain ⟨h3, h4⟩ := all_get zs HF.out.all k hlt
      have hs := Lib.hid (sum_take_succ zs k hlt)
      clear hr
      generalize zs[k] = z at *
      go_wp2
      go_round
      case rel => exact ⟨k + 1, by omega, by go_num, by rw [hs.out]⟩
      case measure => simp [intOf]; omega
    · obtain rfl : k = zs.length := by omega
      rw [List.take_length]
      have hz : (zs.sum == 0) = true ∧ zs.sum < 1 ∨ (zs.sum == 0) = false ∧ 1 ≤ zs.sum := by
        by_cases h : zs.sum = 0
        · exact .inl ⟨by simpa using h, by omega⟩
        · exact .inr ⟨by simpa using h, by omega⟩
      clear h5 h6
      rcases hz with ⟨hz, hz1⟩ | ⟨hz, hz1⟩
      · have H0 := Lib.hid (fun k => share_part0 n zs k hz1)
        clear hw hz1
        go_wp2_with fail
        go_loopw [7, 10] (fun v i wr => ∃ (k : Nat) (A1 : Option Addr) (c1 : Nat), k ≤ zs.length ∧ i = .int .i64 k ∧ v = .slice A1 k c1 ∧
            wr.ownsRow w.heap.size 2 1 (.slice A1 k c1) k (i64s ((List.range k).map (shareAt n zs))) ∧ Below w.heap.size w wr) (fun _ i _ => zs.length - (intOf i).toNat)
        case atStart => exact ⟨0, none, 0, Nat.zero_le _, rfl, rfl, World.ownsRow_nil _ _ _ _, Below.refl _ _⟩
        case round =>
          obtain ⟨k, A1, c1, hk, rfl, rfl, hown, hbel⟩ := hrel
          by_cases hlt : k < zs.length
          · go_wp2_with (at_builtin; refine wpList_new rfl (.tmp 55) (.tmp 56) _ rfl w.heap.size 2 1 8 (.int .i64 0) Try.underlying24 int_info rfl (by decide) _ _ _ _ rfl hown rfl ⟨by omega, by unfold maxLen; omega, hbel.size⟩ rfl (by simp [Value.oneCell']) ?_; intro A2 c2 w2 hown2 hbel2)
            go_roundw
            case rel => exact ⟨k + 1, A2, c2, by omega, by go_num, rfl, by rw [List.range_succ, List.map_append, i64s_append, List.map_singleton, H0.out k]; exact hown2, hbel.trans hbel2⟩
            case measure => simp [intOf]; omega
          · obtain rfl : k = zs.length := by omega
            go_wp2
            go_ret
            exact ⟨A1, c1, rfl, hown, hbel⟩
      · go_wp2_with fail
        go_loopw [7, 8, 9, 10] (fun v u g i wr => ∃ (k : Nat) (A1 : Option Addr) (c1 : Nat), k ≤ zs.length ∧ i = .int .i64 k ∧ v = .slice A1 k c1 ∧ u = .int .i64 (zs.take k).sum ∧ g = .int .i64 (ratZ n (zs.take k).sum zs.sum) ∧
            wr.ownsRow w.heap.size 2 1 (.slice A1 k c1) k (i64s ((List.range k).map (shareAt n zs))) ∧ Below w.heap.size w wr) (fun _ _ _ i _ => zs.length - (intOf i).toNat)
        case atStart => exact ⟨0, none, 0, Nat.zero_le _, rfl, rfl, by simp, by simp [ratZ_zero], World.ownsRow_nil _ _ _ _, Below.refl _ _⟩
        case round =>
          obtain ⟨k, A1, c1, hk, rfl, rfl, rfl, rfl, hown, hbel⟩ := hrel
          by_cases hlt : k < zs.length
          · obtain ⟨ad, rfl, hadb, hc⟩ := (hr.below (hbel.mono hB)).int hlt
            obtain ⟨h3, h4⟩ := all_get zs HF.out.all k hlt
            obtain ⟨h5, h6⟩ := HF.out.pre k
            have hs := Lib.hid (sum_take_succ zs k hlt)
            have hrun := Lib.hid (share_run n zs k hlt)
            have b1 := ratZ_bd n (zs.take k).sum zs.sum
            have b2 := ratZ_bd n (zs.take (k + 1)).sum zs.sum
            rw [hs.out] at b2
            obtain ⟨b1a, b1b⟩ := b1
            obtain ⟨b2a, b2b⟩ := b2
            have hp : Hid (shareAt n zs k = ratZ n ((zs.take k).sum + zs[k]) zs.sum - ratZ n (zs.take k).sum zs.sum) := Lib.hid (by rw [← hs.out, hrun.out]; omega)
            clear hr
            generalize zs[k] = z at *
            go_wp2_with (first
              | (go_at_call 30; refine (rratio_any _ _ _ _).mono ?_; rintro e w' ⟨rfl, rfl⟩)
              | (at_builtin; refine wpList_new rfl (.tmp 68) (.tmp 72) _ rfl w.heap.size 2 1 8 (.int .i64 0) Try.underlying24 int_info rfl (by decide) _ _ _ _ rfl hown rfl ⟨by omega, by unfold maxLen; omega, hbel.size⟩ rfl (by simp [Value.oneCell']) ?_; intro A2 c2 w2 hown2 hbel2))
            go_roundw
            case rel => exact ⟨k + 1, A2, c2, by omega, by go_num, rfl, by rw [hs.out], by rw [hs.out], by rw [List.range_succ, List.map_append, i64s_append, List.map_singleton, hp.out]; exact hown2, hbel.trans hbel2⟩
            case measure => simp [intOf]; omega
          · obtain rfl : k = zs.length := by omega
            go_wp2
            go_ret
            exact ⟨A1, c1, rfl, hown, hbel⟩
theorem rshare_any (n : Int) (A : Option Addr) (c : Nat) (zs : List Int) (w : World) (B : Nat) (hB : B ≤ w.heap.size) (hr : Row w B A (i64s zs)) (hm : zs.length ≤ 9223372036854775807) :
    Calls Try.prog 20 #[.int .i64 n, .slice A zs.length c] w fun e w' =>
      ∃ A' c', e = .returned (.slice A' (shareZ n zs).length c') ∧ Row w' w'.heap.size A' (i64s (shareZ n zs)) ∧ Below w.heap.size w w' := by
  have fall : ∀ {Q}, shareOk n zs = false → Calls Try.prog 20 #[.int .i64 n, .slice A zs.length c] w Q → (∀ e w', Q e w' → e = .returned (.slice none 0 0) ∧ w = w') →
      Calls Try.prog 20 #[.int .i64 n, .slice A zs.length c] w fun e w' => ∃ A' c', e = .returned (.slice A' (shareZ n zs).length c') ∧ Row w' w'.heap.size A' (i64s (shareZ n zs)) ∧ Below w.heap.size w w' := by
    intro Q hf hc hQ
    refine hc.mono ?_
    intro e w' h
    obtain ⟨rfl, rfl⟩ := hQ e w' h
    have e : shareZ n zs = [] := by simp [shareZ, hf]
    rw [e]
    exact ⟨none, 0, rfl, Row.nil _ _ _, Below.refl _ _⟩
  by_cases hl : zs.length ≤ 1000
  · by_cases h1 : -1152921504606846976 ≤ n
    · by_cases h2 : n ≤ 1152921504606846976
      · by_cases ha : zs.all wOk = true
        · have F : ShareFacts n zs := ⟨by simp [sumOk, hl]; simpa using ha, h1, h2⟩
          refine (rshare_yes n A c zs w B hB hr F).mono ?_
          rintro e w' ⟨A', c', rfl, hrow, hb⟩
          refine ⟨A', c', ?_, by rw [shareZ_yes n zs F.shareOk']; exact row_of_own hrow, hb⟩
          rw [shareZ_yes n zs F.shareOk']; simp
        · obtain ⟨j, hj, g1, g2⟩ := not_all zs (by simpa using ha)
          exact fall (by simp [shareOk, sumOk, Bool.eq_false_iff.2 ha]) (rshare_bad n A c zs w B hr hl h1 h2 j hj g1 g2) (fun _ _ h => h)
      · exact fall (by simp [shareOk, h2]) (rshare_far n A c _ w hm (by omega)) (fun _ _ h => h)
    · exact fall (by simp [shareOk, h1]) (rshare_far n A c _ w hm (by omega)) (fun _ _ h => h)
  · exact fall (by simp [shareOk, sumOk, hl]) (rshare_far n A c _ w hm (by omega)) (fun _ _ h => h)
/-- Share of what may be shared: a row of its own. -/
theorem rshare_own (n : Int) (A : Option Addr) (c : Nat) (zs : List Int) (w : World) (B : Nat) (hB : B ≤ w.heap.size) (hr : Row w B A (i64s zs)) (F : ShareFacts n zs) :
    Calls Try.prog 20 #[.int .i64 n, .slice A zs.length c] w fun e w' =>
      ∃ A' c', e = .returned (.slice A' (shareZ n zs).length c') ∧ w'.ownsRow w.heap.size 2 1 (.slice A' (shareZ n zs).length c') (shareZ n zs).length (i64s (shareZ n zs)) ∧ Below w.heap.size w w' := by
  refine (rshare_yes n A c zs w B hB hr F).mono ?_
  rintro e w' ⟨A', c', rfl, hrow, hb⟩
  have e : shareZ n zs = (List.range zs.length).map (shareAt n zs) := shareZ_yes n zs F.shareOk'
  have e2 : (shareZ n zs).length = zs.length := F.length
  rw [e2, e]
  exact ⟨A', c', rfl, hrow, hb⟩
end Go.Proofs.Yteaenomfighaoaa
