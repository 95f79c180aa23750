import Derived.Test.YtmkmealgoafgdaaCollAwake
import Derived.Test.YtmkmealgoafgdaaCollSeen
import Derived.Test.YtmkmealgoafgdaaRefOrd
import Derived.Test.YtmkmealgoafgdaaPush
/- CollOrder answers true. -/
namespace Go.Proofs.Ytmkmealgoafgdaa
open Go Go.RowKit
set_option linter.unusedVariables false
set_option linter.unusedSimpArgs false
set_option maxRecDepth 20000
set_option maxHeartbeats 16000000

theorem boolc_info : (Try.prog.info? 4).map (fun i => (i.zero, i.size, i.bytes)) = some (some (.bool false), 1, 1) := by kernel_rfl
theorem collOrder_any (l : List Int) (A : Option Addr) (c : Nat) (W : World) (hR : Row W W.heap.size A (l.map (Value.int .i64))) (hl : l.length ≤ 9223372036854775807) :
    Calls Try.prog 7 #[.slice A l.length c] W fun e w' => e = .returned (.bool true) ∧ Below W.heap.size W w' := by
  have HA := Lib.hid (fun w => cawake_any w)
  have HR := Lib.hid hR
  clear hR
  by_cases h100 : l.length ≤ 100
  · have h100z : ¬ (l.length : Int) > 100 := by omega
    have O1 := Lib.hid (order_any l A c W HR.out (by omega))
    obtain ⟨i0, hi, hz0, hz1, hz2⟩ := info_parts boolc_info
    go_enter Try.func7, Try.ntmps7
    go_wp2_with fail
    refine O1.out.mono ?_
    rintro e w1 ⟨ga, xs, rfl, hx, o1, hb1⟩
    have RO := Lib.hid (row_of_own o1)
    have B1 := Lib.hid hb1
    have RL := Lib.hid ((HR.out.below hb1).more hb1.size)
    have HX := Lib.hid hx
    have hxl := Lib.hid hx.len
    have AG := Lib.hid hx.again
    have hs1 := B1.out.size
    clear o1 hb1 hx O1
    obtain ⟨n, hn⟩ : ∃ n, l.length = n := ⟨_, rfl⟩
    have HN := Lib.hid hn
    rw [hn] at hxl h100 h100z ⊢
    clear hn hl
    go_upto_region 7 with (at_make; refine wpList_make_full _ rfl _ _ 34 rfl w1.heap.size 4 i0 (.bool false) 1 Try.underlying34 hi hz0 hz1 .i64 .i64 _ _ n rfl rfl rfl rfl (by rw [hz2]; omega) (by unfold maxLen; omega) (Nat.le_refl _) ?_; intro w2 r1 r2; have O2 := Lib.hid r1; have G2 := Lib.hid (Only.of_grown r2); clear r1 r2)
    clear hi hz0 hz1 hz2
    have TW : Hid (TwoOwn w1 w2 (4, 1) (3, 1) (.slice (some ⟨w1.heap.size, 0, none⟩) n n) n (snC xs n 0) (.slice none 0 0) 0 []) := Lib.hid (by
      have O3 := O2.out
      have e : (madeCells (Value.bool false).cells (n * 1)).toList = snC xs n 0 := by
        rw [Nat.mul_one, snC_zero]
        exact toList_madeCells_one _ _
      rw [e] at O3
      exact ⟨O3, World.ownsRow_nil _ _ _ _, fun g hg => by simp [Value.ownBlock], G2.out.below (B := w1.heap.size) (by simp) (Nat.le_refl _)⟩)
    clear O2 G2
    obtain ⟨gs, hgs⟩ : ∃ g, w1.heap.size = g := ⟨_, rfl⟩
    have HGS := Lib.hid hgs
    rw [hgs] at TW ⊢
    clear hgs
    go_wp2_with fail
    go_loopw [5, 6] (fun v5 v6 wr => ∃ (A5 : Option Addr) (c5 i : Nat), v5 = .slice A5 i c5 ∧ v6 = .int .i64 i ∧ i ≤ n ∧ Hid (TwoOwn w1 wr (4, 1) (3, 1) (.slice (some ⟨gs, 0, none⟩) n n) n (snC xs n i) (.slice A5 i c5) i (((xs.take i).map (keyL l)).map (Value.int .i64)))) (fun _ v6 _ => n - (intOf v6).toNat)
    case atStart => exact ⟨none, 0, 0, rfl, rfl, Nat.zero_le _, TW⟩
    case round =>
      clear TW
      obtain ⟨A5, c5, i, rfl, rfl, hin, TW⟩ := hrel
      by_cases hlt : i < n
      · have hltz : (i : Int) < n := by omega
        have hix : i < xs.length := by rw [hxl.out]; exact hlt
        obtain ⟨ax, eax, hbx, cx⟩ := Row.ints (RO.out.below TW.out.low) hix
        injection eax with eax
        subst eax
        have hm := HX.out.mem (List.getElem_mem hix)
        rw [HN.out] at hm
        obtain ⟨q, hq⟩ : ∃ q : Nat, xs[i] = (q : Int) := ⟨xs[i].toNat, by omega⟩
        have hqn : q < n := by omega
        have NEW := HX.out.new hix
        have SS := snC_set xs n i q hix hq hqn
        have hql : q < l.length := by rw [HN.out]; exact hqn
        obtain ⟨al, eal, hbl, cl⟩ := Row.ints (RL.out.below TW.out.low) hql
        subst eal
        have kq : keyL l xs[i] = l[q] := by rw [hq]; unfold keyL; simp [hql]
        have sq : wr.cell? ⟨gs, q, none⟩ = some (.bool false) := by
          have h1 := TW.out.one.cellAt q (by omega)
          rw [h1, snC_at xs n i hqn]
          rw [hq] at NEW
          simp [NEW]
        have fq := TW.out.one.frozenAt q
        rw [hq, head_add] at cx
        have TK : (xs.take (i + 1)).map (keyL l) = (xs.take i).map (keyL l) ++ [l[q]] := by
          rw [List.take_succ_eq_append_getElem hix, List.map_append, ← kq]; rfl
        have TK := Lib.hid TK
        have T1 := Lib.hid (TW.out.put1 q (.bool true))
        rw [SS] at T1
        have cx1 : (wr.setCell ⟨gs, q, none⟩ (.bool true)).cell? ⟨ga, i, none⟩ = some (.int .i64 (q : Int)) := by
          obtain ⟨_, e3, _, c3⟩ := Row.ints (RO.out.below T1.out.low) hix
          injection e3 with e3
          subst e3
          rw [hq, head_add] at c3
          exact c3
        have cl1 : (wr.setCell ⟨gs, q, none⟩ (.bool true)).cell? (al.add q) = some (.int .i64 l[q]) := by
          obtain ⟨_, e3, _, c3⟩ := Row.ints (RL.out.below T1.out.low) hql
          injection e3 with e3
          subst e3
          exact c3
        have KQ := Lib.hid kq
        have HQ := Lib.hid hq
        obtain ⟨Y, hY⟩ : ∃ Y, l[q] = Y := ⟨_, rfl⟩
        rw [hY] at cl cl1 TK KQ
        have hqz : ¬ (q : Int) ≥ (n : Int) := by omega
        have hqz2 : (q : Int) < (n : Int) := by omega
        clear kq hq hY SS NEW TW hm hbx hbl
        go_upto_region 14 with fail
        obtain ⟨wb, hwb⟩ : ∃ wb, wr.setCell ⟨gs, q, none⟩ (.bool true) = wb := ⟨_, rfl⟩
        rw [hwb] at T1 cx1 cl1 ⊢
        have cxq : ∀ j, (wb.drewN j).cell? ⟨ga, i, none⟩ = some (.int .i64 (q : Int)) := fun j => cx1
        have clq : ∀ j, (wb.drewN j).cell? (al.add q) = some (.int .i64 Y) := fun j => cl1
        clear cx cl sq fq cx1 cl1 hwb
        by_cases h0 : i = 0
        · subst h0
          go_quiet (fail)
          have T2 := Lib.hid (T1.out.behind (Below.drewN' (Below.refl wb.heap.size wb) nq))
          have cx2 := cxq nq
          have cl2 := clq nq
          clear T1 cxq clq
          generalize wb.drewN nq = wc at *
          have s2 := T2.out.low.size
          go_upto_region 10 with (at_builtin; refine wpList_pushOne rfl (.tmp 108) (.tmp 116) _ rfl w1.heap.size 3 1 8 (.int .i64 0) Try.underlying30 intc_info rfl (by decide) 0 (.slice A5 0 c5) _ rfl (own_below T2.out.two ((Below.refl _ wc).alloc (Nat.le_refl _) (.cells #[.int .i64 Y] 3)) (Nat.le_refl _)) (by simp; omega) wc.heap.size [.int .i64 Y] rfl (Whole.mk wc 3 #[.int .i64 Y]) rfl (by simp [Value.oneCell']) (by unfold maxLen; omega) (by omega) ?_; intro A7 c7 w7 h7 ho7 hk7)
          have T3 := Lib.hid (T2.out.behind ((Below.refl wc.heap.size wc).alloc (Nat.le_refl _) (.cells #[.int .i64 Y] 3)))
          have T4 : Hid (TwoOwn w1 w7 (4, 1) (3, 1) (.slice (some ⟨gs, 0, none⟩) n n) n (snC xs n (0 + 1)) (.slice A7 (0 + 1) c7) (0 + 1) (((xs.take (0 + 1)).map (keyL l)).map (Value.int .i64))) := Lib.hid (by
            have h8 := T3.out.push2 h7 ho7 hk7
            rw [TK.out, List.map_append]
            exact h8)
          clear h7 ho7 hk7 T2 T3
          go_wp2_with fail
          go_roundw
          case rel => exact ⟨A7, c7, 0 + 1, rfl, by go_num, by omega, T4⟩
          case measure => simp [intOf] <;> omega
        · obtain ⟨ip, rfl⟩ : ∃ p, i = p + 1 := ⟨i - 1, by omega⟩
          have hip : ip < xs.length := by omega
          obtain ⟨ax3, eax3, _, cx3⟩ := Row.ints (RO.out.below T1.out.low) hip
          injection eax3 with eax3
          subst eax3
          have hm3 := HX.out.mem (List.getElem_mem hip)
          rw [HN.out] at hm3
          obtain ⟨r, hr⟩ : ∃ r : Nat, xs[ip] = (r : Int) := ⟨xs[ip].toNat, by omega⟩
          have hrl : r < l.length := by rw [HN.out]; omega
          obtain ⟨al3, eal3, _, cl3⟩ := Row.ints (RL.out.below T1.out.low) hrl
          injection eal3 with eal3
          subst eal3
          have kr : keyL l xs[ip] = l[r] := by rw [hr]; unfold keyL; simp [hrl]
          have ST := HX.out.step hix
          rw [KQ.out, kr, HQ.out, hr] at ST
          rw [hr, head_add] at cx3
          obtain ⟨X, hX⟩ : ∃ X, l[r] = X := ⟨_, rfl⟩
          rw [hX] at cl3 ST
          have cxr : ∀ j, (wb.drewN j).cell? ⟨ga, ip, none⟩ = some (.int .i64 (r : Int)) := fun j => cx3
          have clr : ∀ j, (wb.drewN j).cell? (al.add r) = some (.int .i64 X) := fun j => cl3
          have hrz2 : (r : Int) < (n : Int) := by omega
          have hxy : ¬ X > Y := by omega
          clear kr hr hX cx3 cl3 hm3
          by_cases hXY : X = Y
          · have hrq : ¬ (r : Int) > (q : Int) := by omega
            have hXYz : (X == Y) = true := by rw [beq_iff_eq]; exact hXY
            clear ST hXY
            go_quiet (fail)
            have T2 := Lib.hid (T1.out.behind (Below.drewN' (Below.refl wb.heap.size wb) nq))
            have cx2 := cxq nq
            have cl2 := clq nq
            clear T1 cxq clq cxr clr
            generalize wb.drewN nq = wc at *
            have s2 := T2.out.low.size
            go_upto_region 10 with (at_builtin; refine wpList_pushOne rfl (.tmp 108) (.tmp 116) _ rfl w1.heap.size 3 1 8 (.int .i64 0) Try.underlying30 intc_info rfl (by decide) (ip + 1) (.slice A5 (ip + 1) c5) _ rfl (own_below T2.out.two ((Below.refl _ wc).alloc (Nat.le_refl _) (.cells #[.int .i64 Y] 3)) (Nat.le_refl _)) (by simp; omega) wc.heap.size [.int .i64 Y] rfl (Whole.mk wc 3 #[.int .i64 Y]) rfl (by simp [Value.oneCell']) (by unfold maxLen; omega) (by omega) ?_; intro A7 c7 w7 h7 ho7 hk7)
            have T3 := Lib.hid (T2.out.behind ((Below.refl wc.heap.size wc).alloc (Nat.le_refl _) (.cells #[.int .i64 Y] 3)))
            have T4 : Hid (TwoOwn w1 w7 (4, 1) (3, 1) (.slice (some ⟨gs, 0, none⟩) n n) n (snC xs n ((ip + 1) + 1)) (.slice A7 ((ip + 1) + 1) c7) ((ip + 1) + 1) (((xs.take ((ip + 1) + 1)).map (keyL l)).map (Value.int .i64))) := Lib.hid (by
              have h8 := T3.out.push2 h7 ho7 hk7
              rw [TK.out, List.map_append]
              exact h8)
            clear h7 ho7 hk7 T2 T3
            go_wp2_with fail
            go_roundw
            case rel => exact ⟨A7, c7, (ip + 1) + 1, rfl, by go_num, by omega, T4⟩
            case measure => simp [intOf] <;> omega
          · have hXYz : (X == Y) = false := by rw [beq_eq_false_iff_ne]; exact hXY
            clear ST hXY
            go_quiet (fail)
            have T2 := Lib.hid (T1.out.behind (Below.drewN' (Below.refl wb.heap.size wb) nq))
            have cx2 := cxq nq
            have cl2 := clq nq
            clear T1 cxq clq cxr clr
            generalize wb.drewN nq = wc at *
            have s2 := T2.out.low.size
            go_upto_region 10 with (at_builtin; refine wpList_pushOne rfl (.tmp 108) (.tmp 116) _ rfl w1.heap.size 3 1 8 (.int .i64 0) Try.underlying30 intc_info rfl (by decide) (ip + 1) (.slice A5 (ip + 1) c5) _ rfl (own_below T2.out.two ((Below.refl _ wc).alloc (Nat.le_refl _) (.cells #[.int .i64 Y] 3)) (Nat.le_refl _)) (by simp; omega) wc.heap.size [.int .i64 Y] rfl (Whole.mk wc 3 #[.int .i64 Y]) rfl (by simp [Value.oneCell']) (by unfold maxLen; omega) (by omega) ?_; intro A7 c7 w7 h7 ho7 hk7)
            have T3 := Lib.hid (T2.out.behind ((Below.refl wc.heap.size wc).alloc (Nat.le_refl _) (.cells #[.int .i64 Y] 3)))
            have T4 : Hid (TwoOwn w1 w7 (4, 1) (3, 1) (.slice (some ⟨gs, 0, none⟩) n n) n (snC xs n ((ip + 1) + 1)) (.slice A7 ((ip + 1) + 1) c7) ((ip + 1) + 1) (((xs.take ((ip + 1) + 1)).map (keyL l)).map (Value.int .i64))) := Lib.hid (by
              have h8 := T3.out.push2 h7 ho7 hk7
              rw [TK.out, List.map_append]
              exact h8)
            clear h7 ho7 hk7 T2 T3
            go_wp2_with fail
            go_roundw
            case rel => exact ⟨A7, c7, (ip + 1) + 1, rfl, by go_num, by omega, T4⟩
            case measure => simp [intOf] <;> omega
      · obtain rfl : i = n := by omega
        have hltz : ¬ (i : Int) < (i : Int) := by omega
        have hln : (xs.map (keyL l)).length = i := by rw [List.length_map, hxl.out]
        have RA := TW.out.two
        rw [List.take_of_length_le (by rw [hxl.out]; omega)] at RA
        have RA := Lib.hid (row_of_own RA)
        have B4 := Lib.hid (B1.out.trans (TW.out.low.mono hs1))
        have hs4 := B4.out.size
        have O3 := Lib.hid (order_any (xs.map (keyL l)) A5 c5 wr RA.out (by omega))
        rw [hln] at O3
        clear TW
        go_wp2_with fail
        refine O3.out.mono ?_
        rintro e w3 ⟨g3, ys, rfl, hy, o3, hb3⟩
        obtain rfl : ys = idL xs.length := hy.unique AG.out
        rw [hln, hxl.out] at o3
        rw [hln]
        have RP := Lib.hid (row_of_own o3)
        have B5 := Lib.hid (B4.out.trans (hb3.mono hs4))
        have hs5 := B5.out.size
        clear o3 hb3 hy O3 B4 RA
        go_wp2_with fail
        go_loopw [8] (fun v8 wr => ∃ k : Nat, v8 = .int .i64 k ∧ k ≤ i ∧ wr = w3) (fun v8 _ => i - (intOf v8).toNat)
        case atStart => exact ⟨0, rfl, Nat.zero_le _, rfl⟩
        case round =>
          obtain ⟨k, rfl, hk, rfl⟩ := hrel
          by_cases hlk : k < i
          · have hlkz : (k : Int) < (i : Int) := by omega
            obtain ⟨ap, eap, _, cp⟩ := Row.ints RP.out (k := k) (by rw [idL_len]; exact hlk)
            injection eap with eap
            subst eap
            have e1 : (idL i)[k]'(by rw [idL_len]; exact hlk) = (k : Int) := by simp [idL]
            rw [e1, head_add] at cp
            go_wp2_with fail
            go_roundw
            case rel => exact ⟨k + 1, by go_num, by omega, by first | rfl | trivial⟩
            case measure => simp [intOf] <;> omega
          · have hlkz : ¬ (k : Int) < (i : Int) := by omega
            go_wp2_with fail
            refine (HA.out _).mono ?_
            rintro e w6 ⟨rfl, hb6⟩
            have B9 := Lib.hid (B5.out.trans (hb6.mono hs5))
            clear hb6 B5
            go_wp2_with fail
            go_ret
            exact ⟨rfl, B9.out⟩
  · have h100z : (l.length : Int) > 100 := by omega
    go_enter Try.func7, Try.ntmps7
    go_wp2_with fail
    refine (HA.out _).mono ?_
    rintro e w6 ⟨rfl, hb6⟩
    have B9 := Lib.hid hb6
    clear hb6
    go_wp2_with fail
    go_ret
    exact ⟨rfl, B9.out⟩
end Go.Proofs.Ytmkmealgoafgdaa
