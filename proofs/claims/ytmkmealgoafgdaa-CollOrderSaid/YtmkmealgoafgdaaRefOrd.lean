import Derived.Test.YtmkmealgoafgdaaOrdIns
import Derived.Test.YtmkmealgoafgdaaCollOrd
import Derived.Test.YtmkmealgoafgdaaAppTold
import Derived.Test.YtmkmealgoafgdaaLaneP
import Derived.Test.YtmkmealgoafgdaaLaneC
/- quoinref9.Order. -/
namespace Go.Proofs.Ytmkmealgoafgdaa
open Go Go.RowKit
set_option linter.unusedVariables false
set_option linter.unusedSimpArgs false
set_option maxHeartbeats 8000000
set_option maxRecDepth 100000

theorem own_nilcap {w : World} {b e size n c : Nat} {A : Option Addr} {xs : List Value} (h : w.ownsRow b e size (.slice A n c) n xs) : A = none → c = 0 := by
  obtain ⟨A', c', e, _, _, hn⟩ := owns_nil h
  injection e with e1 _ e2
  subst e1 e2
  exact hn
theorem wpList_gives {ops : Array Oper} {rest : List Oper} {o : Oper} {a : Act} {w : World} {Q : Exit → Act → World → Prop} {P : Program} {T : Told} (h : givesBy P ops o a w T)
    (hK : ∀ v w', Behind w w' → T v w' → wpList P ops Q rest (a.put o.dst v) w') : wpList P ops Q (o :: rest) a w :=
  wpList_wanted h.1 fun K hK' => h.2 _ _ fun v w' hb ht => hK' _ _ (hK v w' hb ht)
def RordPost (L : List Int) (W : World) (e : Ending) (w' : World) : Prop :=
  ∃ A c xs, e = .returned (.slice A L.length c) ∧ Ord L xs ∧ w'.ownsRow W.heap.size 3 1 (.slice A L.length c) L.length (xs.map (Value.int .i64)) ∧ Below W.heap.size W w'
theorem Row.ints {w : World} {B : Nat} {A : Option Addr} {zs : List Int} (h : Row w B A (zs.map (Value.int .i64))) {k : Nat} (hk : k < zs.length) : ∃ ad, A = some ad ∧ ad.block < B ∧ w.cell? (ad.add k) = some (.int .i64 zs[k]) := by
  obtain ⟨ad, e, hb, hc⟩ := h.get (k := k) (by simpa using hk)
  exact ⟨ad, e, hb, by rw [hc, List.getElem_map]⟩
theorem rord_any (L : List Int) (A : Option Addr) (c : Nat) (W : World) (hR : Row W W.heap.size A (L.map (Value.int .i64))) (hL : L.length ≤ 1048576) :
    Calls Try.prog 12 #[.slice A L.length c] W (RordPost L W) := by
  have HR := Lib.hid hR
  clear hR
  go_enter Try.func12, Try.ntmps12
  go_wp2_with fail
  go_loopw [3, 4] (fun v3 v4 wr => ∃ (A1 : Option Addr) (c1 i : Nat) (xs : List Int), v3 = .slice A1 i c1 ∧ v4 = .int .i64 i ∧ i ≤ L.length ∧ Hid (wr.ownsRow W.heap.size 3 1 (.slice A1 i c1) i (xs.map (Value.int .i64))) ∧ Hid (Below W.heap.size W wr) ∧ Hid (OrdTo L i xs)) (fun _ v4 _ => L.length - (intOf v4).toNat)
  case atStart => exact ⟨none, 0, 0, [], rfl, rfl, Nat.zero_le _, Lib.hid ⟨rfl, .inl ⟨rfl, rfl⟩⟩, Lib.hid (Below.refl _ _), Lib.hid (OrdTo.nil L)⟩
  case round =>
    obtain ⟨A1, c1, i, xs, rfl, rfl, hil, O, B, T⟩ := hrel
    by_cases hlt : i < L.length
    · have hltz : (i : Int) < L.length := by omega
      have hxl := Lib.hid T.out.len
      go_wp2_with fail
      go_loopw [5] (fun v5 wr => ∃ k : Nat, v5 = .int .i64 k ∧ k ≤ i ∧ Hid (wr.ownsRow W.heap.size 3 1 (.slice A1 i c1) i (xs.map (Value.int .i64))) ∧ Hid (Below W.heap.size W wr) ∧ Hid (Behd L i k xs)) (fun v5 _ => (intOf v5).toNat)
      case atStart => exact ⟨i, rfl, Nat.le_refl _, O, B, Lib.hid (by have := Behd.start L i xs; rwa [hxl.out] at this)⟩
      case round =>
        clear O B
        obtain ⟨k, rfl, hki, O, B, D⟩ := hrel
        by_cases hk0 : 0 < k
        · obtain ⟨kp, rfl⟩ : ∃ p, k = p + 1 := ⟨k - 1, by omega⟩
          have hkx : kp < xs.length := by rw [hxl.out]; omega
          obtain ⟨ax, eax, hbx, cx⟩ := Row.ints (row_of_own O.out) hkx
          subst eax
          have hm := T.out.mem (List.getElem_mem hkx)
          obtain ⟨p, hp⟩ : ∃ p : Nat, xs[kp] = (p : Int) := ⟨xs[kp].toNat, by omega⟩
          have hpl : p < L.length := by omega
          have hpi : p < i := by omega
          rw [hp] at cx
          obtain ⟨ad, ead, hb, ci⟩ := Row.ints (HR.out.below B.out) hlt
          obtain ⟨ad2, ead2, hb2, cp⟩ := Row.ints (HR.out.below B.out) hpl
          subst ead
          injection ead2 with ead2
          subst ead2
          have ki : keyL L (i : Int) = L[i] := by unfold keyL; simp [hlt]
          have kp' : keyL L xs[kp] = L[p] := by rw [hp]; unfold keyL; simp [hpl]
          have KI := Lib.hid ki
          have KP := Lib.hid kp'
          have hpz : (p : Int) < (L.length : Int) := by omega
          clear ki kp' hm hp hb2
          generalize L[i] = Y at *
          generalize L[p] = X at *
          have qx : ∀ q, (wr.drewN q).cell? (ax.add kp) = some (.int .i64 (p : Int)) := fun q => cx
          have qi : ∀ q, (wr.drewN q).cell? (ad.add i) = some (.int .i64 Y) := fun q => ci
          have qp : ∀ q, (wr.drewN q).cell? (ad.add p) = some (.int .i64 X) := fun q => cp
          clear cx ci cp
          cases hd : decide (Y < X) with
          | true =>
            have hdz : Y < X := of_decide_eq_true hd
            have D1 := Lib.hid (D.out.step hkx (by rw [KI.out, KP.out]; exact hdz))
            go_wp2_with fail
            go_quiet (fail)
            have O1 := Lib.hid (own_drewN O.out nq)
            have B1 := Lib.hid (Below.drewN' B.out nq)
            clear qx qi qp O B D
            generalize wr.drewN nq = w1 at *
            go_wp2_with fail
            go_roundw
            case rel => exact ⟨kp, by go_num, by omega, O1, B1, D1⟩
            case measure => simp [intOf] <;> omega
          | false =>
            have hdz : ¬ Y < X := of_decide_eq_false hd
            have TI := Lib.hid (T.out.ins (k := kp + 1) (by omega) D.out (fun _ => by simp only [Nat.add_sub_cancel]; rw [KI.out, KP.out]; exact hdz))
            go_wp2_with fail
            go_quiet (fail)
            have O1 := Lib.hid (own_drewN O.out nq)
            have B1 := Lib.hid (Below.drewN' B.out nq)
            clear O B D qx qi qp
            generalize wr.drewN nq = w1 at O1 B1 ⊢
            have hcap := own_cap O1.out
            have hk' : (kp + 1) ≤ i := by omega
            have s1 := B1.out.size
            have HN8 : Hid (((xs.take (kp + 1)).map (Value.int .i64)).length = (kp + 1) * 1) := Lib.hid (by rw [List.length_map, List.length_take, hxl.out]; omega)
            have CL : Hid (∀ ad', some ax = some ad' → ∀ j u, ((xs.take (kp + 1)).map (Value.int .i64))[j]? = some u → (w1.alloc (.cells #[] 3)).cell? (ad'.add j) = some u) := Lib.hid (fun ad' e j u hu => by
              injection e with e
              subst e
              rw [List.getElem?_map, List.getElem?_take] at hu
              split at hu
              · obtain ⟨z, hz, rfl⟩ := Option.map_eq_some_iff.1 hu
                obtain ⟨hj, rfl⟩ := List.getElem?_eq_some_iff.1 hz
                obtain ⟨ad3, e3, hb3, c3⟩ := Row.ints ((row_of_own O1.out).below ((Below.refl _ w1).alloc (Nat.le_refl _) _)) hj
                injection e3 with e3
                subst e3
                exact c3
              · cases hu)
            go_upto_region 9 with (at_builtin; refine wpList_gives (T := ownsT w1.heap.size 3 1 (kp + 1) ((xs.take (kp + 1)).map (Value.int .i64))) (append_lit0 (by rfl) (by simp) (.tmp 34) (.tmp 37) 30 3 1 8 (.int .i64 0) rfl Try.underlying30 intc_info rfl (by decide) ⟨w1.heap.size, rfl, Nat.le_refl _, Whole.mk w1 3 #[]⟩ (some ax) (kp + 1) c1 _ rfl (fun h => by cases h) HN8.out CL.out (by intro u hu; obtain ⟨z, -, rfl⟩ := List.mem_map.1 hu; rfl) (by unfold maxLen; omega) (by omega)) ?_; rintro v w2 hb2 ⟨A6, c6, rfl, O6⟩)
            have O2 := Lib.hid (own_below (own_below O1.out ((Below.refl _ w1).alloc (Nat.le_refl _) (.cells #[] 3)) (Nat.le_refl _)) hb2 (Nat.le_refl _))
            have R1 := Lib.hid (row_of_own O1.out)
            have NC := Lib.hid (own_nilcap O1.out)
            have L2 := Lib.hid (((Below.refl w1.heap.size w1).alloc (Nat.le_refl _) (.cells #[] 3)).trans (hb2.mono (by simp)))
            clear O1 CL HN8 O2
            refine region_lane [0, 1, 4, 5, 6] [2] [3, 7, 8] (by kernel_rfl) (by kernel_rfl) (by intro _ _ _ _ _ h; exact h) ?_
            simp only [pick, List.map_cons, List.map_nil, List.getD_cons_zero, List.getD_cons_succ, List.drop_succ_cons, List.drop_zero]
            repeat (go_big_quiet_step (fail))
            refine wpQuiet_nil ⟨rfl, ?_⟩
            refine laneO_told (madeT 1 3 [.int .i64 (i : Int)]) (madeT_steady _ _ _) (by kernel_rfl) rfl (fun w hw => .inl ⟨by rfl, ?_⟩) ?_
            · unfold gives
              simp [go_sem]
              exact madeT_new 1 3 #[.int .i64 (i : Int)] w
            refine laneO_end (by simp) rfl rfl rfl fun w5 hb0 => ?_
            rintro v1 ⟨gl, rfl, WL⟩
            simp only [Act.put, List.setIfInBounds_toArray, List.set_cons_zero, List.set_cons_succ, fillAll]
            have O5 := Lib.hid (own_below O6 hb0 (Nat.le_refl _))
            have L5 := Lib.hid (L2.out.trans (hb0.mono L2.out.size))
            have q5 := L5.out.size
            refine wpList_pushOne (by rfl) (.tmp 39) (.tmp 41) _ rfl w1.heap.size 3 1 8 (.int .i64 0) Try.underlying30 intc_info rfl (by decide) (kp + 1) (.slice A6 (kp + 1) c6) _ rfl O5.out q5 gl [.int .i64 i] rfl WL rfl (by simp [Value.oneCell']) (by unfold maxLen; omega) (by omega) ?_
            intro A7 c7 w7 h7 ho7 hk7
            have L7 := Lib.hid (L5.out.trans (ho7.below (B := w1.heap.size) (fun x hx => (O5.out.lt x (by simpa using hx)).1) q5))
            have q7 := L7.out.size
            have RX : Hid (Row w7 w1.heap.size (if c1 = kp + 1 then some ax else some { block := ax.block, off := ax.off + (kp + 1) }) ((xs.drop (kp + 1)).map (Value.int .i64))) := Lib.hid (by
              have h1 := (R1.out.below L7.out).dropMap (kp + 1)
              rw [← List.map_drop] at h1
              by_cases hc : c1 = kp + 1
              · intro hl; rw [List.length_map, List.length_drop, hxl.out] at hl; omega
              · rw [if_neg hc]
                simpa [Addr.add] using h1)
            clear O5 L5 R1 WL ho7 hk7
            refine wpList_push_all (by rfl) (.tmp 42) (.tmp 45) _ rfl w1.heap.size 3 1 8 (.int .i64 0) Try.underlying30 intc_info rfl (by decide) ((kp + 1) + 1) c7 A7 _ rfl h7 w1.heap.size (i - (kp + 1)) (c1 - (kp + 1)) (if c1 = kp + 1 then some ax else some { block := ax.block, off := ax.off + (kp + 1) }) _ rfl (by intro h; split at h <;> cases h) (by rw [List.length_map, List.length_drop, hxl.out]; omega) RX.out (by intro u hu; obtain ⟨z, -, rfl⟩ := List.mem_map.1 hu; rfl) (by unfold maxLen; omega) (by omega) q7 ?_
            intro A8 c8 w8 h8 hb8
            rw [show (kp + 1) + 1 + (i - (kp + 1)) = i + 1 by omega] at h8 ⊢
            have O8 : Hid (w8.ownsRow W.heap.size 3 1 (.slice A8 (i + 1) c8) (i + 1) ((xs.take (kp + 1) ++ [(i : Int)] ++ xs.drop (kp + 1)).map (Value.int .i64))) := Lib.hid (by
              rw [List.map_append, List.map_append]
              exact own_raise h8 (fun g hg => Nat.le_trans s1 (h8.lt g hg).1))
            have B8 := Lib.hid (B1.out.trans ((L7.out.trans hb8).mono s1))
            clear h7 h8 hb8 RX L7 B1
            go_wp2_with fail
            go_roundw
            case rel => exact ⟨A8, c8, i + 1, _, rfl, by go_num, by omega, O8, B8, TI⟩
            case measure => simp [intOf] <;> omega
        · obtain rfl : k = 0 := by omega
          have hkz : ¬ (0 : Int) < 0 := by omega
          have TI := Lib.hid (T.out.ins (k := 0) (Nat.zero_le _) D.out (fun h => absurd h (by omega)))
          go_wp2_with fail
          go_quiet (fail)
          have O1 := Lib.hid (own_drewN O.out nq)
          have B1 := Lib.hid (Below.drewN' B.out nq)
          clear O B D
          generalize wr.drewN nq = w1 at O1 B1 ⊢
          have hcap := own_cap O1.out
          have hk' : 0 ≤ i := by omega
          have s1 := B1.out.size
          have HN8 : Hid (((xs.take 0).map (Value.int .i64)).length = 0 * 1) := Lib.hid (by rw [List.length_map, List.length_take, hxl.out]; omega)
          have CL : Hid (∀ ad', A1 = some ad' → ∀ j u, ((xs.take 0).map (Value.int .i64))[j]? = some u → (w1.alloc (.cells #[] 3)).cell? (ad'.add j) = some u) := Lib.hid (fun ad' e j u hu => by simp at hu)
          go_upto_region 9 with (at_builtin; refine wpList_gives (T := ownsT w1.heap.size 3 1 0 ((xs.take 0).map (Value.int .i64))) (append_lit0 (by rfl) (by simp) (.tmp 34) (.tmp 37) 30 3 1 8 (.int .i64 0) rfl Try.underlying30 intc_info rfl (by decide) ⟨w1.heap.size, rfl, Nat.le_refl _, Whole.mk w1 3 #[]⟩ A1 0 c1 _ rfl (fun _ => rfl) HN8.out CL.out (by intro u hu; obtain ⟨z, -, rfl⟩ := List.mem_map.1 hu; rfl) (by unfold maxLen; omega) (by omega)) ?_; rintro v w2 hb2 ⟨A6, c6, rfl, O6⟩)
          have O2 := Lib.hid (own_below (own_below O1.out ((Below.refl _ w1).alloc (Nat.le_refl _) (.cells #[] 3)) (Nat.le_refl _)) hb2 (Nat.le_refl _))
          have R1 := Lib.hid (row_of_own O1.out)
          have NC := Lib.hid (own_nilcap O1.out)
          have L2 := Lib.hid (((Below.refl w1.heap.size w1).alloc (Nat.le_refl _) (.cells #[] 3)).trans (hb2.mono (by simp)))
          clear O1 CL HN8 O2
          refine region_lane [0, 1, 4, 5, 6] [2] [3, 7, 8] (by kernel_rfl) (by kernel_rfl) (by intro _ _ _ _ _ h; exact h) ?_
          simp only [pick, List.map_cons, List.map_nil, List.getD_cons_zero, List.getD_cons_succ, List.drop_succ_cons, List.drop_zero]
          repeat (go_big_quiet_step (fail))
          refine wpQuiet_nil ⟨rfl, ?_⟩
          refine laneO_told (madeT 1 3 [.int .i64 (i : Int)]) (madeT_steady _ _ _) (by kernel_rfl) rfl (fun w hw => .inl ⟨by rfl, ?_⟩) ?_
          · unfold gives
            simp [go_sem]
            exact madeT_new 1 3 #[.int .i64 (i : Int)] w
          refine laneO_end (by simp) rfl rfl rfl fun w5 hb0 => ?_
          rintro v1 ⟨gl, rfl, WL⟩
          simp only [Act.put, List.setIfInBounds_toArray, List.set_cons_zero, List.set_cons_succ, fillAll]
          have O5 := Lib.hid (own_below O6 hb0 (Nat.le_refl _))
          have L5 := Lib.hid (L2.out.trans (hb0.mono L2.out.size))
          have q5 := L5.out.size
          refine wpList_pushOne (by rfl) (.tmp 39) (.tmp 41) _ rfl w1.heap.size 3 1 8 (.int .i64 0) Try.underlying30 intc_info rfl (by decide) 0 (.slice A6 0 c6) _ rfl O5.out q5 gl [.int .i64 i] rfl WL rfl (by simp [Value.oneCell']) (by unfold maxLen; omega) (by omega) ?_
          intro A7 c7 w7 h7 ho7 hk7
          have L7 := Lib.hid (L5.out.trans (ho7.below (B := w1.heap.size) (fun x hx => (O5.out.lt x (by simpa using hx)).1) q5))
          have q7 := L7.out.size
          have RX : Hid (Row w7 w1.heap.size (A1) ((xs.drop 0).map (Value.int .i64))) := Lib.hid (by
            have h1 := (R1.out.below L7.out).dropMap 0
            rw [← List.map_drop] at h1
            simpa using R1.out.below L7.out)
          clear O5 L5 R1 WL ho7 hk7
          refine wpList_push_all (by rfl) (.tmp 42) (.tmp 45) _ rfl w1.heap.size 3 1 8 (.int .i64 0) Try.underlying30 intc_info rfl (by decide) (0 + 1) c7 A7 _ rfl h7 w1.heap.size (i - 0) (c1 - 0) (A1) _ rfl (fun h => NC.out h) (by rw [List.length_map, List.length_drop, hxl.out]; omega) RX.out (by intro u hu; obtain ⟨z, -, rfl⟩ := List.mem_map.1 hu; rfl) (by unfold maxLen; omega) (by omega) q7 ?_
          intro A8 c8 w8 h8 hb8
          rw [show 0 + 1 + (i - 0) = i + 1 by omega] at h8 ⊢
          have O8 : Hid (w8.ownsRow W.heap.size 3 1 (.slice A8 (i + 1) c8) (i + 1) ((xs.take 0 ++ [(i : Int)] ++ xs.drop 0).map (Value.int .i64))) := Lib.hid (by
            rw [List.map_append, List.map_append]
            exact own_raise h8 (fun g hg => Nat.le_trans s1 (h8.lt g hg).1))
          have B8 := Lib.hid (B1.out.trans ((L7.out.trans hb8).mono s1))
          clear h7 h8 hb8 RX L7 B1
          go_wp2_with fail
          go_roundw
          case rel => exact ⟨A8, c8, i + 1, _, rfl, by go_num, by omega, O8, B8, TI⟩
          case measure => simp [intOf] <;> omega
    · obtain rfl : i = L.length := by omega
      have R : Hid (RordPost L W (.returned (.slice A1 L.length c1)) wr) := Lib.hid ⟨A1, c1, xs, rfl, T.out.fin, O.out, B.out⟩
      clear O B T
      go_wp2_with fail
      go_ret
      exact R.out
end Go.Proofs.Ytmkmealgoafgdaa
