import Derived.Test.YtmkmealgoafgdaaColRefNum
import Derived.Test.YtmkmealgoafgdaaCollLines
import Derived.Test.YtmkmealgoafgdaaRecSet
import Derived.Test.YtmkmealgoafgdaaAppTold
/- quoinref9.Collect. -/
namespace Go.Proofs.Ytmkmealgoafgdaa
open Go Go.RowKit
set_option linter.unusedVariables false
set_option linter.unusedSimpArgs false
set_option maxRecDepth 20000
set_option maxHeartbeats 4000000

theorem lnC_two : ∀ x, (lnC x).length = 2 := fun _ => rfl
theorem own_putLn {w : World} {B0 n c g : Nat} {M : List (Nat × Nat)} {a b v : Nat} (h : w.ownsRow B0 25 2 (.slice (some ⟨g, 0, none⟩) n c) n ((M ++ [(a, b)]).flatMap lnC)) :
    (w.setCell ⟨g, M.length * 2 + 1, none⟩ (.int .i64 (v : Int))).ownsRow B0 25 2 (.slice (some ⟨g, 0, none⟩) n c) n ((M ++ [(a, v)]).flatMap lnC) := by
  have h1 := (h.stored (M.length * 2 + 1) (.int .i64 (v : Int))).1
  have hl : M.length < (M ++ [(a, b)]).length := by simp
  rw [rec_set lnC_two 1 (by decide) (.int .i64 (v : Int)) (M ++ [(a, b)]) M.length hl (a, v) (by simp [lnC])] at h1
  rwa [List.set_append_right _ _ (Nat.le_refl _), Nat.sub_self, List.set_cons_zero] at h1
theorem rcoll_any (l : List Int) (hn : l.length ≤ 1000) (hz : ∀ z ∈ l, -2199023255552 ≤ z ∧ z ≤ 2199023255552) (inner : Int) (hi : I64 inner) (wrap : Bool) (A : Option Addr) (c : Nat) (W : World) (hR : Row W W.heap.size A (i64s l)) :
    Calls Try.prog 13 #[.slice A l.length c, .int .i64 inner, .bool wrap] W (LinesPost inner wrap l W) := by
  have HR := Lib.hid hR
  have HZ := Lib.hid hz
  clear hR hz hi
  go_enter Try.func13, Try.ntmps13
  go_wp2_with fail
  go_loopw [7, 8, 9] (fun v7 v8 v9 wr => ∃ (A1 : Option Addr) (c1 k i : Nat) (n : Int) (cur : List (Nat × Nat)), v7 = .slice A1 k c1 ∧ v8 = .int .i64 n ∧ v9 = .int .i64 i ∧ k = cur.length ∧ i ≤ l.length ∧ -((i : Int) * 2199023255552) ≤ n ∧ n ≤ (i : Int) * 2199023255552 ∧ Hid (wr.ownsRow W.heap.size 25 2 (.slice A1 k c1) k (cur.flatMap lnC)) ∧ Hid (Below W.heap.size W wr) ∧ Hid (ColAt inner wrap l i n cur)) (fun _ _ v9 _ => l.length - (intOf v9).toNat)
  case atStart => exact ⟨none, 0, 0, 0, 0, [], rfl, rfl, rfl, rfl, Nat.zero_le _, by omega, by omega, Lib.hid ⟨rfl, .inl ⟨rfl, rfl⟩⟩, Lib.hid (Below.refl _ _), Lib.hid (.inl ⟨rfl, rfl, rfl⟩)⟩
  case round =>
    obtain ⟨A1, c1, k, i, n, cur, rfl, rfl, rfl, hk, hil, n0, n1, O, B, E⟩ := hrel
    have HK := Lib.hid hk
    have hkl : k ≤ l.length := by rw [hk]; exact E.out.len
    clear hk
    by_cases hlt : i < l.length
    · have hltz : (i : Int) < l.length := by omega
      obtain ⟨ad, rfl, hb, r0⟩ := (HR.out.below B.out).int hlt
      have hzb := HZ.out _ (List.getElem_mem hlt)
      have MO := Lib.hid (E.out.more hlt)
      have SA := Lib.hid (E.out.same hlt)
      clear E
      obtain ⟨z, hz⟩ : ∃ z, z = l[i] := ⟨_, rfl⟩
      rw [← hz] at r0 hzb MO SA
      clear hz
      by_cases h0 : i = 0
      · have hz0 : ((i : Int) == 0) = true := by rw [beq_iff_eq]; omega
        have H00 := Lib.hid h0
        clear h0
        have NW := Lib.hid (MO.out (.inl H00.out))
        clear MO SA
        have S1 := B.out.size
        go_upto_region 8 with (at_builtin; refine wpList_pushOne rfl (.tmp 31) (.tmp 35) _ rfl W.heap.size 25 2 16 (.agg #[.int .i64 0, .int .i64 0]) Try.underlying23 ln_info rfl (by decide) k (.slice A1 k c1) _ rfl (own_below O.out ((Below.refl _ wr).alloc (Nat.le_refl _) (.cells #[.int .i64 (i : Int), .int .i64 (i : Int)] 25)) (Nat.le_refl _)) (by simp; omega) wr.heap.size [.int .i64 (i : Int), .int .i64 (i : Int)] rfl (Whole.mk wr 25 #[.int .i64 (i : Int), .int .i64 (i : Int)]) rfl (by simp [Value.oneCell']) (by unfold maxLen; omega) (by omega) ?_; intro A5 c5 w5 h5 ho5 hk5)
        have O5 : Hid (w5.ownsRow W.heap.size 25 2 (.slice A5 (k + 1) c5) (k + 1) ((cur ++ [(i, i)]).flatMap lnC)) := Lib.hid (by
          rw [List.flatMap_append]; exact h5)
        have B5 := Lib.hid (own_push (own_below O.out ((Below.refl _ wr).alloc (Nat.le_refl _) (.cells #[.int .i64 (i : Int), .int .i64 (i : Int)] 25)) (Nat.le_refl _)) (B.out.alloc S1 _) (by simp; omega) ho5)
        have r5 : w5.cell? (ad.add i) = some (.int .i64 z) := (Below.cell (B := W.heap.size) B5.out (p := ad.add i) (by rw [add_block]; exact hb)).trans ((Below.cell B.out (p := ad.add i) (by rw [add_block]; exact hb)).symm.trans r0)
        clear h5 ho5 hk5 O B r0
        have O := O5
        have B := B5
        have r0 := r5
        clear O5 B5 r5
        obtain ⟨gq, hgq⟩ := own_head O.out (by omega)
        subst hgq
        have cst : ∃ u, w5.cell? ⟨gq, k * 2 + 1, none⟩ = some u := by
          rw [O.out.cellAt _ (by omega), List.getElem?_eq_getElem (by rw [O.out.1]; omega)]
          exact ⟨_, rfl⟩
        obtain ⟨u, cst⟩ := cst
        have fst := O.out.frozenAt (k * 2 + 1)
        have hgl := (O.out.lt gq rfl).1
        have O3 := Lib.hid (own_putLn (v := i + 1) O.out)
        rw [← HK.out] at O3
        have B3 := Lib.hid (B.out.setCell (p := ⟨gq, k * 2 + 1, none⟩) hgl (.int .i64 ((i + 1 : Nat) : Int)))
        have nb : -9223372036854775808 ≤ (0 : Int) + z ∧ (0 : Int) + z ≤ 9223372036854775807 := by omega
        clear O B
        go_wp2_with fail
        go_roundw
        case rel => exact ⟨_, _, k + 1, i + 1, _, _, rfl, by go_num, by go_num, by rw [List.length_append, ← HK.out]; rfl, by omega, by push_cast; omega, by push_cast; omega, O3, B3, NW⟩
        case measure => simp [intOf] <;> omega
      · have hz0 : ((i : Int) == 0) = false := by rw [beq_eq_false_iff_ne]; omega
        cases wrap with
        | true =>
          have nb0 : -9223372036854775808 ≤ n + z ∧ n + z ≤ 9223372036854775807 := by omega
          by_cases hin : inner < n + z
          · have hin2 : n + z > inner := hin
            have NW := Lib.hid (MO.out (.inr ⟨rfl, hin⟩))
            clear MO SA
            have S1 := B.out.size
            go_upto_region 8 with (at_builtin; refine wpList_pushOne rfl (.tmp 31) (.tmp 35) _ rfl W.heap.size 25 2 16 (.agg #[.int .i64 0, .int .i64 0]) Try.underlying23 ln_info rfl (by decide) k (.slice A1 k c1) _ rfl (own_below O.out ((Below.refl _ wr).alloc (Nat.le_refl _) (.cells #[.int .i64 (i : Int), .int .i64 (i : Int)] 25)) (Nat.le_refl _)) (by simp; omega) wr.heap.size [.int .i64 (i : Int), .int .i64 (i : Int)] rfl (Whole.mk wr 25 #[.int .i64 (i : Int), .int .i64 (i : Int)]) rfl (by simp [Value.oneCell']) (by unfold maxLen; omega) (by omega) ?_; intro A5 c5 w5 h5 ho5 hk5)
            have O5 : Hid (w5.ownsRow W.heap.size 25 2 (.slice A5 (k + 1) c5) (k + 1) ((cur ++ [(i, i)]).flatMap lnC)) := Lib.hid (by
              rw [List.flatMap_append]; exact h5)
            have B5 := Lib.hid (own_push (own_below O.out ((Below.refl _ wr).alloc (Nat.le_refl _) (.cells #[.int .i64 (i : Int), .int .i64 (i : Int)] 25)) (Nat.le_refl _)) (B.out.alloc S1 _) (by simp; omega) ho5)
            have r5 : w5.cell? (ad.add i) = some (.int .i64 z) := (Below.cell (B := W.heap.size) B5.out (p := ad.add i) (by rw [add_block]; exact hb)).trans ((Below.cell B.out (p := ad.add i) (by rw [add_block]; exact hb)).symm.trans r0)
            clear h5 ho5 hk5 O B r0
            have O := O5
            have B := B5
            have r0 := r5
            clear O5 B5 r5
            obtain ⟨gq, hgq⟩ := own_head O.out (by omega)
            subst hgq
            have cst : ∃ u, w5.cell? ⟨gq, k * 2 + 1, none⟩ = some u := by
              rw [O.out.cellAt _ (by omega), List.getElem?_eq_getElem (by rw [O.out.1]; omega)]
              exact ⟨_, rfl⟩
            obtain ⟨u, cst⟩ := cst
            have fst := O.out.frozenAt (k * 2 + 1)
            have hgl := (O.out.lt gq rfl).1
            have O3 := Lib.hid (own_putLn (v := i + 1) O.out)
            rw [← HK.out] at O3
            have B3 := Lib.hid (B.out.setCell (p := ⟨gq, k * 2 + 1, none⟩) hgl (.int .i64 ((i + 1 : Nat) : Int)))
            have nb : -9223372036854775808 ≤ (0 : Int) + z ∧ (0 : Int) + z ≤ 9223372036854775807 := by omega
            clear O B
            go_wp2_with fail
            go_roundw
            case rel => exact ⟨_, _, k + 1, i + 1, _, _, rfl, by go_num, by go_num, by rw [List.length_append, ← HK.out]; rfl, by omega, by push_cast; omega, by push_cast; omega, O3, B3, NW⟩
            case measure => simp [intOf] <;> omega
          · have hin2 : ¬ n + z > inner := hin
            obtain ⟨done, fr, hcu, NW⟩ := SA.out (fun h => h.elim h0 (fun h => hin h.2))
            have NW := Lib.hid NW
            rw [hcu] at O
            have hkk : k = done.length + 1 := by rw [HK.out, hcu, List.length_append]; rfl
            have HD := Lib.hid hcu
            obtain ⟨kp, rfl⟩ : ∃ p, k = p + 1 := ⟨done.length, hkk⟩
            have hdl : done.length = kp := by omega
            have HL := Lib.hid hdl
            clear MO SA hcu hkk hdl HK
            obtain ⟨gq, hgq⟩ := own_head O.out (by omega)
            subst hgq
            have cst : ∃ u, wr.cell? ⟨gq, kp * 2 + 1, none⟩ = some u := by
              rw [O.out.cellAt _ (by omega), List.getElem?_eq_getElem (by rw [O.out.1]; omega)]
              exact ⟨_, rfl⟩
            obtain ⟨u, cst⟩ := cst
            have fst := O.out.frozenAt (kp * 2 + 1)
            have hgl := (O.out.lt gq rfl).1
            have O3 := Lib.hid (own_putLn (v := i + 1) O.out)
            rw [HL.out] at O3
            have B3 := Lib.hid (B.out.setCell (p := ⟨gq, kp * 2 + 1, none⟩) hgl (.int .i64 ((i + 1 : Nat) : Int)))
            have nb : -9223372036854775808 ≤ n + z ∧ n + z ≤ 9223372036854775807 := by omega
            clear O B
            go_wp2_with fail
            go_roundw
            case rel => exact ⟨_, _, kp + 1, i + 1, _, _, rfl, by go_num, by go_num, by rw [List.length_append, HL.out]; rfl, by omega, by push_cast; omega, by push_cast; omega, O3, B3, NW⟩
            case measure => simp [intOf] <;> omega
        | false =>
          obtain ⟨done, fr, hcu, NW⟩ := SA.out (fun h => h.elim h0 (fun h => by cases h.1))
          have NW := Lib.hid NW
          rw [hcu] at O
          have hkk : k = done.length + 1 := by rw [HK.out, hcu, List.length_append]; rfl
          have HD := Lib.hid hcu
          obtain ⟨kp, rfl⟩ : ∃ p, k = p + 1 := ⟨done.length, hkk⟩
          have hdl : done.length = kp := by omega
          have HL := Lib.hid hdl
          clear MO SA hcu hkk hdl HK
          obtain ⟨gq, hgq⟩ := own_head O.out (by omega)
          subst hgq
          have cst : ∃ u, wr.cell? ⟨gq, kp * 2 + 1, none⟩ = some u := by
            rw [O.out.cellAt _ (by omega), List.getElem?_eq_getElem (by rw [O.out.1]; omega)]
            exact ⟨_, rfl⟩
          obtain ⟨u, cst⟩ := cst
          have fst := O.out.frozenAt (kp * 2 + 1)
          have hgl := (O.out.lt gq rfl).1
          have O3 := Lib.hid (own_putLn (v := i + 1) O.out)
          rw [HL.out] at O3
          have B3 := Lib.hid (B.out.setCell (p := ⟨gq, kp * 2 + 1, none⟩) hgl (.int .i64 ((i + 1 : Nat) : Int)))
          have nb : -9223372036854775808 ≤ n + z ∧ n + z ≤ 9223372036854775807 := by omega
          clear O B
          go_wp2_with fail
          go_roundw
          case rel => exact ⟨_, _, kp + 1, i + 1, _, _, rfl, by go_num, by go_num, by rw [List.length_append, HL.out]; rfl, by omega, by push_cast; omega, by push_cast; omega, O3, B3, NW⟩
          case measure => simp [intOf] <;> omega
    · obtain rfl : i = l.length := by omega
      have E2 : Hid (cur = linesZ inner wrap l 0) := Lib.hid E.out.fin
      have R : Hid (LinesPost inner wrap l W (.returned (.slice A1 k c1)) wr) := Lib.hid ⟨A1, c1, by rw [← E2.out, HK.out], by have := O.out; rw [E2.out, HK.out, E2.out] at this; exact this, B.out⟩
      clear O B E
      go_wp2_with fail
      go_ret
      exact R.out
end Go.Proofs.Ytmkmealgoafgdaa
