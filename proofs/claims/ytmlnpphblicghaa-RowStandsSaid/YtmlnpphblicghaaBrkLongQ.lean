import Derived.Test.YtmlnpphblicghaaBrkRefQ
/- quoinref9.longest, Least, Most. -/
namespace Go.Proofs.Ytmlnpphblicghaa
open Go Go.RowKit
set_option linter.unusedVariables false
set_option linter.unusedSimpArgs false
set_option maxRecDepth 20000
set_option maxHeartbeats 4000000

theorem longL_step (sp : Bool) (g : List Gl) (i : Nat) (h : i < g.length) (most now : Int) : longL sp (g.drop i) most now = if g[i].kind = 4 ∨ (sp = true ∧ g[i].kind = 2) then longL sp (g.drop (i + 1)) (max most 0) 0 else longL sp (g.drop (i + 1)) (max most (now + g[i].adv)) (now + g[i].adv) := by
  rw [List.drop_eq_getElem_cons h]; rfl
theorem rlong_any (sp : Bool) (g : List Gl) (hg : FineG g) (A : Option Addr) (c : Nat) (W : World) (hR : Row W W.heap.size A (i64s (gCells g))) :
    Calls Try.prog 35 #[.slice A g.length c, .bool sp] W fun e w' => e = .returned (.int .i64 (longL sp g 0 0)) ∧ w' = W := by
  have HR := Lib.hid hR
  have FG := Lib.hid hg
  have hgl := hg.1
  have F0 : Hid (longL sp (g.drop 0) 0 0 = longL sp g 0 0) := Lib.hid rfl
  clear hR hg
  generalize longL sp g 0 0 = F at *
  go_enter Try.func35, Try.ntmps35
  go_wp2
  go_loopw [5, 6, 7] (fun v5 v6 v7 wr => ∃ (most now : Int) (i : Nat), v5 = .int .i64 most ∧ v6 = .int .i64 now ∧ v7 = .int .i64 i ∧ i ≤ g.length ∧ BdS now i ∧ BdS most 4194304 ∧ wr = W ∧ Hid (longL sp (g.drop i) most now = F)) (fun _ _ v7 _ => g.length - (intOf v7).toNat)
  case atStart => exact ⟨0, 0, 0, rfl, rfl, rfl, Nat.zero_le _, by unfold BdS; omega, by unfold BdS; omega, rfl, F0⟩
  case round =>
    clear F0
    obtain ⟨most, now, i, rfl, rfl, rfl, hi, hbn, hbm, rfl, HF⟩ := hrel
    have HBN := Lib.hid hbn
    have HBM := Lib.hid hbm
    clear hbn hbm
    by_cases hlt : i < g.length
    · have hii : (i : Int) < g.length := by omega
      obtain ⟨ad, rfl, hab, r0, r1, r2, r3⟩ := HR.out.gl hlt
      have hS := longL_step sp g i hlt most now
      have HB2 := Lib.hid (FG.out.bd i hlt HBN.out)
      clear r1 r2
      generalize hx : g[i] = x at *
      clear hx
      obtain ⟨xk, xr, xa, xv⟩ := x
      simp only at r0 r3 HB2 hS
      have hw0 : -9223372036854775808 ≤ now + xv ∧ now + xv < 9223372036854775808 := by have hbb := HB2.out; obtain ⟨q1, q2⟩ := hbb; omega
      have hm0 := HBM.out
      have hn1 := HB2.out
      unfold BdS at hm0 hn1
      by_cases h4 : xk = 4
      · subst h4
        rw [if_pos (.inl rfl)] at hS
        have HS := Lib.hid (hS.symm.trans HF.out)
        clear hS HF
        go_wp2
        all_goals go_roundw
        all_goals first
          | (case rel => exact ⟨max most 0, 0, i + 1, by first | rfl | (congr 1; omega), rfl, by go_num, by omega, by unfold BdS; omega, by unfold BdS; omega, by first | rfl | trivial, HS⟩)
          | (case measure => simp [intOf]; omega)
      · have e4 : (xk == 4) = false := by simpa using h4
        cases sp with
        | false =>
          rw [if_neg (by simp [h4])] at hS
          have HS := Lib.hid (hS.symm.trans HF.out)
          clear hS HF h4
          go_wp2
          all_goals go_roundw
          all_goals first
            | (case rel => exact ⟨max most (now + xv), now + xv, i + 1, by first | rfl | (congr 1; omega), rfl, by go_num, by omega, HB2.out, by unfold BdS; omega, by first | rfl | trivial, HS⟩)
            | (case measure => simp [intOf]; omega)
        | true =>
          by_cases h2 : xk = 2
          · subst h2
            rw [if_pos (.inr ⟨rfl, rfl⟩)] at hS
            have HS := Lib.hid (hS.symm.trans HF.out)
            clear hS HF h4
            go_wp2
            all_goals go_roundw
            all_goals first
              | (case rel => exact ⟨max most 0, 0, i + 1, by first | rfl | (congr 1; omega), rfl, by go_num, by omega, by unfold BdS; omega, by unfold BdS; omega, by first | rfl | trivial, HS⟩)
              | (case measure => simp [intOf]; omega)
          · have e2 : (xk == 2) = false := by simpa using h2
            rw [if_neg (by simp [h4, h2])] at hS
            have HS := Lib.hid (hS.symm.trans HF.out)
            clear hS HF h4 h2
            go_wp2
            all_goals go_roundw
            all_goals first
              | (case rel => exact ⟨max most (now + xv), now + xv, i + 1, by first | rfl | (congr 1; omega), rfl, by go_num, by omega, HB2.out, by unfold BdS; omega, by first | rfl | trivial, HS⟩)
              | (case measure => simp [intOf]; omega)
    · have hii : ¬ (i : Int) < g.length := by omega
      have HE : Hid (most = F) := Lib.hid (by have := HF.out; rwa [List.drop_eq_nil_of_le (by omega)] at this)
      clear HF
      go_wp2
      go_ret
      exact ⟨ret_int HE.out, by first | rfl | trivial⟩
theorem rleast_any (g : List Gl) (hg : FineG g) (A : Option Addr) (c : Nat) (W : World) (hR : Row W W.heap.size A (i64s (gCells g))) :
    Calls Try.prog 21 #[.slice A g.length c] W fun e w' => e = .returned (.int .i64 (leastL g)) ∧ w' = W := by
  have RL := Lib.hid (rlong_any true g hg A c W hR)
  clear hR
  unfold leastL
  generalize longL true g 0 0 = z at *
  go_enter Try.func21, Try.ntmps21
  go_wp2_with fail
  refine RL.out.mono ?_
  rintro o w3 ⟨rfl, rfl⟩
  clear RL
  go_wp2
  go_ret
  exact ⟨rfl, by first | rfl | trivial⟩
theorem rmost_any (g : List Gl) (hg : FineG g) (A : Option Addr) (c : Nat) (W : World) (hR : Row W W.heap.size A (i64s (gCells g))) :
    Calls Try.prog 22 #[.slice A g.length c] W fun e w' => e = .returned (.int .i64 (mostL g)) ∧ w' = W := by
  have RL := Lib.hid (rlong_any false g hg A c W hR)
  clear hR
  unfold mostL
  generalize longL false g 0 0 = z at *
  go_enter Try.func22, Try.ntmps22
  go_wp2_with fail
  refine RL.out.mono ?_
  rintro o w3 ⟨rfl, rfl⟩
  clear RL
  go_wp2
  go_ret
  exact ⟨rfl, by first | rfl | trivial⟩
end Go.Proofs.Ytmlnpphblicghaa
