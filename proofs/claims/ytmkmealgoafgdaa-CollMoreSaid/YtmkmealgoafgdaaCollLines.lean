import Derived.Test.YtmkmealgoafgdaaCollTake
/- coll.Lines. -/
namespace Go.Proofs.Ytmkmealgoafgdaa
open Go Go.RowKit
set_option linter.unusedVariables false
set_option linter.unusedSimpArgs false
set_option maxRecDepth 20000
set_option maxHeartbeats 4000000

def lnC (p : Nat × Nat) : List Value := [.int .i64 (p.1 : Int), .int .i64 (p.2 : Int)]
theorem lnC_len (L : List (Nat × Nat)) : (L.flatMap lnC).length = L.length * 2 := by
  induction L with
  | nil => rfl
  | cons x r ih => simp only [List.flatMap_cons, List.length_append, List.length_cons, ih, lnC]; simp; omega
theorem ln_info : (Try.prog.info? 25).map (fun i => (i.zero, i.size, i.bytes)) = some (some (.agg #[.int .i64 0, .int .i64 0]), 2, 16) := by kernel_rfl
def LinesPost (inner : Int) (wrap : Bool) (l : List Int) (W : World) (e : Ending) (w' : World) : Prop :=
  ∃ A c, e = .returned (.slice A (linesZ inner wrap l 0).length c) ∧ w'.ownsRow W.heap.size 25 2 (.slice A (linesZ inner wrap l 0).length c) (linesZ inner wrap l 0).length ((linesZ inner wrap l 0).flatMap lnC) ∧ Below W.heap.size W w'
theorem lines_any (l : List Int) (hn : l.length ≤ 1000) (hz : ∀ z ∈ l, I64 z) (inner : Int) (hi : I64 inner) (wrap : Bool) (A : Option Addr) (c : Nat) (hc : l.length ≤ c) (W : World) (hR : Row W W.heap.size A (i64s l)) :
    Calls Try.prog 8 #[.slice A l.length c, .int .i64 inner, .bool wrap] W (LinesPost inner wrap l W) := by
  have HR := Lib.hid hR
  have HT := Lib.hid (fun (fr : Nat) (hf : fr < l.length) (A1 : Option Addr) (c1 : Nat) (w : World) (hR : Row w w.heap.size A1 (i64s (l.drop fr))) =>
    taken_any (l.drop fr) (by rw [List.length_drop]; omega) (by rw [List.length_drop]; omega) (fun z h => hz z (List.mem_of_mem_drop h)) inner hi A1 c1 w hR)
  clear hR hz hi
  go_enter Try.func8, Try.ntmps8
  go_wp2_with fail
  go_loopw [7, 8] (fun v7 v8 wr => ∃ (A1 : Option Addr) (c1 k fr : Nat) (done : List (Nat × Nat)), v7 = .slice A1 k c1 ∧ v8 = .int .i64 fr ∧ k = done.length ∧ fr ≤ l.length ∧ Hid (wr.ownsRow W.heap.size 25 2 (.slice A1 k c1) k (done.flatMap lnC)) ∧ Hid (Below W.heap.size W wr) ∧ Hid (done ++ linesZ inner wrap (l.drop fr) fr = linesZ inner wrap l 0)) (fun _ v8 _ => l.length - (intOf v8).toNat)
  case atStart => exact ⟨none, 0, 0, 0, [], rfl, rfl, rfl, Nat.zero_le _, Lib.hid ⟨rfl, .inl ⟨rfl, rfl⟩⟩, Lib.hid (Below.refl _ _), Lib.hid rfl⟩
  case round =>
    obtain ⟨A1, c1, k, fr, done, rfl, rfl, hk, hfl, O, B, E⟩ := hrel
    have HK := Lib.hid hk
    clear hk
    by_cases hlt : fr < l.length
    · have hltz : (fr : Int) < l.length := by omega
      obtain ⟨F, hF⟩ : ∃ F, firstC inner wrap (l.drop fr) = F := ⟨_, rfl⟩
      have hFb := firstC_bd inner wrap (l.drop fr) (by rw [List.length_drop]; omega)
      have E1 := E.out
      rw [linesZ_step inner wrap _ _ (show 0 < (l.drop fr).length by rw [List.length_drop]; omega)] at E1
      rw [hF, List.drop_drop] at E1
      rw [hF, List.length_drop] at hFb
      have E1 : Hid ((done ++ [(fr, fr + F)]) ++ linesZ inner wrap (l.drop (fr + F)) (fr + F) = linesZ inner wrap l 0) := Lib.hid (by rw [List.append_assoc]; exact E1)
      have hkb : k ≤ l.length := by
        have h1 := congrArg List.length E.out
        have h2 := linesZ_len inner wrap l 0
        rw [List.length_append] at h1
        have := HK.out
        omega
      clear E
      cases wrap with
      | true =>
        go_wp2_with fail
        obtain ⟨ad, rfl, hb, r0⟩ := (HR.out.below B.out).int hlt
        have RD := ((HR.out.below B.out).drop fr).more B.out.size
        rw [show (i64s l).drop fr = i64s (l.drop fr) by simp [i64s]] at RD
        clear r0
        have T := HT.out fr hlt (some (ad.add fr)) (c - fr) wr RD
        rw [hF, List.length_drop] at T
        have T := Lib.hid T
        clear RD
        trace_state
        refine T.out.mono ?_
        rintro e wq ⟨rfl, hb2⟩
        have O := Lib.hid (own_below O.out hb2 (Nat.le_refl _))
        have B := Lib.hid (B.out.trans (hb2.mono B.out.size))
        clear hb2 T
        have S1 := B.out.size
        go_upto_region 8 with (at_builtin; refine wpList_pushOne rfl (.tmp 24) (.tmp 28) _ rfl W.heap.size 25 2 16 (.agg #[.int .i64 0, .int .i64 0]) Try.underlying23 ln_info rfl (by decide) k (.slice A1 k c1) _ rfl (own_below O.out ((Below.refl _ wq).alloc (Nat.le_refl _) (.cells #[.int .i64 fr, .int .i64 ((fr : Int) + (F : Int))] 25)) (Nat.le_refl _)) (by simp; omega) wq.heap.size [.int .i64 fr, .int .i64 ((fr : Int) + (F : Int))] rfl (Whole.mk wq 25 #[.int .i64 fr, .int .i64 ((fr : Int) + (F : Int))]) rfl (by simp [Value.oneCell']) (by unfold maxLen; omega) (by omega) ?_; intro A5 c5 w5 h5 ho5 hk5)
        have O5 : Hid (w5.ownsRow W.heap.size 25 2 (.slice A5 (k + 1) c5) (k + 1) ((done ++ [(fr, fr + F)]).flatMap lnC)) := Lib.hid (by
          rw [List.flatMap_append]
          have e : [(fr, fr + F)].flatMap lnC = [.int .i64 (fr : Int), .int .i64 ((fr : Int) + (F : Int))] := by simp [lnC]
          rw [e]; exact h5)
        have B5 := Lib.hid (own_push (own_below O.out ((Below.refl _ wq).alloc (Nat.le_refl _) (.cells #[.int .i64 fr, .int .i64 ((fr : Int) + (F : Int))] 25)) (Nat.le_refl _)) (B.out.alloc S1 _) (by simp; omega) ho5)
        clear h5 ho5 hk5 O B
        go_wp2_with fail
        go_roundw
        case rel => exact ⟨A5, c5, k + 1, fr + F, _, rfl, by go_num, by rw [List.length_append, HK.out]; rfl, by omega, O5, B5, E1⟩
        case measure => simp [intOf] <;> omega
      | false =>
        have hFl : F = l.length - fr := by rw [← hF]; unfold firstC; simp
        obtain ⟨wq, hwq⟩ : ∃ wq, wr = wq := ⟨_, rfl⟩
        subst hwq
        have S1 := B.out.size
        go_upto_region 8 with (at_builtin; refine wpList_pushOne rfl (.tmp 24) (.tmp 28) _ rfl W.heap.size 25 2 16 (.agg #[.int .i64 0, .int .i64 0]) Try.underlying23 ln_info rfl (by decide) k (.slice A1 k c1) _ rfl (own_below O.out ((Below.refl _ wr).alloc (Nat.le_refl _) (.cells #[.int .i64 fr, .int .i64 (l.length : Int)] 25)) (Nat.le_refl _)) (by simp; omega) wr.heap.size [.int .i64 fr, .int .i64 (l.length : Int)] rfl (Whole.mk wr 25 #[.int .i64 fr, .int .i64 (l.length : Int)]) rfl (by simp [Value.oneCell']) (by unfold maxLen; omega) (by omega) ?_; intro A5 c5 w5 h5 ho5 hk5)
        have O5 : Hid (w5.ownsRow W.heap.size 25 2 (.slice A5 (k + 1) c5) (k + 1) ((done ++ [(fr, fr + F)]).flatMap lnC)) := Lib.hid (by
          rw [List.flatMap_append]
          have e : [(fr, fr + F)].flatMap lnC = [.int .i64 (fr : Int), .int .i64 (l.length : Int)] := by simp [lnC]; omega
          rw [e]; exact h5)
        have B5 := Lib.hid (own_push (own_below O.out ((Below.refl _ wr).alloc (Nat.le_refl _) (.cells #[.int .i64 fr, .int .i64 (l.length : Int)] 25)) (Nat.le_refl _)) (B.out.alloc S1 _) (by simp; omega) ho5)
        clear h5 ho5 hk5 O B
        go_wp2_with fail
        go_roundw
        case rel => exact ⟨A5, c5, k + 1, fr + F, _, rfl, by congr 1; omega, by rw [List.length_append, HK.out]; rfl, by omega, O5, B5, E1⟩
        case measure => simp [intOf] <;> omega
    · obtain rfl : fr = l.length := by omega
      have E2 : Hid (done = linesZ inner wrap l 0) := Lib.hid (by have := E.out; rw [List.drop_length] at this; simpa [linesZ] using this)
      have R : Hid (LinesPost inner wrap l W (.returned (.slice A1 k c1)) wr) := Lib.hid ⟨A1, c1, by rw [← E2.out, HK.out], by have := O.out; rw [E2.out, HK.out, E2.out] at this; exact this, B.out⟩
      clear O B E
      go_wp2_with fail
      go_ret
      exact R.out
end Go.Proofs.Ytmkmealgoafgdaa
