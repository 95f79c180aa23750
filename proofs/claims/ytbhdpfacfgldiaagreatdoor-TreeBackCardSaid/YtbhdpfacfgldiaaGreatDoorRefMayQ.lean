import Derived.Test.YtbhdpfacfgldiaaGreatDoorZQ
import Derived.Deep.Cut
import Derived.Deep.CutBlock
import Derived.Deep.DeepCutAuto
import Derived.Deep.CutRange
import Derived.Test.YtbhdpfacfgldiaaGreatDoorZSQ
/- The document's answer: the words of a Prop; could a text tell a declaration? -/
namespace Go.Proofs.YtbhdpfacfgldiaaGreatDoor
open Go Go.RowKit
set_option linter.unusedVariables false
set_option linter.unusedSimpArgs false
set_option maxRecDepth 20000
set_option maxHeartbeats 4000000

def WordsAt (w0 : World) (p : Int) (e : Ending) (w : World) : Prop := ∃ A, e = .returned (.slice A (wordsS p).length (wordsS p).length) ∧ Row w (w0.heap.size + 1) A (strs (wordsS p)) ∧ (A = none → wordsS p = []) ∧ Below w0.heap.size w0 w
theorem wordsAt_mk (W : World) (p : Int) (cs : Array Value) (n : Nat) (hn : (wordsS p).length = n) (t : TypeId) (h : strs (wordsS p) = cs.toList) : WordsAt W p (.returned (.slice (some ⟨W.heap.size, 0, none⟩) n n)) (W.alloc (.cells cs t)) := by
  subst hn
  exact ⟨_, rfl, h ▸ row_new W cs t, (fun h => by cases h), (Below.refl _ _).alloc (Nat.le_refl _) _⟩
theorem rwords_any (p : Int) (W : World) : Calls Tryz.prog 62 #[.int .i64 p] W fun e w' => WordsAt W p e w' := by
  by_cases h : p = 1 ∨ p = 20 ∨ p = 21 ∨ p = 26 ∨ p = 27 ∨ p = 28 ∨ p = 29 ∨ p = 30 ∨ p = 32
  · rcases h with rfl | rfl | rfl | rfl | rfl | rfl | rfl | rfl | rfl
    all_goals
      go_enter Tryz.func62, Tryz.ntmps62
      go_wp2
      go_ret
      exact wordsAt_mk W _ _ _ rfl _ rfl
  · have h1 : p ≠ 1 := by omega
    have h2 : p ≠ 20 := by omega
    have h3 : p ≠ 21 := by omega
    have h4 : p ≠ 26 := by omega
    have h5 : p ≠ 27 := by omega
    have h6 : p ≠ 28 := by omega
    have h7 : p ≠ 29 := by omega
    have h8 : p ≠ 30 := by omega
    have h9 : p ≠ 32 := by omega
    have hw : wordsS p = [] := by unfold wordsS; simp only [if_neg h1, if_neg h2, if_neg h3, if_neg h4, if_neg h5, if_neg h6, if_neg h7, if_neg h8, if_neg h9]
    have HW := Lib.hid hw
    clear h hw
    go_enter Tryz.func62, Tryz.ntmps62
    go_wp2
    go_ret
    exact ⟨none, by rw [HW.out]; rfl, by rw [HW.out]; exact Row.nil _ _ _, fun _ => HW.out, Below.refl _ _⟩

theorem ret_boolV {a b : Bool} (h : a = b) : Value.bool a = Value.bool b := by rw [h]
theorem rmay_any (p w k n : Int) (W : World) : Calls Tryz.prog 41 #[.agg #[.int .i64 p, .int .i64 w, .int .i64 k, .int .i64 n]] W fun e w' => e = .returned (.bool (mayZ p w k n)) ∧ Below W.heap.size W w' := by
  go_enter Tryz.func41, Tryz.ntmps41
  go_wp2_with fail
  refine (rwords_any p _).mono ?_
  rintro e w1 ⟨A, rfl, R, N, b⟩
  have E1 := Lib.hid ((Whole.mk W 70 #[.int .i64 p, .int .i64 w, .int .i64 k, .int .i64 n]).under b (by simp))
  have B1 := Lib.hid (((Below.refl _ W).alloc (Nat.le_refl _) (.cells #[.int .i64 p, .int .i64 w, .int .i64 k, .int .i64 n] 70)).trans (b.mono (by simp)))
  have z1 : W.heap.size < w1.heap.size := E1.out.size
  have c0 : w1.cell? ⟨W.heap.size, 0, none⟩ = some (.int .i64 p) := E1.out.cell 0
  have c1 : w1.cell? ⟨W.heap.size, 1, none⟩ = some (.int .i64 w) := E1.out.cell 1
  have c2 : w1.cell? ⟨W.heap.size, 2, none⟩ = some (.int .i64 k) := E1.out.cell 2
  have c3 : w1.cell? ⟨W.heap.size, 3, none⟩ = some (.int .i64 n) := E1.out.cell 3
  clear b R N
  have HM := Lib.hid (wordsS_length p)
  have B2 := Lib.hid (B1.out.alloc (by omega) (.cells #[.int .i64 0, .int .i64 0] 68))
  go_upto_region 4 with fail
  generalize (wordsS p).length = m at *
  go_cut [0, 6] (fun v0 v wx => v = .bool (pxB w k n) ∧ wx = w1.alloc (.cells #[.int .i64 0, .int .i64 0] 68))
  case first =>
    as_aux_lemma =>
      go_wp2
      all_goals
        go_meet
      all_goals
        refine ⟨ret_boolV ?_, rfl⟩
        unfold pxB
        first | (rw [decide_eq_decide]; omega) | (exact (decide_eq_false (by omega)).symm) | (exact (decide_eq_true (by omega)).symm)
  case rest =>
    obtain ⟨h6, rfl⟩ := hcut
    generalize hb6 : pxB w k n = b6 at *
    have H6 := Lib.hid hb6
    clear hb6
    subst h6
    go_upto_region 5 with fail
    go_cut [0, 7] (fun v0 v wx => v = .bool (pctB w k n) ∧ wx = w1.alloc (.cells #[.int .i64 0, .int .i64 0] 68))
    case first =>
      as_aux_lemma =>
        go_wp2
        all_goals
          go_meet
        all_goals
          refine ⟨ret_boolV ?_, rfl⟩
          unfold pctB
          first | (rw [decide_eq_decide]; omega) | (exact (decide_eq_false (by omega)).symm) | (exact (decide_eq_true (by omega)).symm)
    case rest =>
      obtain ⟨h7, rfl⟩ := hcut
      generalize hb7 : pctB w k n = b7 at *
      have H7 := Lib.hid hb7
      clear hb7
      subst h7
      go_upto_region 6 with fail
      go_cut [0, 8] (fun v0 v wx => v = .bool (autoB w k n) ∧ wx = w1.alloc (.cells #[.int .i64 0, .int .i64 0] 68))
      case first =>
        as_aux_lemma =>
          go_wp2
          all_goals
            go_meet
          all_goals
            refine ⟨ret_boolV ?_, rfl⟩
            unfold autoB
            first | (rw [decide_eq_decide]; omega) | (exact (decide_eq_false (by omega)).symm) | (exact (decide_eq_true (by omega)).symm)
      case rest =>
        obtain ⟨h8, rfl⟩ := hcut
        generalize hb8 : autoB w k n = b8 at *
        have H8 := Lib.hid hb8
        clear hb8
        subst h8
        rcases (show p < 1 ∨ 32 < p ∨ (p = 1 ∨ p = 20 ∨ p = 21 ∨ p = 26 ∨ p = 27 ∨ p = 28 ∨ p = 29 ∨ p = 30 ∨ p = 32) ∨ ((p = 23 ∨ p = 24) ∨ p = 25 ∨ ((12 ≤ p ∧ p ≤ 19) ∨ p = 31) ∨ (8 ≤ p ∧ p ≤ 11) ∨ (p = 4 ∨ p = 5) ∨ (p = 2 ∨ p = 3 ∨ p = 6 ∨ p = 7 ∨ p = 22)) by omega) with h | h | h | h
        · have HT := Lib.hid (may_out (w := w) (k := k) (n := n) (Or.inl h))
          as_aux_lemma =>
            go_wp2
            all_goals
              go_ret
              refine ⟨ret_bool (Eq.trans ?_ HT.out.symm), B2.out⟩
              rfl
        · have HT := Lib.hid (may_out (w := w) (k := k) (n := n) (Or.inr h))
          have h1 : ¬ p < 1 := by omega
          as_aux_lemma =>
            go_wp2
            all_goals
              go_ret
              refine ⟨ret_bool (Eq.trans ?_ HT.out.symm), B2.out⟩
              rfl
        · have hp := wordsN_pos h
          rw [← HM.out] at hp
          obtain ⟨hp0, hp5⟩ := hp
          have ht := may_words (w := w) (k := k) (n := n) h
          rw [← HM.out] at ht
          have HT := Lib.hid ht
          have h1 : 1 ≤ p := by omega
          have h2 : p ≤ 32 := by omega
          clear h ht
          as_aux_lemma =>
            go_wp2
            all_goals
              go_ret
              refine ⟨ret_bool (Eq.trans ?_ HT.out.symm), B2.out⟩
              first | (rw [decide_eq_decide]; omega) | (exact (decide_eq_false (by omega)).symm) | (exact (decide_eq_true (by omega)).symm)
        · have hm : m = 0 := by
            have := HM.out
            rw [wordsN_none (by omega)] at this
            omega
          subst hm
          have h1 : 1 ≤ p := by omega
          have h2 : p ≤ 32 := by omega
          rcases h with h | rfl | h | h | h | h
          · have ht := may_whole (w := w) (k := k) (n := n) h
            have HT := Lib.hid ht
            clear ht h1 h2
            rcases (show p = 23 ∨ p = 24 by omega) with rfl | rfl
            all_goals
              clear h
              as_aux_lemma =>
                go_wp2
                all_goals
                  go_ret
                  refine ⟨ret_bool (Eq.trans ?_ HT.out.symm), B2.out⟩
                  first | (rw [decide_eq_decide]; omega) | (exact (decide_eq_false (by omega)).symm) | (exact (decide_eq_true (by omega)).symm)
          · have ht := may_order (p := 25) (w := w) (k := k) (n := n) rfl
            have HT := Lib.hid ht
            clear ht h1 h2
            as_aux_lemma =>
              go_wp2
              all_goals
                go_ret
                refine ⟨ret_bool (Eq.trans ?_ HT.out.symm), B2.out⟩
                first | (rw [decide_eq_decide]; omega) | (exact (decide_eq_false (by omega)).symm) | (exact (decide_eq_true (by omega)).symm)
          · have ht := may_px (w := w) (k := k) (n := n) h
            rw [H6.out] at ht
            have HT := Lib.hid ht
            clear ht h1 h2
            rcases (show p = 12 ∨ p = 13 ∨ p = 14 ∨ p = 15 ∨ p = 16 ∨ p = 17 ∨ p = 18 ∨ p = 19 ∨ p = 31 by omega) with rfl | rfl | rfl | rfl | rfl | rfl | rfl | rfl | rfl
            all_goals
              clear h
              as_aux_lemma =>
                go_wp2
                all_goals
                  go_ret
                  refine ⟨ret_bool (Eq.trans ?_ HT.out.symm), B2.out⟩
                  first | rfl | (simp [*]; done) | (simp [*]; omega)
          · have ht := may_margin (w := w) (k := k) (n := n) h
            rw [H6.out, H7.out, H8.out] at ht
            have HT := Lib.hid ht
            clear ht h1 h2
            rcases (show p = 8 ∨ p = 9 ∨ p = 10 ∨ p = 11 by omega) with rfl | rfl | rfl | rfl
            all_goals
              clear h
              as_aux_lemma =>
                go_wp2
                all_goals
                  go_ret
                  refine ⟨ret_bool (Eq.trans ?_ HT.out.symm), B2.out⟩
                  first | rfl | (simp [*]; done) | (simp [*]; omega)
          · have ht := may_min (w := w) (k := k) (n := n) h
            rw [H6.out, H7.out] at ht
            have HT := Lib.hid ht
            clear ht h1 h2
            rcases (show p = 4 ∨ p = 5 by omega) with rfl | rfl
            all_goals
              clear h
              as_aux_lemma =>
                go_wp2
                all_goals
                  go_ret
                  refine ⟨ret_bool (Eq.trans ?_ HT.out.symm), B2.out⟩
                  first | rfl | (simp [*]; done) | (simp [*]; omega)
          · have ht := may_rest (w := w) (k := k) (n := n) h
            rw [H6.out, H7.out, H8.out] at ht
            have HT := Lib.hid ht
            clear ht h1 h2
            rcases (show p = 2 ∨ p = 3 ∨ p = 6 ∨ p = 7 ∨ p = 22 by omega) with rfl | rfl | rfl | rfl | rfl
            all_goals
              clear h
              as_aux_lemma =>
                go_wp2
                all_goals
                  go_ret
                  refine ⟨ret_bool (Eq.trans ?_ HT.out.symm), B2.out⟩
                  first | rfl | (simp [*]; done) | (simp [*]; omega)
end Go.Proofs.YtbhdpfacfgldiaaGreatDoor
