import Derived.Test.YtagcfbnidepfoaaGlyphMem
/- quoinlaw10: Runs of numbers, few ones, rows of glyphs that are the same. -/
namespace Go.Proofs.Ytagcfbnidepfoaa
open Go Go.RowKit
set_option linter.unusedVariables false
set_option linter.unusedSimpArgs false
set_option maxRecDepth 20000
set_option maxHeartbeats 4000000

/- Few. -/
def fewN : List Rn → Nat → Nat
  | _, 0 => 0
  | rs, k + 1 => fewN rs k + min ((rs[k]?.map fun x => x.text.size).getD 0) 5000
def fewB (rs : List Rn) : Bool := decide (rs.length ≤ 25) && decide (fewN rs (min rs.length 30) ≤ 2000)
theorem fewN_bd (rs : List Rn) : ∀ k, fewN rs k ≤ 5000 * k
  | 0 => Nat.le_refl _
  | k + 1 => by have := fewN_bd rs k; simp only [fewN]; omega
theorem fewN_all : ∀ (rs : List Rn) (k : Nat), k ≤ rs.length → fewN rs k ≤ 2000 → sizeAll (rs.take k) ≤ fewN rs k
  | rs, 0, _, _ => by simp [sizeAll]
  | rs, k + 1, h, hf => by
    simp only [fewN] at hf ⊢
    have ih := fewN_all rs k (by omega) (by omega)
    have hk : k < rs.length := by omega
    have e : sizeAll (rs.take (k + 1)) = sizeAll (rs.take k) + rs[k].text.size := by
      simp only [sizeAll, List.take_succ_eq_append_getElem hk, List.map_append, List.sum_append]
      simp
    rw [List.getElem?_eq_getElem hk] at hf ⊢
    simp only [Option.map_some, Option.getD_some] at hf ⊢
    rw [e]
    omega
theorem fewB_size (rs : List Rn) (h : fewB rs = true) : rs.length ≤ 25 ∧ sizeAll rs ≤ 2000 := by
  simp only [fewB, Bool.and_eq_true, decide_eq_true_eq] at h
  refine ⟨h.1, ?_⟩
  have := fewN_all rs rs.length (Nat.le_refl _) (by rw [show min rs.length 30 = rs.length by omega] at h; exact h.2)
  rw [List.take_length] at this
  rw [show min rs.length 30 = rs.length by omega] at h
  omega
theorem few_any (rs : List Rn) (A : Option Addr) (c : Nat) (W : World) (B : Nat) (hR : Row W B A (rCells rs)) (hn : rs.length ≤ 9223372036854775807) (ht : ∀ (k : Nat) (h : k < rs.length), rs[k].text.size ≤ 9223372036854775807) :
    Calls Try.prog 12 #[.slice A rs.length c] W fun e w' => e = .returned (.bool (fewB rs)) ∧ W = w' := by
  have HR := Lib.hid hR
  have HT := Lib.hid ht
  have HD : Hid (fewB rs = (decide (rs.length ≤ 25) && decide (fewN rs (min rs.length 30) ≤ 2000))) := Lib.hid rfl
  clear hR ht
  go_enter Try.func12, Try.ntmps12
  go_wp2
  go_loop [3, 4] (fun t i => ∃ k : Nat, k ≤ rs.length ∧ k ≤ 30 ∧ i = .int .i64 k ∧ t = .int .i64 (fewN rs k)) (fun _ i => 30 - (intOf i).toNat)
  case atStart => exact ⟨0, Nat.zero_le _, by omega, rfl, rfl⟩
  case round =>
    obtain ⟨k, hk, hk3, rfl, rfl⟩ := hrel
    have hbd := fewN_bd rs k
    by_cases hlt : k < rs.length ∧ k < 30
    · obtain ⟨hlt, hlt3⟩ := hlt
      obtain ⟨ad, rfl, hab, r0, r1, r2, r3⟩ := HR.out.rn hlt
      have hs := HT.out k hlt
      have HE := Lib.hid (show fewN rs (k + 1) = fewN rs k + min rs[k].text.size 5000 by simp [fewN, List.getElem?_eq_getElem hlt])
      generalize rs[k].text = s at *
      generalize fewN rs k = t at *
      clear HD
      by_cases h5 : s.size ≤ 5000
      · have h6 : (s.size : Int) ≤ 5000 := by omega
        go_wp2
        all_goals go_round
        all_goals first
          | (case rel => exact ⟨k + 1, by omega, by omega, by go_num, by rw [HE.out]; congr 1; omega⟩)
          | (case measure => simp [intOf]; omega)
      · have h6 : (5000 : Int) < s.size := by omega
        go_wp2
        all_goals go_round
        all_goals first
          | (case rel => exact ⟨k + 1, by omega, by omega, by go_num, by rw [HE.out]; congr 1; omega⟩)
          | (case measure => simp [intOf]; omega)
    · have hmin := Lib.hid (show k = min rs.length 30 by omega)
      rw [← hmin.out] at HD
      by_cases h25 : rs.length ≤ 25
      · have h25' : (rs.length : Int) ≤ 25 := by omega
        have hnl : ¬ (k : Int) < rs.length := by omega
        by_cases hf : fewN rs k ≤ 2000
        · have hf' : (fewN rs k : Int) ≤ 2000 := by omega
          have hB := Lib.hid (show fewB rs = true by rw [HD.out, decide_eq_true h25, decide_eq_true hf]; rfl)
          go_wp2
          go_ret
          first | exact ⟨ret_bool hB.out.symm, rfl⟩ | exact ⟨ret_bool (by rw [hB.out]; simpa using hf), rfl⟩
        · have hf' : ¬ (fewN rs k : Int) ≤ 2000 := by omega
          have hB := Lib.hid (show fewB rs = false by rw [HD.out, decide_eq_false hf]; simp)
          go_wp2
          go_ret
          first | exact ⟨ret_bool hB.out.symm, rfl⟩ | exact ⟨ret_bool (by rw [hB.out]; simpa using hf), rfl⟩
      · have h25' : ¬ (rs.length : Int) ≤ 25 := by omega
        have hB := Lib.hid (show fewB rs = false by rw [HD.out, decide_eq_false h25]; rfl)
        by_cases hnl : k < rs.length
        · have hnl' : (k : Int) < rs.length := by omega
          have hk30 : ¬ (k : Int) < 30 := by omega
          go_wp2
          go_ret
          first | exact ⟨ret_bool hB.out.symm, rfl⟩ | exact ⟨ret_bool (by rw [hB.out]; simpa using hf), rfl⟩
        · have hnl' : ¬ (k : Int) < rs.length := by omega
          go_wp2
          go_ret
          first | exact ⟨ret_bool hB.out.symm, rfl⟩ | exact ⟨ret_bool (by rw [hB.out]; simpa using hf), rfl⟩
/- Same: of a row and a row like it. -/
theorem same_any (l : List Gl) (A A' : Option Addr) (c c' : Nat) (W : World) (B B' : Nat) (hR : Row W B A (i64s (gCells l))) (hR' : Row W B' A' (i64s (gCells l))) (hB : B ≤ W.heap.size) (hB' : B' ≤ W.heap.size) (hn : l.length ≤ 9223372036854775807) :
    Calls Try.prog 13 #[.slice A l.length c, .slice A' l.length c'] W fun e w' => e = .returned (.bool true) ∧ Below W.heap.size W w' := by
  have HR := Lib.hid hR
  have HR' := Lib.hid hR'
  clear hR hR'
  go_enter Try.func13, Try.ntmps13
  go_wp2
  go_loopw [5] (fun i wr => ∃ k : Nat, k ≤ l.length ∧ i = .int .i64 k ∧ Below W.heap.size W wr) (fun i _ => l.length - (intOf i).toNat)
  case atStart => exact ⟨0, Nat.zero_le _, rfl, Below.refl _ _⟩
  case round =>
    obtain ⟨k, hk, rfl, hB0⟩ := hrel
    have HB0 := Lib.hid hB0
    have zB := hB0.size
    by_cases hlt : k < l.length
    · have hki : (k : Int) < l.length := by omega
      obtain ⟨ad, rfl, hab, r0, r1, r2, r3⟩ := ((HR.out.below (hB0.mono hB))).gl hlt
      obtain ⟨ad', rfl, hab', q0, q1, q2, q3⟩ := ((HR'.out.below (hB0.mono hB'))).gl hlt
      clear hB0
      generalize l[k].kind = g0 at *
      generalize l[k].run = g1 at *
      generalize l[k].at_ = g2 at *
      generalize l[k].adv = g3 at *
      go_upto_region 6 with fail
      go_quiet (fail)
      go_wp2
      go_roundw
      case rel => exact ⟨k + 1, by omega, by go_num, Below.drewN' HB0.out nq⟩
      case measure => simp [intOf]; omega
    · go_wp2
      go_ret
      exact ⟨rfl, HB0.out⟩
end Go.Proofs.Ytagcfbnidepfoaa
