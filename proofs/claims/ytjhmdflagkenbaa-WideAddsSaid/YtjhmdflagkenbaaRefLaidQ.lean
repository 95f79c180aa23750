import Derived.Test.YtjhmdflagkenbaaZQ
/- The document's answer: a style with one declaration laid over. -/
namespace Go.Proofs.Ytjhmdflagkenbaa
open Go Go.RowKit
set_option linter.unusedVariables false
set_option linter.unusedSimpArgs false
set_option maxRecDepth 20000
set_option maxHeartbeats 4000000

theorem rlaid_any (zs : List Int) (hz : zs.length = 43) (p w k n : Int) (hp : 1 ≤ p) (hp2 : p ≤ 32) (W : World) :
    Calls Try.prog 58 #[.agg (i64s zs).toArray, .agg #[.int .i64 p, .int .i64 w, .int .i64 k, .int .i64 n]] W fun e w' => e = .returned (.agg (i64s (laidZ zs p w k n)).toArray) ∧ Below W.heap.size W w' := by
  have HZ := Lib.hid hz
  clear hz
  go_enter Try.func58, Try.ntmps58
  go_upto_block 0 with fail
  go_cut [] (fun wx => RelZ W wx (laidZ zs p w k n))
  case first =>
    rcases (show p = 1 ∨ p = 2 ∨ p = 3 ∨ p = 4 ∨ p = 5 ∨ p = 6 ∨ p = 7 ∨ p = 8 ∨ p = 9 ∨ p = 10 ∨ p = 11 ∨ p = 12 ∨ p = 13 ∨ p = 14 ∨ p = 15 ∨ p = 16 ∨ p = 17 ∨ p = 18 ∨ p = 19 ∨ p = 20 ∨ p = 21 ∨ p = 22 ∨ p = 23 ∨ p = 24 ∨ p = 25 ∨ p = 26 ∨ p = 27 ∨ p = 28 ∨ p = 29 ∨ p = 30 ∨ p = 31 ∨ p = 32 by omega) with rfl | rfl | rfl | rfl | rfl | rfl | rfl | rfl | rfl | rfl | rfl | rfl | rfl | rfl | rfl | rfl | rfl | rfl | rfl | rfl | rfl | rfl | rfl | rfl | rfl | rfl | rfl | rfl | rfl | rfl | rfl | rfl
    · as_aux_lemma =>
      obtain ⟨z0, h0⟩ := i64s_get zs 0 (by rw [HZ.out]; decide)
      go_wp2
      go_meet
      case rel => exact relZ_mk W _ _ _ (show i64s (zs.set 0 w) = _ by simp only [i64s_set])
    · as_aux_lemma =>
      obtain ⟨z0, h0⟩ := i64s_get zs 9 (by rw [HZ.out]; decide)
      obtain ⟨z1, h1⟩ := i64s_get zs 10 (by rw [HZ.out]; decide)
      go_wp2
      go_meet
      case rel => exact relZ_mk W _ _ _ (show i64s ((zs.set 9 k).set 10 n) = _ by simp only [i64s_set])
    · as_aux_lemma =>
      obtain ⟨z0, h0⟩ := i64s_get zs 11 (by rw [HZ.out]; decide)
      obtain ⟨z1, h1⟩ := i64s_get zs 12 (by rw [HZ.out]; decide)
      go_wp2
      go_meet
      case rel => exact relZ_mk W _ _ _ (show i64s ((zs.set 11 k).set 12 n) = _ by simp only [i64s_set])
    · as_aux_lemma =>
      obtain ⟨z0, h0⟩ := i64s_get zs 13 (by rw [HZ.out]; decide)
      obtain ⟨z1, h1⟩ := i64s_get zs 14 (by rw [HZ.out]; decide)
      go_wp2
      go_meet
      case rel => exact relZ_mk W _ _ _ (show i64s ((zs.set 13 k).set 14 n) = _ by simp only [i64s_set])
    · as_aux_lemma =>
      obtain ⟨z0, h0⟩ := i64s_get zs 15 (by rw [HZ.out]; decide)
      obtain ⟨z1, h1⟩ := i64s_get zs 16 (by rw [HZ.out]; decide)
      go_wp2
      go_meet
      case rel => exact relZ_mk W _ _ _ (show i64s ((zs.set 15 k).set 16 n) = _ by simp only [i64s_set])
    · as_aux_lemma =>
      obtain ⟨z0, h0⟩ := i64s_get zs 17 (by rw [HZ.out]; decide)
      obtain ⟨z1, h1⟩ := i64s_get zs 18 (by rw [HZ.out]; decide)
      go_wp2
      go_meet
      case rel => exact relZ_mk W _ _ _ (show i64s ((zs.set 17 k).set 18 n) = _ by simp only [i64s_set])
    · as_aux_lemma =>
      obtain ⟨z0, h0⟩ := i64s_get zs 19 (by rw [HZ.out]; decide)
      obtain ⟨z1, h1⟩ := i64s_get zs 20 (by rw [HZ.out]; decide)
      go_wp2
      go_meet
      case rel => exact relZ_mk W _ _ _ (show i64s ((zs.set 19 k).set 20 n) = _ by simp only [i64s_set])
    · as_aux_lemma =>
      obtain ⟨z0, h0⟩ := i64s_get zs 23 (by rw [HZ.out]; decide)
      obtain ⟨z1, h1⟩ := i64s_get zs 24 (by rw [HZ.out]; decide)
      go_wp2
      go_meet
      case rel => exact relZ_mk W _ _ _ (show i64s ((zs.set 23 k).set 24 n) = _ by simp only [i64s_set])
    · as_aux_lemma =>
      obtain ⟨z0, h0⟩ := i64s_get zs 25 (by rw [HZ.out]; decide)
      obtain ⟨z1, h1⟩ := i64s_get zs 26 (by rw [HZ.out]; decide)
      go_wp2
      go_meet
      case rel => exact relZ_mk W _ _ _ (show i64s ((zs.set 25 k).set 26 n) = _ by simp only [i64s_set])
    · as_aux_lemma =>
      obtain ⟨z0, h0⟩ := i64s_get zs 27 (by rw [HZ.out]; decide)
      obtain ⟨z1, h1⟩ := i64s_get zs 28 (by rw [HZ.out]; decide)
      go_wp2
      go_meet
      case rel => exact relZ_mk W _ _ _ (show i64s ((zs.set 27 k).set 28 n) = _ by simp only [i64s_set])
    · as_aux_lemma =>
      obtain ⟨z0, h0⟩ := i64s_get zs 29 (by rw [HZ.out]; decide)
      obtain ⟨z1, h1⟩ := i64s_get zs 30 (by rw [HZ.out]; decide)
      go_wp2
      go_meet
      case rel => exact relZ_mk W _ _ _ (show i64s ((zs.set 29 k).set 30 n) = _ by simp only [i64s_set])
    · as_aux_lemma =>
      obtain ⟨z0, h0⟩ := i64s_get zs 31 (by rw [HZ.out]; decide)
      go_wp2
      go_meet
      case rel => exact relZ_mk W _ _ _ (show i64s (zs.set 31 n) = _ by simp only [i64s_set])
    · as_aux_lemma =>
      obtain ⟨z0, h0⟩ := i64s_get zs 32 (by rw [HZ.out]; decide)
      go_wp2
      go_meet
      case rel => exact relZ_mk W _ _ _ (show i64s (zs.set 32 n) = _ by simp only [i64s_set])
    · as_aux_lemma =>
      obtain ⟨z0, h0⟩ := i64s_get zs 33 (by rw [HZ.out]; decide)
      go_wp2
      go_meet
      case rel => exact relZ_mk W _ _ _ (show i64s (zs.set 33 n) = _ by simp only [i64s_set])
    · as_aux_lemma =>
      obtain ⟨z0, h0⟩ := i64s_get zs 34 (by rw [HZ.out]; decide)
      go_wp2
      go_meet
      case rel => exact relZ_mk W _ _ _ (show i64s (zs.set 34 n) = _ by simp only [i64s_set])
    · as_aux_lemma =>
      obtain ⟨z0, h0⟩ := i64s_get zs 35 (by rw [HZ.out]; decide)
      go_wp2
      go_meet
      case rel => exact relZ_mk W _ _ _ (show i64s (zs.set 35 n) = _ by simp only [i64s_set])
    · as_aux_lemma =>
      obtain ⟨z0, h0⟩ := i64s_get zs 36 (by rw [HZ.out]; decide)
      go_wp2
      go_meet
      case rel => exact relZ_mk W _ _ _ (show i64s (zs.set 36 n) = _ by simp only [i64s_set])
    · as_aux_lemma =>
      obtain ⟨z0, h0⟩ := i64s_get zs 37 (by rw [HZ.out]; decide)
      go_wp2
      go_meet
      case rel => exact relZ_mk W _ _ _ (show i64s (zs.set 37 n) = _ by simp only [i64s_set])
    · as_aux_lemma =>
      obtain ⟨z0, h0⟩ := i64s_get zs 38 (by rw [HZ.out]; decide)
      go_wp2
      go_meet
      case rel => exact relZ_mk W _ _ _ (show i64s (zs.set 38 n) = _ by simp only [i64s_set])
    · as_aux_lemma =>
      obtain ⟨z0, h0⟩ := i64s_get zs 1 (by rw [HZ.out]; decide)
      go_wp2
      go_meet
      case rel => exact relZ_mk W _ _ _ (show i64s (zs.set 1 w) = _ by simp only [i64s_set])
    · as_aux_lemma =>
      obtain ⟨z0, h0⟩ := i64s_get zs 2 (by rw [HZ.out]; decide)
      go_wp2
      go_meet
      case rel => exact relZ_mk W _ _ _ (show i64s (zs.set 2 w) = _ by simp only [i64s_set])
    · as_aux_lemma =>
      obtain ⟨z0, h0⟩ := i64s_get zs 21 (by rw [HZ.out]; decide)
      obtain ⟨z1, h1⟩ := i64s_get zs 22 (by rw [HZ.out]; decide)
      go_wp2
      go_meet
      case rel => exact relZ_mk W _ _ _ (show i64s ((zs.set 21 k).set 22 n) = _ by simp only [i64s_set])
    · as_aux_lemma =>
      obtain ⟨z0, h0⟩ := i64s_get zs 39 (by rw [HZ.out]; decide)
      go_wp2
      go_meet
      case rel => exact relZ_mk W _ _ _ (show i64s (zs.set 39 w) = _ by simp only [i64s_set])
    · as_aux_lemma =>
      obtain ⟨z0, h0⟩ := i64s_get zs 40 (by rw [HZ.out]; decide)
      go_wp2
      go_meet
      case rel => exact relZ_mk W _ _ _ (show i64s (zs.set 40 w) = _ by simp only [i64s_set])
    · as_aux_lemma =>
      obtain ⟨z0, h0⟩ := i64s_get zs 41 (by rw [HZ.out]; decide)
      go_wp2
      go_meet
      case rel => exact relZ_mk W _ _ _ (show i64s (zs.set 41 w) = _ by simp only [i64s_set])
    · as_aux_lemma =>
      obtain ⟨z0, h0⟩ := i64s_get zs 3 (by rw [HZ.out]; decide)
      go_wp2
      go_meet
      case rel => exact relZ_mk W _ _ _ (show i64s (zs.set 3 w) = _ by simp only [i64s_set])
    · as_aux_lemma =>
      obtain ⟨z0, h0⟩ := i64s_get zs 4 (by rw [HZ.out]; decide)
      go_wp2
      go_meet
      case rel => exact relZ_mk W _ _ _ (show i64s (zs.set 4 w) = _ by simp only [i64s_set])
    · as_aux_lemma =>
      obtain ⟨z0, h0⟩ := i64s_get zs 5 (by rw [HZ.out]; decide)
      go_wp2
      go_meet
      case rel => exact relZ_mk W _ _ _ (show i64s (zs.set 5 w) = _ by simp only [i64s_set])
    · as_aux_lemma =>
      obtain ⟨z0, h0⟩ := i64s_get zs 6 (by rw [HZ.out]; decide)
      go_wp2
      go_meet
      case rel => exact relZ_mk W _ _ _ (show i64s (zs.set 6 w) = _ by simp only [i64s_set])
    · as_aux_lemma =>
      obtain ⟨z0, h0⟩ := i64s_get zs 7 (by rw [HZ.out]; decide)
      go_wp2
      go_meet
      case rel => exact relZ_mk W _ _ _ (show i64s (zs.set 7 w) = _ by simp only [i64s_set])
    · as_aux_lemma =>
      obtain ⟨z0, h0⟩ := i64s_get zs 42 (by rw [HZ.out]; decide)
      go_wp2
      go_meet
      case rel => exact relZ_mk W _ _ _ (show i64s (zs.set 42 n) = _ by simp only [i64s_set])
    · as_aux_lemma =>
      obtain ⟨z0, h0⟩ := i64s_get zs 8 (by rw [HZ.out]; decide)
      go_wp2
      go_meet
      case rel => exact relZ_mk W _ _ _ (show i64s (zs.set 8 w) = _ by simp only [i64s_set])
  case rest =>
    have H := Lib.hid hcut
    clear hcut
    have HL := Lib.hid ((laidZ_length zs p w k n).trans HZ.out)
    go_wp2_with (first
      | (refine style_load (.tmp 2) rfl rfl W.heap.size rfl (laidZ zs p w k n) HL.out H.out.1 ?_)
      | (refine style_store (.tmp 4) (.tmp 146) rfl rfl (W.heap.size + 1 + 1) rfl (laidZ zs p w k n) HL.out rfl zeros43 H.out.2.1 rfl ?_; intro w1 h1 o1; have H1 := Lib.hid h1; have O1 := Lib.hid o1; clear h1 o1))
    exact style_end rfl (W.heap.size + 1 + 1) rfl _ HL.out H1.out rfl ⟨rfl, H.out.2.2.trans (O1.out.below (by simp; omega) H.out.2.2.size)⟩
end Go.Proofs.Ytjhmdflagkenbaa
