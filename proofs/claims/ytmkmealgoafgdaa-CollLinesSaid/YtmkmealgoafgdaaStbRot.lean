import Derived.Test.YtmkmealgoafgdaaStbSwap
/- slices.rotateCmpFunc at int. -/
namespace Go.Proofs.Ytmkmealgoafgdaa
open Go Go.RowKit Go.Sort
set_option linter.unusedVariables false
set_option linter.unusedSimpArgs false
set_option maxHeartbeats 4000000
set_option maxRecDepth 100000
variable {K : World → Prop} {B g c : Nat}

theorem swapRange_at {X Y Z L : Int} {D : Nat} (hK : Hid (Keep g K)) (a b n lo hi : Nat) (d : Array Int) (F : Value) (w : World) (h : Hid (St K B g c d w)) (hL : L = D) (hD : D = d.size) (hX : X = a) (hY : Y = b) (hZ : Z = n) (hab : a + n ≤ b) (hb : b + n ≤ hi) (hlo : lo ≤ a) (hsz : hi ≤ d.size) (hd : d.size < 4611686018427387904) :
    Calls Try.prog 27 #[.slice (some ⟨g, 0, none⟩) D c, .int .i64 X, .int .i64 Y, .int .i64 Z, F] w (SwapPost K B g c a b n lo hi d) := by
  subst hD hX hY hZ; exact swapRange_any hK.out a b n lo hi d F w h.out hab hb hlo hsz hd
def RotPost (K : World → Prop) (B g c a m b : Nat) (d : Array Int) (e : Ending) (w' : World) : Prop :=
  e = .returned (.tuple #[]) ∧ ∃ d', St K B g c d' w' ∧ d'.size = d.size ∧ PermIn a b d d' ∧ ∀ t, d'[t]! = rotF a m b (fun x => d[x]!) t
theorem rotate_any (hK : Keep g K) (a m b : Nat) (d : Array Int) (F : Value) (w : World) (h : St K B g c d w) (ham : a < m) (hmb : m < b) (hb : b ≤ d.size) (hd : d.size < 4611686018427387904) :
    Calls Try.prog 26 #[.slice (some ⟨g, 0, none⟩) d.size c, .int .i64 a, .int .i64 m, .int .i64 b, F] w (RotPost K B g c a m b d) := by
  have HK := Lib.hid hK
  have H0 := Lib.hid h
  clear hK h
  go_enter Try.func26, Try.ntmps26
  go_wp2
  go_loopw [10, 11] (fun vi vj wr => ∃ (i j : Nat) (dk : Array Int), vi = .int .i64 i ∧ vj = .int .i64 j ∧ 0 < i ∧ 0 < j ∧ i ≤ m - a ∧ j ≤ b - m ∧ dk.size = d.size ∧ Hid (St K B g c dk wr) ∧ Hid (PermIn a b d dk) ∧ Hid (∀ t, rotF (m - i) m (m + j) (fun x => dk[x]!) t = rotF a m b (fun x => d[x]!) t)) (fun vi vj _ => (intOf vi).toNat + (intOf vj).toNat)
  case atStart => exact ⟨m - a, b - m, d, by go_num, by go_num, by omega, by omega, by omega, by omega, rfl, H0, Lib.hid (permIn_refl _ _ _), Lib.hid fun t => by rw [show m - (m - a) = a by omega, show m + (b - m) = b by omega]⟩
  case round =>
    obtain ⟨i, j, dk, rfl, rfl, hi0, hj0, hi, hj, hs, S, P, E⟩ := hrel
    by_cases hne : i = j
    · subst hne
      go_wp2_with fail
      refine (swapRange_at HK (m - i) m i a b dk F wr S rfl hs.symm (by omega) (by omega) (by omega) (by omega) (by omega) (by omega) (by omega) (by omega)).mono ?_
      rintro e w1 ⟨rfl, d1, S1, hs1, P1, E1⟩
      have R : Hid (RotPost K B g c a m b d (.returned (.tuple #[])) w1) := Lib.hid ⟨rfl, d1, S1, hs1.trans hs, permIn_trans _ _ _ _ _ P.out P1, fun t => by
        rw [E1, ← E.out]; exact rot_even (by omega) _ t⟩
      clear S1 hs1 P1 E1 S P E
      go_wp2
      go_end0
      exact R.out
    · have hnez : (i : Int) ≠ j := by omega
      by_cases hgt : j < i
      · have hgtz : (j : Int) < i := by omega
        go_wp2_with fail
        refine (swapRange_at HK (m - i) m j a b dk F wr S rfl hs.symm (by omega) (by omega) (by omega) (by omega) (by omega) (by omega) (by omega) (by omega)).mono ?_
        rintro e w1 ⟨rfl, d1, S1, hs1, P1, E1⟩
        have S1 := Lib.hid S1
        have P1 := Lib.hid (permIn_trans _ _ _ _ _ P.out P1)
        have E1 := Lib.hid (fun t => (rot_more hgt (by omega) _ _ E1 t).trans (E.out t))
        clear S P E
        go_wp2
        go_roundw
        case rel => exact ⟨i - j, j, d1, by congr 1; omega, rfl, by omega, by omega, by omega, by omega, hs1.trans hs, S1, P1, E1⟩
        case measure => simp [intOf]; omega
      · have hgtz : ¬ (j : Int) < i := by omega
        go_wp2_with fail
        refine (swapRange_at HK (m - i) (m + j - i) i a b dk F wr S rfl hs.symm (by omega) (by omega) (by omega) (by omega) (by omega) (by omega) (by omega) (by omega)).mono ?_
        rintro e w1 ⟨rfl, d1, S1, hs1, P1, E1⟩
        have S1 := Lib.hid S1
        have P1 := Lib.hid (permIn_trans _ _ _ _ _ P.out P1)
        have E1 := Lib.hid (fun t => (rot_less (show i < j by omega) (by omega) _ _ E1 t).trans (E.out t))
        clear S P E
        go_wp2
        go_roundw
        case rel => exact ⟨i, j - i, d1, rfl, by congr 1; omega, by omega, by omega, by omega, by omega, hs1.trans hs, S1, P1, E1⟩
        case measure => simp [intOf]; omega
end Go.Proofs.Ytmkmealgoafgdaa
