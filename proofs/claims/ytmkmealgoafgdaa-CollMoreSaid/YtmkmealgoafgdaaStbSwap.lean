import Derived.Test.YtmkmealgoafgdaaProg
import Derived.Test.YtmkmealgoafgdaaStbMem
import Derived.WalkKit
import Derived.WalkLawsBesides
import Derived.WalkSpells
import Derived.BigGuard
import Derived.BigCall
import Derived.CellFam
import Derived.Deep.Draws
import Derived.Deep.QuietTactic
import Derived.BigQuiet
/- slices.swapRangeCmpFunc at int. -/
namespace Go.Proofs.Ytmkmealgoafgdaa
open Go Go.RowKit Go.Sort
set_option linter.unusedVariables false
set_option linter.unusedSimpArgs false
set_option maxHeartbeats 4000000
set_option maxRecDepth 100000
variable {K : World → Prop} {B g c : Nat}

def SwapPost (K : World → Prop) (B g c a b n lo hi : Nat) (d : Array Int) (e : Ending) (w' : World) : Prop :=
  e = .returned (.tuple #[]) ∧ ∃ d', St K B g c d' w' ∧ d'.size = d.size ∧ PermIn lo hi d d' ∧ ∀ t, d'[t]! = swapF a b n (fun x => d[x]!) t
theorem swapRange_any (hK : Keep g K) (a b n lo hi : Nat) (d : Array Int) (F : Value) (w : World) (h : St K B g c d w) (hab : a + n ≤ b) (hb : b + n ≤ hi) (hlo : lo ≤ a) (hsz : hi ≤ d.size) (hd : d.size < 4611686018427387904) :
    Calls Try.prog 27 #[.slice (some ⟨g, 0, none⟩) d.size c, .int .i64 a, .int .i64 b, .int .i64 n, F] w (SwapPost K B g c a b n lo hi d) := by
  have HK := Lib.hid hK
  have H0 := Lib.hid h
  clear hK h
  go_enter Try.func27, Try.ntmps27
  go_wp2
  go_loopw [10] (fun vi wr => ∃ (k : Nat) (dk : Array Int), vi = .int .i64 k ∧ k ≤ n ∧ dk.size = d.size ∧ Hid (St K B g c dk wr) ∧ Hid (PermIn lo hi d dk) ∧ Hid (∀ t, dk[t]! = swapF a b k (fun x => d[x]!) t)) (fun vi _ => n - (intOf vi).toNat)
  case atStart => exact ⟨0, d, by go_num, by omega, rfl, H0, Lib.hid (permIn_refl _ _ _), Lib.hid fun t => (swap_none _ _ _ _).symm⟩
  case round =>
    obtain ⟨k, dk, rfl, hkn, hs, S, P, E⟩ := hrel
    by_cases hlt : k < n
    · obtain ⟨x, hx⟩ : ∃ x, x = dk[a + k]! := ⟨_, rfl⟩
      obtain ⟨y, hy⟩ : ∃ y, y = dk[b + k]! := ⟨_, rfl⟩
      have cx : wr.cell? ⟨g, a + k, none⟩ = some (.int .i64 x) := by rw [hx]; exact S.out.cell (by omega)
      have cy : wr.cell? ⟨g, b + k, none⟩ = some (.int .i64 y) := by rw [hy]; exact S.out.cell (by omega)
      have fx := S.out.frozen (a + k)
      have fy := S.out.frozen (b + k)
      have HX := Lib.hid hx
      have HY := Lib.hid hy
      clear hx hy
      have hltz : (k : Int) < n := by omega
      go_wp2
      go_region
      all_goals go_wp2
      go_roundw
      case rel =>
        have s1 := (S.out.swap HK.out (j := a + k) (k := b + k) (by omega) (by omega)).drew1 HK.out
        rw [← HX.out, ← HY.out] at s1
        exact ⟨k + 1, _, by go_num, by omega, by rw [swp_size]; exact hs, s1, permIn_trans _ _ _ _ _ P.out (swp_permIn dk lo hi (a + k) (b + k) (by omega) (by omega) (by omega) (by omega) (by omega)),
          fun t => swap_step hlt hab (by omega) hs E.out t⟩
      case measure => simp [intOf]; omega
    · have hq : k = n := by omega
      go_wp2
      go_end0
      exact ⟨rfl, dk, S.out, hs, P.out, fun t => by rw [← hq]; exact E.out t⟩
end Go.Proofs.Ytmkmealgoafgdaa
