import Derived.Test.YtmkmealgoafgdaaStbIns
/- slices.symMergeCmpFunc at int. -/
namespace Go.Proofs.Ytmkmealgoafgdaa
open Go Go.RowKit Go.Sort
set_option linter.unusedVariables false
set_option linter.unusedSimpArgs false
set_option maxHeartbeats 8000000
set_option maxRecDepth 100000
variable {K : World → Prop} {B g c : Nat} {key : Int → Int}

def Vals (n a b : Nat) (d : Array Int) : Prop := ∀ t, a ≤ t → t < b → 0 ≤ d[t]! ∧ d[t]! < (n : Int)
def SymPost (K : World → Prop) (B g c : Nat) (key : Int → Int) (a b : Nat) (d : Array Int) (e : Ending) (w' : World) : Prop :=
  e = .returned (.tuple #[]) ∧ ∃ d', St K B g c d' w' ∧ d'.size = d.size ∧ Merged key a b d d'
/-- The first part is one place. -/
theorem sym_left (hK : Keep g K) (a b n : Nat) (d : Array Int) (bx : Value) (hC : Cmp K key n bx) (w : World) (h : St K B g c d w) (hab : a + 1 < b) (hb : b ≤ d.size) (hd : d.size < 4611686018427387904)
    (hv : Vals n a b d) (hh : Halves key a (a + 1) b d) :
    Calls Try.prog 25 #[.slice (some ⟨g, 0, none⟩) d.size c, .int .i64 a, .int .i64 ((a : Int) + 1), .int .i64 b, (.func (.func 16) #[] #[bx])] w (SymPost K B g c key a b d) := by
  have HK := Lib.hid hK
  have HC := Lib.hid hC
  have H0 := Lib.hid h
  have HV := Lib.hid hv
  have HH := Lib.hid hh
  clear hK h hC hv hh
  go_enter Try.func25, Try.ntmps25
  go_wp2_with fail
  go_loopw [10, 11] (fun vi vj wr => ∃ (i j : Nat), vi = .int .i64 i ∧ vj = .int .i64 j ∧ a + 1 ≤ i ∧ i ≤ j ∧ j ≤ b ∧ Hid (St K B g c d wr) ∧ Hid (∀ t, a + 1 ≤ t → t < i → ltK key d[t]! d[a]! = true) ∧ Hid (∀ t, j ≤ t → t < b → ltK key d[t]! d[a]! = false)) (fun vi vj _ => (intOf vj).toNat - (intOf vi).toNat)
  case atStart => exact ⟨a + 1, b, by go_num, by go_num, by omega, by omega, by omega, H0, Lib.hid (fun t h1 h2 => by omega), Lib.hid (fun t h1 h2 => by omega)⟩
  case round =>
    obtain ⟨i, j, rfl, rfl, hi, hij, hjb, S, LO, UP⟩ := hrel
    by_cases hlt : i < j
    · have hltz : (i : Int) < j := by omega
      obtain ⟨h, hh⟩ : ∃ h : Nat, ((i : Int) + (j : Int)) / 2 = (h : Int) := ⟨(i + j) / 2, by omega⟩
      have hih : i ≤ h := by omega
      have hhj : h < j := by omega
      obtain ⟨x, hx⟩ : ∃ x, x = d[h]! := ⟨_, rfl⟩
      obtain ⟨y, hy⟩ : ∃ y, y = d[a]! := ⟨_, rfl⟩
      have hyx : y < x := by rw [hx, hy]; exact HH.out.x a h (Nat.le_refl _) (by omega) (by omega) (by omega)
      have vx : 0 ≤ x ∧ x < (n : Int) := by rw [hx]; exact HV.out h (by omega) (by omega)
      have vy : 0 ≤ y ∧ y < (n : Int) := by rw [hy]; exact HV.out a (by omega) (by omega)
      have cx : ∀ q, (wr.drewN q).cell? ⟨g, h, none⟩ = some (.int .i64 x) := fun q => by rw [hx]; exact (S.out.drewN HK.out q).cell (by omega)
      have cy : ∀ q, (wr.drewN q).cell? ⟨g, a, none⟩ = some (.int .i64 y) := fun q => by rw [hy]; exact (S.out.drewN HK.out q).cell (by omega)
      have hc : ∀ q, _ := fun q => HC.out (wr.drewN q) x y (HK.out.drewN _ q S.out.keep) vx.1 vx.2 vy.1 vy.2
      have HL := Lib.hid (ltK_back (key := key) hyx)
      have HX := Lib.hid hx
      have HY := Lib.hid hy
      clear hx hy vx vy hyx
      go_wp2_with fail
      try rw [hh]
      clear hh
      cases hl : decide (cmpZ (key x) (key y) < 0) with
      | true =>
        have hlz : cmpZ (key x) (key y) < 0 := of_decide_eq_true hl
        go_quiet (first | (refine Calls.quiet_of (hc _)))
        have S1 := Lib.hid (S.out.drewN HK.out nq)
        have LO1 := Lib.hid (srchL_lo HH.out.r (show h < b by omega) (show ltK key d[h]! d[a]! = true by rw [← HX.out, ← HY.out, HL.out]; exact hl))
        clear cx cy hc S LO
        generalize wr.drewN nq = w1 at S1 ⊢
        go_wp2_with fail
        go_roundw
        case rel => exact ⟨h + 1, j, by go_num, rfl, by omega, by omega, hjb, S1, Lib.hid fun t h1 h2 => LO1.out t h1 (by omega), UP⟩
        case measure => simp [intOf] <;> omega
      | false =>
        have hlz : ¬ cmpZ (key x) (key y) < 0 := of_decide_eq_false hl
        go_quiet (first | (refine Calls.quiet_of (hc _)))
        have S1 := Lib.hid (S.out.drewN HK.out nq)
        have UP1 := Lib.hid (srchL_hi HH.out.r (show a + 1 ≤ h by omega) (show ltK key d[h]! d[a]! = false by rw [← HX.out, ← HY.out, HL.out]; exact hl))
        clear cx cy hc S UP
        generalize wr.drewN nq = w1 at S1 ⊢
        go_wp2_with fail
        go_roundw
        case rel => exact ⟨i, h, rfl, rfl, hi, by omega, by omega, S1, LO, UP1⟩
        case measure => simp [intOf] <;> omega
    · obtain rfl : i = j := by omega
      obtain ⟨ip, rfl⟩ : ∃ p, i = p + 1 := ⟨i - 1, by omega⟩
      go_wp2_with fail
      go_loopw [13] (fun vk wr2 => ∃ (k : Nat) (dk : Array Int), vk = .int .i64 k ∧ a ≤ k ∧ k ≤ ip ∧ dk.size = d.size ∧ Hid (St K B g c dk wr2) ∧ Hid (RotL a b k d dk)) (fun vk _ => ip - (intOf vk).toNat)
      case atStart => exact ⟨a, d, by go_num, by omega, by omega, rfl, S, Lib.hid (rotL_start a b d)⟩
      case round =>
        clear S
        obtain ⟨k, dk, rfl, hak, hki, hsk, S, R⟩ := hrel
        by_cases hlt : k < ip
        · have hltz : (k : Int) < (ip : Int) := by omega
          obtain ⟨x, hx⟩ : ∃ x, x = dk[k]! := ⟨_, rfl⟩
          obtain ⟨y, hy⟩ : ∃ y, y = dk[k + 1]! := ⟨_, rfl⟩
          have cx : wr.cell? ⟨g, k, none⟩ = some (.int .i64 x) := by rw [hx]; exact S.out.cell (by omega)
          have cy : wr.cell? ⟨g, k + 1, none⟩ = some (.int .i64 y) := by rw [hy]; exact S.out.cell (by omega)
          have fx := S.out.frozen k
          have fy := S.out.frozen (k + 1)
          have HX := Lib.hid hx
          have HY := Lib.hid hy
          clear hx hy
          go_wp2_with fail
          go_region
          all_goals go_wp2
          go_roundw
          case rel =>
            have s1 := (S.out.swap HK.out (j := k) (k := k + 1) (by omega) (by omega)).drew1 HK.out
            rw [← HX.out, ← HY.out] at s1
            exact ⟨k + 1, _, by go_num, by omega, by omega, by rw [swp_size]; exact hsk, s1, rotL_step R.out hak (by omega) hb⟩
          case measure => simp [intOf] <;> omega
        · have hq : k = ip := by omega
          subst hq
          have hkz : ¬ (k : Int) < (k : Int) := by omega
          have M : Hid (SymPost K B g c key a b d (.returned (.tuple #[])) wr) := Lib.hid ⟨rfl, dk, S.out, hsk, rotL_end R.out rfl HH.out hjb hi LO.out UP.out⟩
          clear S R LO UP
          go_wp2_with fail
          go_end0
          exact M.out
end Go.Proofs.Ytmkmealgoafgdaa
