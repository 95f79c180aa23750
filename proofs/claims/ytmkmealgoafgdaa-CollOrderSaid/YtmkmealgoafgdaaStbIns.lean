import Derived.Test.YtmkmealgoafgdaaStbRot
/- slices.insertionSortCmpFunc at int, over places that stand in order. -/
namespace Go.Proofs.Ytmkmealgoafgdaa
open Go Go.RowKit Go.Sort
set_option linter.unusedVariables false
set_option linter.unusedSimpArgs false
set_option maxHeartbeats 4000000
set_option maxRecDepth 100000
variable {K : World → Prop} {B g c : Nat} {key : Int → Int}

/-- What is asked of the comparison of places: it compares their keys. -/
def Cmp (K : World → Prop) (key : Int → Int) (n : Nat) (bx : Value) : Prop := ∀ w x y, K w → 0 ≤ x → x < (n : Int) → 0 ≤ y → y < (n : Int) →
  Calls Try.prog 16 #[.int .i64 x, .int .i64 y, bx] w fun e w' => e = .returned (.int .i64 (cmpZ (key x) (key y))) ∧ ∃ q, w' = w.drewN q
/-- The insertion's inner loop: the place that moves stands at j. -/
structure InsAt (key : Int → Int) (a j i b : Nat) (d dj : Array Int) : Prop where
  perm : PermIn a b d dj
  ins : Ins (ltK key) a j i dj
  me : dj[j]! = (i : Int)
  low : ∀ t, a ≤ t → t ≤ i → t ≠ j → (a : Int) ≤ dj[t]! ∧ dj[t]! < (i : Int)
  up : ∀ t, i < t → t < b → dj[t]! = (t : Int)
structure InsOut (key : Int → Int) (a i b : Nat) (d dk : Array Int) : Prop where
  perm : PermIn a b d dk
  ord : SortedIn (ltK key) a i dk
  low : ∀ t, a ≤ t → t < i → (a : Int) ≤ dk[t]! ∧ dk[t]! < (i : Int)
  up : ∀ t, i ≤ t → t < b → dk[t]! = (t : Int)
theorem InsOut.start {a b : Nat} {d : Array Int} (hd : ∀ t, a ≤ t → t < b → d[t]! = (t : Int)) (hab : a < b) : InsOut key a (a + 1) b d d :=
  ⟨permIn_refl _ _ _, fun p q h1 h2 h3 => by omega, fun t h1 h2 => by
    obtain rfl : t = a := by omega
    rw [hd t h1 (by omega)]; omega, fun t h1 h2 => hd t (by omega) h2⟩
theorem InsOut.in {a i b : Nat} {d dk : Array Int} (h : InsOut key a i b d dk) (hi : i < b) : InsAt key a i i b d dk :=
  ⟨h.perm, ⟨fun p q h1 h2 h3 h4 h5 => h.ord p q h1 h2 (by omega), fun q h1 h2 => by omega⟩, h.up i (Nat.le_refl _) hi, fun t h1 h2 h3 => h.low t h1 (by omega), fun t h1 h2 => h.up t (by omega) h2⟩
theorem InsAt.step {a j i b : Nat} {d dj : Array Int} (h : InsAt key a (j + 1) i b d dj) (hl : ltK key dj[j + 1]! dj[j]! = true) (haj : a ≤ j) (hji : j + 1 ≤ i) (hib : i < b) (hb : b ≤ dj.size) : InsAt key a j i b d (swp dj (j + 1) j) := by
  have G := swp_get dj (show j + 1 < dj.size by omega) (show j < dj.size by omega)
  refine ⟨permIn_trans _ _ _ _ _ h.perm (swp_permIn dj a b (j + 1) j (by omega) (by omega) haj (by omega) hb), h.ins.step hl haj (by omega), ?_, ?_, ?_⟩
  · rw [G, if_pos rfl]; exact h.me
  · intro t h1 h2 h3
    rw [G, if_neg h3]
    split
    · exact h.low j haj (by omega) (by omega)
    · exact h.low t h1 h2 (by omega)
  · intro t h1 h2
    rw [G, if_neg (by omega), if_neg (by omega)]; exact h.up t h1 h2
theorem InsAt.out {a j i b : Nat} {d dj : Array Int} (h : InsAt key a j i b d dj) (hs : j ≤ a ∨ ltK key dj[j]! dj[j - 1]! = false) (haj : a ≤ j) (hji : j ≤ i) : InsOut key a (i + 1) b d dj := by
  refine ⟨h.perm, h.ins.stop swo_ltK hs, fun t h1 h2 => ?_, fun t h1 h2 => h.up t (by omega) h2⟩
  by_cases c1 : t = j
  · subst c1; rw [h.me]; omega
  · have := h.low t h1 (by omega) c1; omega
/-- Two that are compared. -/
theorem InsAt.two {a j i b n : Nat} {d dj : Array Int} (h : InsAt key a (j + 1) i b d dj) (haj : a ≤ j) (hji : j + 1 ≤ i) (hib : i < b) (hb : b ≤ n) :
    0 ≤ dj[j]! ∧ dj[j]! < (n : Int) ∧ 0 ≤ dj[j + 1]! ∧ dj[j + 1]! < (n : Int) ∧ dj[j]! < dj[j + 1]! := by
  have := h.low j haj (by omega) (by omega)
  have := h.me
  omega

theorem insertion_any (hK : Keep g K) (a b n : Nat) (d : Array Int) (bx : Value) (hC : Cmp K key n bx) (w : World) (h : St K B g c d w) (hab : a < b) (hb : b ≤ d.size) (hn : d.size ≤ n) (hd : d.size < 4611686018427387904)
    (hid : ∀ t, a ≤ t → t < b → d[t]! = (t : Int)) :
    Calls Try.prog 24 #[.slice (some ⟨g, 0, none⟩) d.size c, .int .i64 a, .int .i64 b, (.func (.func 16) #[] #[bx])] w fun e w' => e = .returned (.tuple #[]) ∧ ∃ d', St K B g c d' w' ∧ d'.size = d.size ∧ Merged key a b d d' := by
  have HK := Lib.hid hK
  have HC := Lib.hid hC
  have H0 := Lib.hid h
  have HI := Lib.hid hid
  clear hK h hC hid
  go_enter Try.func24, Try.ntmps24
  go_wp2
  go_loopw [8] (fun vi wr => ∃ (i : Nat) (dk : Array Int), vi = .int .i64 i ∧ a < i ∧ i ≤ b ∧ dk.size = d.size ∧ Hid (St K B g c dk wr) ∧ Hid (InsOut key a i b d dk)) (fun vi _ => b + 1 - (intOf vi).toNat)
  case atStart => exact ⟨a + 1, d, by go_num, by omega, by omega, rfl, H0, Lib.hid (InsOut.start HI.out hab)⟩
  case round =>
    obtain ⟨i, dk, rfl, hai, hib, hsk, S, O⟩ := hrel
    by_cases hlt : i < b
    · have hltz : (i : Int) < b := by omega
      have I0 := Lib.hid (O.out.in hlt)
      clear O
      go_wp2
      go_loopw [9] (fun vj wr2 => ∃ (j : Nat) (dj : Array Int), vj = .int .i64 j ∧ a ≤ j ∧ j ≤ i ∧ dj.size = d.size ∧ Hid (St K B g c dj wr2) ∧ Hid (InsAt key a j i b d dj)) (fun vj _ => (intOf vj).toNat)
      case atStart => exact ⟨i, dk, rfl, by omega, by omega, hsk, S, I0⟩
      case round =>
        clear S I0 hsk dk
        obtain ⟨j, dj, rfl, haj, hji, hsj, S, I⟩ := hrel
        by_cases hja : a < j
        · obtain ⟨jp, rfl⟩ : ∃ q, j = q + 1 := ⟨j - 1, by omega⟩
          obtain ⟨x, hx⟩ : ∃ x, x = dj[jp + 1]! := ⟨_, rfl⟩
          obtain ⟨y, hy⟩ : ∃ y, y = dj[jp]! := ⟨_, rfl⟩
          have T := I.out.two (n := n) (by omega) hji hlt (by omega)
          rw [← hx, ← hy] at T
          obtain ⟨y0, yn, x0, xn, hyx⟩ := T
          have cx : ∀ q, (wr.drewN q).cell? ⟨g, jp + 1, none⟩ = some (.int .i64 x) := fun q => by rw [hx]; exact (S.out.drewN HK.out q).cell (by omega)
          have cy : ∀ q, (wr.drewN q).cell? ⟨g, jp, none⟩ = some (.int .i64 y) := fun q => by rw [hy]; exact (S.out.drewN HK.out q).cell (by omega)
          have hc : ∀ q, _ := fun q => HC.out (wr.drewN q) x y (HK.out.drewN _ q S.out.keep) x0 xn y0 yn
          have HL := Lib.hid (ltK_back (key := key) hyx)
          have HX := Lib.hid hx
          have HY := Lib.hid hy
          have hjaz : (a : Int) < (jp : Int) + 1 := by omega
          clear hx hy
          cases hl : decide (cmpZ (key x) (key y) < 0) with
          | true =>
            have hlz : cmpZ (key x) (key y) < 0 := of_decide_eq_true hl
            go_wp2_with fail
            go_quiet (first | (refine Calls.quiet_of (hc _)))
            have S1 := Lib.hid (S.out.drewN HK.out nq)
            have cx1 := cx nq
            have cy1 := cy nq
            have fx := S1.out.frozen (jp + 1)
            have fy := S1.out.frozen jp
            clear cx cy hc S
            generalize wr.drewN nq = w1 at S1 cx1 cy1 fx fy ⊢
            go_wp2_with fail
            go_region
            all_goals go_wp2
            go_roundw
            case rel =>
              have s1 := (S1.out.swap HK.out (j := jp + 1) (k := jp) (by omega) (by omega)).drew1 HK.out
              rw [← HX.out, ← HY.out] at s1
              exact ⟨jp, _, by go_num, by omega, by omega, by rw [swp_size]; exact hsj, s1, I.out.step (by rw [← HX.out, ← HY.out, HL.out]; exact hl) (by omega) hji hlt (by omega)⟩
            case measure => simp [intOf] <;> omega
          | false =>
            have hlz : ¬ cmpZ (key x) (key y) < 0 := of_decide_eq_false hl
            go_wp2_with fail
            go_quiet (first | (refine Calls.quiet_of (hc _)))
            have S1 := Lib.hid (S.out.drewN HK.out nq)
            have O1 := Lib.hid (I.out.out (Or.inr (by rw [Nat.add_sub_cancel, ← HX.out, ← HY.out, HL.out]; exact hl)) (by omega) hji)
            clear cx cy hc S I
            generalize wr.drewN nq = w1 at S1 ⊢
            go_wp2_with fail
            go_roundw
            case rel => exact ⟨i + 1, dj, by go_num, by omega, by omega, hsj, S1, O1⟩
            case measure => simp [intOf] <;> omega
        · have hjaz : ¬ (j : Int) > a := by omega
          obtain rfl : j = a := by omega
          have O1 := Lib.hid (I.out.out (Or.inl (Nat.le_refl _)) (by omega) hji)
          go_wp2_with fail
          go_quiet (fail)
          have S1 := Lib.hid (S.out.drewN HK.out nq)
          clear S I
          generalize wr.drewN nq = w1 at S1 ⊢
          go_wp2_with fail
          go_roundw
          case rel => exact ⟨i + 1, dj, by go_num, by omega, by omega, hsj, S1, O1⟩
          case measure => simp [intOf] <;> omega
    · obtain rfl : i = b := by omega
      go_wp2
      go_end0
      exact ⟨rfl, dk, S.out, hsk, O.out.perm, O.out.ord⟩
end Go.Proofs.Ytmkmealgoafgdaa
