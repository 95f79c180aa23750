import Derived.Test.YtmkmealgoafgdaaStbAll
import Derived.Test.YtmkmealgoafgdaaOrdNum
import Derived.OwnWalk
import Derived.Outline
import Derived.Deep.Cut
import Derived.Deep.CutBlock
import Derived.Deep.DeepCutAuto
import Derived.Deep.CutRange
/- coll.Order. -/
namespace Go.Proofs.Ytmkmealgoafgdaa
open Go Go.RowKit Go.Sort
set_option linter.unusedVariables false
set_option linter.unusedSimpArgs false
set_option maxHeartbeats 8000000
set_option maxRecDepth 100000

theorem intc_info : (Try.prog.info? 3).map (fun i => (i.zero, i.size, i.bytes)) = some (some (.int .i64 0), 1, 8) := by kernel_rfl
theorem nan_any (x : Int) (w : World) : Calls Try.prog 22 #[.int .i64 x] w fun e w' => e = .returned (.bool false) ∧ w' = w := by
  go_enter Try.func22, Try.ntmps22
  go_wp2
  go_ret
  exact ⟨rfl, rfl⟩
theorem compare_any (x y : Int) (w : World) : Calls Try.prog 17 #[.int .i64 x, .int .i64 y] w fun e w' => e = .returned (.int .i64 (cmpZ x y)) ∧ w' = w := by
  have HN := fun x w => nan_any x w
  have main : ∀ v : Int, ((x < y ∧ v = -1) ∨ (y < x ∧ v = 1) ∨ (x = y ∧ v = 0)) → Calls Try.prog 17 #[.int .i64 x, .int .i64 y] w fun e w' => e = .returned (.int .i64 v) ∧ w' = w := by
    intro v hv
    rcases hv with ⟨h, rfl⟩ | ⟨h, rfl⟩ | ⟨rfl, rfl⟩
    · go_enter Try.func17, Try.ntmps17
      go_wp2_with fail
      refine (HN _ _).mono ?_
      rintro _ w1 ⟨rfl, rfl⟩
      go_wp2_with fail
      refine (HN _ _).mono ?_
      rintro _ w2 ⟨rfl, rfl⟩
      go_wp2_with fail
      go_ret
      exact ⟨rfl, rfl⟩
    · have h2 : ¬ x < y := by omega
      go_enter Try.func17, Try.ntmps17
      go_wp2_with fail
      refine (HN _ _).mono ?_
      rintro _ w1 ⟨rfl, rfl⟩
      go_wp2_with fail
      refine (HN _ _).mono ?_
      rintro _ w2 ⟨rfl, rfl⟩
      go_wp2_with fail
      go_ret
      exact ⟨rfl, rfl⟩
    · go_enter Try.func17, Try.ntmps17
      go_wp2_with fail
      refine (HN _ _).mono ?_
      rintro _ w1 ⟨rfl, rfl⟩
      go_wp2_with fail
      refine (HN _ _).mono ?_
      rintro _ w2 ⟨rfl, rfl⟩
      go_wp2_with fail
      go_ret
      exact ⟨rfl, rfl⟩
  refine main (cmpZ x y) ?_
  unfold cmpZ
  rcases Int.lt_trichotomy x y with h | h | h
  · exact .inl ⟨h, by rw [if_pos h]⟩
  · exact .inr (.inr ⟨h, by rw [if_neg (by omega), if_neg (by omega)]⟩)
  · exact .inr (.inl ⟨h, by rw [if_neg (by omega), if_pos h]⟩)
/-- What stands while places are sorted. -/
structure OrdSt (W : World) (A : Option Addr) (n c : Nat) (w : World) : Prop where
  low : Below W.heap.size W w
  var : Whole w W.heap.size 30 [.slice A n c]
theorem ordKeep (W : World) (A : Option Addr) (n c g : Nat) (hg : W.heap.size < g) : Keep g (OrdSt W A n c) where
  drew w h := ⟨Below.drewN' h.low 1, (Only.drewN (Only.refl [] w) 1).whole h.var (by simp)⟩
  set w k v h := by
    have ho : Only [g] w (w.setCell ⟨g, k, none⟩ v) := (Only.refl [g] w).setCell ⟨g, k, none⟩ (.inl (by simp)) v
    exact ⟨h.low.trans (ho.below (B := W.heap.size) (by intro x hx; simp at hx; omega) h.low.size), ho.whole h.var (by simp; omega)⟩
theorem ordCmp (W : World) (L : List Int) (A : Option Addr) (c : Nat) (hR : Row W W.heap.size A (L.map (Value.int .i64))) (hL : L.length ≤ 4611686018427387904) :
    Cmp (OrdSt W A L.length c) (keyL L) L.length (.pointer (some ⟨W.heap.size, 0, none⟩)) := by
  intro w x y hw x0 xn y0 yn
  obtain ⟨i, rfl⟩ : ∃ i : Nat, x = (i : Int) := ⟨x.toNat, by omega⟩
  obtain ⟨j, rfl⟩ : ∃ j : Nat, y = (j : Int) := ⟨y.toNat, by omega⟩
  have hi : i < L.length := by omega
  have hj : j < L.length := by omega
  have R := hR.below hw.low
  obtain ⟨ad, rfl, hb, ci⟩ := R.get (k := i) (by simpa using hi)
  obtain ⟨ad2, e2, -, cj⟩ := R.get (k := j) (by simpa using hj)
  injection e2 with e2
  subst e2
  have ki : keyL L (i : Int) = L[i] := by unfold keyL; simp [hi]
  have kj : keyL L (j : Int) = L[j] := by unfold keyL; simp [hj]
  rw [List.getElem_map] at ci cj
  rw [ki, kj]
  generalize L[i] = X at *
  generalize L[j] = Y at *
  have c0 : ∀ q, (w.drewN q).cell? ⟨W.heap.size, 0, none⟩ = some (.slice (some ad) L.length c) := fun q => hw.var.cell 0
  have c1 : ∀ q, (w.drewN q).cell? (ad.add i) = some (.int .i64 X) := fun q => ci
  have c2 : ∀ q, (w.drewN q).cell? (ad.add j) = some (.int .i64 Y) := fun q => cj
  have HC := fun w => compare_any X Y w
  clear ci cj R hw hR
  go_enter Try.func16, Try.ntmps16
  go_wp2_with fail
  go_quiet (first | (refine Calls.quiet_of_same (HC _)))
  go_wp2
  go_ret
  exact ⟨rfl, nq, rfl⟩

def OrdPost (L : List Int) (W : World) (e : Ending) (w' : World) : Prop :=
  ∃ g xs, e = .returned (.slice (some ⟨g, 0, none⟩) L.length L.length) ∧ Ord L xs ∧ w'.ownsRow W.heap.size 3 1 (.slice (some ⟨g, 0, none⟩) L.length L.length) L.length (xs.map (Value.int .i64)) ∧ Below W.heap.size W w'
theorem St.put {K : World → Prop} {B g c : Nat} {d : Array Int} {w : World} (hK : Keep g K) (h : St K B g c d w) {j : Nat} (x : Int) :
    St K B g c (d.setIfInBounds j x) (w.setCell ⟨g, j, none⟩ (.int .i64 x)) := by
  refine ⟨?_, hK.set _ _ _ h.keep⟩
  have h1 := (h.own.stored j (.int .i64 x)).1
  have e : (d.setIfInBounds j x).toList.map (Value.int .i64) = (d.toList.map (Value.int .i64)).set j (.int .i64 x) := by simp [List.map_set]
  rw [e, Array.size_setIfInBounds]
  exact h1
theorem sortStable_at {K : World → Prop} {B g c D : Nat} {key : Int → Int} (hK : Hid (Keep g K)) (d : Array Int) (bx : Value) (hD : D = d.size) (hC : Hid (Cmp K key D bx)) (w : World) (h : Hid (St K B g c d w)) (hd : D ≤ 1048576) (hid : Hid (∀ t, t < D → d[t]! = (t : Int))) :
    Calls Try.prog 15 #[.slice (some ⟨g, 0, none⟩) D c, (.func (.func 16) #[] #[bx])] w (SymPost K B g c key 0 d.size d) := by
  subst hD
  by_cases h0 : 0 < d.size
  · exact sortStable_any hK.out d bx hC.out w h.out (by omega) h0 hid.out
  · have e : d.size = 0 := by omega
    have R := sortStable_none (some ⟨g, 0, none⟩) c (.func (.func 16) #[] #[bx]) w
    rw [e]
    exact R.mono fun e w' ⟨h1, h2⟩ => ⟨h1, d, h2 ▸ h.out, rfl, merged_none fun p q _ _ h3 => by omega⟩
theorem order_any (L : List Int) (A : Option Addr) (c : Nat) (W : World) (hR : Row W W.heap.size A (L.map (Value.int .i64))) (hL : L.length ≤ 1048576) :
    Calls Try.prog 11 #[.slice A L.length c] W (OrdPost L W) := by
  have HC := Lib.hid (ordCmp W L A c hR (by omega))
  have HK := Lib.hid (ordKeep W A L.length c (W.heap.size + 1) (by omega))
  obtain ⟨i0, hi, hz0, hz1, hz2⟩ := info_parts intc_info
  have V0 : Hid (Whole (W.alloc (.cells #[.slice A L.length c] 30)) W.heap.size 30 [.slice A L.length c]) := Lib.hid (Whole.mk W 30 #[.slice A L.length c])
  have B0 : Hid (Below W.heap.size W (W.alloc (.cells #[.slice A L.length c] 30))) := Lib.hid ((Below.refl W.heap.size W).alloc (Nat.le_refl _) _)
  have hs0 : (W.alloc (.cells #[.slice A L.length c] 30)).heap.size = W.heap.size + 1 := by simp
  clear hR
  go_enter Try.func11, Try.ntmps11
  go_upto_region 1 with fail
  generalize W.alloc _ = w1 at *
  have HS := Lib.hid hs0
  have c0 := V0.out.cell 0
  clear hs0
  obtain ⟨n, hn⟩ : ∃ n, L.length = n := ⟨_, rfl⟩
  have HN := Lib.hid hn
  rw [hn] at c0 ⊢
  have hnL : n ≤ 1048576 := by omega
  clear hn hL
  go_upto_region 2 with (at_make; refine wpList_make_full _ rfl _ _ 30 rfl W.heap.size 3 i0 (.int .i64 0) 1 Try.underlying30 hi hz0 hz1 .i64 .i64 _ _ n rfl rfl rfl rfl (by rw [hz2]; omega) (by unfold maxLen; omega) B0.out.size ?_; intro w2 r1 r2; have O2 := Lib.hid r1; have G2 := Lib.hid (Only.of_grown r2); clear r1 r2)
  rw [HS.out] at O2 ⊢
  rw [HN.out] at HC HK
  have S2 : Hid (St (OrdSt W A n c) W.heap.size (W.heap.size + 1) n (Array.replicate n 0) w2) := Lib.hid (by
    have O3 := O2.out
    have e : (madeCells (Value.int .i64 0).cells (n * 1)).toList = (Array.replicate n (0 : Int)).toList.map (Value.int .i64) := by
      rw [Nat.mul_one]
      refine (toList_madeCells_one _ _).trans ?_
      simp
    rw [e] at O3
    refine ⟨?_, ⟨B0.out.trans (G2.out.below (B := W.heap.size) (by simp) B0.out.size), ?_⟩⟩
    · rw [Array.size_replicate]; exact O3
    · have := G2.out.whole V0.out (by simp)
      rwa [HN.out] at this)
  clear O2 G2 V0 B0 HS c0 hi hz0 hz1 hz2
  go_upto_region 3 with fail
  go_loopw [10] (fun v10 wr => ∃ (k : Nat) (d : Array Int), v10 = .int .i64 k ∧ k ≤ n ∧ d.size = n ∧ Hid (St (OrdSt W A n c) W.heap.size (W.heap.size + 1) n d wr) ∧ Hid (∀ t, t < k → d[t]! = (t : Int))) (fun v10 _ => n - (intOf v10).toNat)
  case atStart => exact ⟨0, _, rfl, Nat.zero_le _, by simp, S2, Lib.hid fun t h => absurd h (by omega)⟩
  case round =>
    clear S2
    obtain ⟨k, d, rfl, hk, hs, S, E⟩ := hrel
    by_cases hlt : k < n
    · have hltz : (k : Int) < n := by omega
      have cx := S.out.cell (t := k) (by omega)
      have fx := S.out.frozen k
      go_wp2_with fail
      try (go_region; all_goals go_wp2)
      go_roundw
      case rel =>
        have e1 : ∀ t, t < k + 1 → (d.setIfInBounds k (k : Int))[t]! = (t : Int) := fun t ht => by
          by_cases c1 : t = k
          · subst c1; exact getElem!_set_same _ _ _ (by omega)
          · rw [getElem!_set_other _ _ _ _ c1]; exact E.out t (by omega)
        first
          | exact ⟨k + 1, _, by go_num, by omega, by simp [hs], Lib.hid (S.out.put HK.out (k : Int)), e1⟩
          | exact ⟨k + 1, _, by go_num, by omega, by simp [hs], Lib.hid ((S.out.put HK.out (k : Int)).drew1 HK.out), e1⟩
      case measure => simp [intOf] <;> omega
    · obtain rfl : k = n := by omega
      go_wp2_with fail
      refine (sortStable_at HK d (.pointer (some ⟨W.heap.size, 0, none⟩)) hs.symm HC wr S hnL E).mono ?_
      rintro _ w3 ⟨rfl, d', S', hs', M⟩
      have R : Hid (OrdPost L W (.returned (.slice (some ⟨W.heap.size + 1, 0, none⟩) k k)) w3) := Lib.hid (by
        have hL := HN.out
        have O := S'.own
        rw [hs', hs] at O
        refine ⟨W.heap.size + 1, d'.toList, by rw [hL], ord_of (by rw [hs]; exact E.out) (by omega) hs' M, ?_, S'.keep.low⟩
        rw [hL]; exact O)
      clear S' M S E
      go_wp2_with fail
      go_ret
      exact R.out
end Go.Proofs.Ytmkmealgoafgdaa
