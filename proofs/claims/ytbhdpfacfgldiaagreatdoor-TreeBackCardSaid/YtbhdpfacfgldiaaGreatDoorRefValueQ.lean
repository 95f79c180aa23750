import Derived.Test.YtbhdpfacfgldiaaGreatDoorZTQ
import Derived.Test.YtbhdpfacfgldiaaGreatDoorRefMayQ
import Derived.Test.YtbhdpfacfgldiaaGreatDoorZSQ
/- The document's answer: a Prop's declaration of a value. -/
namespace Go.Proofs.YtbhdpfacfgldiaaGreatDoor
open Go Go.RowKit
set_option linter.unusedVariables false
set_option linter.unusedSimpArgs false
set_option maxRecDepth 20000
set_option maxHeartbeats 4000000

def ValPost (p : Int) (r : Option (Int × Int × Int)) (W : World) (e : Ending) (w' : World) : Prop := (match r with
  | none => e = .returned (.tuple #[.agg #[.int .i64 0, .int .i64 0, .int .i64 0, .int .i64 0], .bool false])
  | some (w, k, n) => e = .returned (.tuple #[.agg #[.int .i64 p, .int .i64 w, .int .i64 k, .int .i64 n], .bool true])) ∧ Below W.heap.size W w'
theorem findIdx_none {ws : List (List UInt8)} {l : List UInt8} (h : ∀ j (hj : j < ws.length), (ws[j] == l) = false) : ws.findIdx? (· == l) = none := by
  rw [List.findIdx?_eq_none_iff]
  intro x hx
  obtain ⟨j, hj, rfl⟩ := List.mem_iff_getElem.1 hx
  exact h j hj
theorem findIdx_some {ws : List (List UInt8)} {l : List UInt8} {k : Nat} (hk : k < ws.length) (h : ∀ j (hj : j < k), (ws[j]'(by omega) == l) = false) (he : (ws[k] == l) = true) : ws.findIdx? (· == l) = some k := by
  rw [List.findIdx?_eq_some_iff_getElem]
  exact ⟨hk, he, fun j hj => by simp [h j hj]⟩
def NoWord (p : Int) (s : ByteArray) (k : Nat) : Prop := ∀ j (hj : j < k) (h : j < (wordsS p).length), (bytesOf (wordsS p)[j] == bytesOf s) = false
theorem noWord_next {p : Int} {s : ByteArray} {k : Nat} (h : NoWord p s k) (hk : k < (wordsS p).length) (hb : (bytesOf (wordsS p)[k] == bytesOf s) = false) : NoWord p s (k + 1) := fun j hj hl => by
  by_cases e : j = k
  · subst e; exact hb
  · exact h j (by omega) hl
theorem wordR_some {p : Int} {s : ByteArray} {k : Nat} (h : NoWord p s k) (hk : k < (wordsS p).length) (hb : (bytesOf (wordsS p)[k] == bytesOf s) = true) : wordR p (bytesOf s) = some k := by
  unfold wordR
  refine findIdx_some (by simpa using hk) (fun j hj => ?_) (by simpa using hb)
  have := h j hj (by omega)
  simpa using this
theorem wordR_none {p : Int} {s : ByteArray} (h : NoWord p s (wordsS p).length) : wordR p (bytesOf s) = none := by
  unfold wordR
  refine findIdx_none fun j hj => ?_
  have hj' : j < (wordsS p).length := by simpa using hj
  simpa using h j hj' hj'
theorem valueR_word {p : Int} {s : ByteArray} {k m : Nat} (h1 : (m : Int) = wordsN p) (h2 : (wordsS p).length = m) (h3 : k < m) (hk : k < (wordsS p).length) (h : NoWord p s k) (hb : (bytesOf (wordsS p)[k] == bytesOf s) = true) : valueR p (bytesOf s) = some ((k : Int), 0, 0) := by
  unfold valueR
  rw [if_pos (by omega), wordR_some h hk hb]; rfl
/-- The two boxes of the call. -/
structure Boxes (W w : World) (p w0 k n : Int) : Prop where
  res : Whole w W.heap.size 70 [.int .i64 0, .int .i64 0, .int .i64 0, .int .i64 0]
  dec : Whole w (W.heap.size + 1) 70 [.int .i64 p, .int .i64 w0, .int .i64 k, .int .i64 n]
  below : Below W.heap.size W w
section
variable {W w w' : World} {p a k n : Int}
theorem Boxes.drewN (h : Boxes W w p a k n) (q : Nat) : Boxes W (w.drewN q) p a k n := ⟨h.res, h.dec, Below.drewN' h.below q⟩
theorem Boxes.under (h : Boxes W w p a k n) (b : Below w.heap.size w w') : Boxes W w' p a k n := ⟨h.res.under b h.res.size, h.dec.under b h.dec.size, h.below.trans (b.mono h.below.size)⟩
theorem Boxes.word (h : Boxes W w p a k n) (v : Int) : Boxes W (w.setCell ⟨W.heap.size + 1, 1, none⟩ (.int .i64 v)) p v k n := ⟨h.res.other (by simp) _, h.dec.put 1 _, h.below.setCell (by simp) _⟩
theorem Boxes.kind (h : Boxes W w p a k n) (v : Int) : Boxes W (w.setCell ⟨W.heap.size + 1, 2, none⟩ (.int .i64 v)) p a v n := ⟨h.res.other (by simp) _, h.dec.put 2 _, h.below.setCell (by simp) _⟩
theorem Boxes.num (h : Boxes W w p a k n) (v : Int) : Boxes W (w.setCell ⟨W.heap.size + 1, 3, none⟩ (.int .i64 v)) p a k v := ⟨h.res.other (by simp) _, h.dec.put 3 _, h.below.setCell (by simp) _⟩
theorem Boxes.told (h : Boxes W w p a k n) (v0 v1 v2 v3 : Value) : Whole ((((w.setCell ⟨W.heap.size, 0, none⟩ v0).setCell ⟨W.heap.size, 1, none⟩ v1).setCell ⟨W.heap.size, 2, none⟩ v2).setCell ⟨W.heap.size, 3, none⟩ v3) W.heap.size 70 [v0, v1, v2, v3] ∧
    Below W.heap.size W ((((w.setCell ⟨W.heap.size, 0, none⟩ v0).setCell ⟨W.heap.size, 1, none⟩ v1).setCell ⟨W.heap.size, 2, none⟩ v2).setCell ⟨W.heap.size, 3, none⟩ v3) :=
  ⟨h.res.putFour v0 v1 v2 v3, (((h.below.setCell (Nat.le_refl _) _).setCell (Nat.le_refl _) _).setCell (Nat.le_refl _) _).setCell (Nat.le_refl _) _⟩
end
theorem rvalue_any (p : Int) (s : ByteArray) (hp : 1 ≤ p) (hp2 : p ≤ 32) (W : World) (hs : s.size ≤ 4611686018427387904) : Calls Tryz.prog 67 #[.int .i64 p, .string s] W fun e w' => ValPost p (valueR p (bytesOf s)) W e w' := by
  go_enter Tryz.func67, Tryz.ntmps67
  go_wp2_with fail
  refine (rwords_any p _).mono ?_
  rintro e w1 ⟨A, rfl, R, N, b⟩
  have e0 := ((Whole.mk W 70 #[.int .i64 0, .int .i64 0, .int .i64 0, .int .i64 0]).made (.cells #[.int .i64 p, .int .i64 0, .int .i64 0, .int .i64 0] 70))
  have e1 := Whole.mk (W.alloc (.cells #[.int .i64 0, .int .i64 0, .int .i64 0, .int .i64 0] 70)) 70 #[.int .i64 p, .int .i64 0, .int .i64 0, .int .i64 0]
  rw [World.size_alloc] at e1
  have HBX := Lib.hid (show Boxes W w1 p 0 0 0 from ⟨e0.under b e0.size, e1.under b e1.size, (((Below.refl _ W).alloc (Nat.le_refl _) _).alloc (by simp) _).trans (b.mono (by simp; omega))⟩)
  have HR := Lib.hid R
  have hB := HBX.out.below.size
  have hB1 := HBX.out.dec.size
  clear e0 e1 b R N hB
  have HM := Lib.hid (wordsS_length p)
  have HP := Lib.hid (show 1 ≤ p ∧ p ≤ 32 from ⟨hp, hp2⟩)
  have HML := Lib.hid (wordsN_le p)
  clear hp hp2
  have HMW := Lib.hid (show (wordsS p).length = (wordsS p).length from rfl)
  generalize hm : (wordsS p).length = m at *
  have HMM := Lib.hid hm
  clear hm HMW
  have hm5 : (m : Int) ≤ 5 := by have := HM.out; have := HML.out; omega
  go_wp2
  go_loop [8] (fun i => ∃ k : Nat, k ≤ m ∧ i = .int .i64 (k : Int) ∧ NoWord p s k) (fun i => m - (intOf i).toNat)
  case atStart => exact ⟨0, Nat.zero_le _, rfl, fun j hj => absurd hj (by omega)⟩
  case round =>
    obtain ⟨k, hk, rfl, hno⟩ := hrel
    have HNO := Lib.hid hno
    clear hno
    by_cases hlt : k < m
    · have hl : k < (strs (wordsS p)).length := by rw [strs_length, HMM.out]; exact hlt
      obtain ⟨ad, rfl, had, hc⟩ := HR.out.get hl
      have hl2 : k < (wordsS p).length := by rw [HMM.out]; exact hlt
      have hgs : (strs (wordsS p))[k] = .string (wordsS p)[k] := by simp [strs]
      rw [hgs] at hc
      have HEQ := Lib.hid (show ((wordsS p)[k].toList == s.toList) = (bytesOf (wordsS p)[k] == bytesOf s) by rw [ByteArray.toList_eq, ByteArray.toList_eq]; rfl)
      have HW := Lib.hid (show (wordsS p)[k] = (wordsS p)[k] from rfl)
      generalize hwk : (wordsS p)[k] = wk at *
      have HWK := Lib.hid hwk
      clear hwk hgs HW hl
      cases hb : wk.toList == s.toList with
      | true =>
        have HV := Lib.hid (show valueR p (bytesOf s) = some ((k : Int), 0, 0) from valueR_word HM.out HMM.out hlt hl2 HNO.out (by rw [HWK.out, ← HEQ.out]; exact hb))
        obtain ⟨c0, c1, c2, c3⟩ := HBX.out.dec.four
        obtain ⟨f0, f1, f2, f3⟩ := HBX.out.dec.fourFree
        obtain ⟨d0, d1, d2, d3⟩ := HBX.out.res.four
        obtain ⟨g0, g1, g2, g3⟩ := HBX.out.res.fourFree
        go_wp2
        obtain ⟨hq, hb9⟩ := (HBX.out.word k).told (.int .i64 p) (.int .i64 k) (.int .i64 0) (.int .i64 0)
        obtain ⟨r0, r1, r2, r3⟩ := hq.four
        exact bodyPost_ret (v := .tuple #[.agg #[.int .i64 p, .int .i64 k, .int .i64 0, .int .i64 0], .bool true]) (by simp [results, Tryz.results67, go_sem, r0, r1, r2, r3]) rfl (show ValPost p (valueR p (bytesOf s)) W _ _ by rw [HV.out]; exact ⟨rfl, hb9⟩)
      | false =>
        have HN2 := Lib.hid (show NoWord p s (k + 1) from noWord_next HNO.out hl2 (by rw [HWK.out, ← HEQ.out]; exact hb))
        go_wp2
        go_round
        case rel => exact ⟨k + 1, by omega, by go_num, HN2.out⟩
        case measure => simp [intOf]; omega
    · have hk : k = m := by omega
      subst hk
      have hlt' : ¬ (k : Int) < k := by omega
      have HWN := Lib.hid (show wordR p (bytesOf s) = none from wordR_none (by rw [HMM.out]; exact HNO.out))
      rcases (show (p = 1 ∨ p = 20 ∨ p = 21 ∨ p = 26 ∨ p = 27 ∨ p = 28 ∨ p = 29 ∨ p = 30 ∨ p = 32) ∨ ((p = 23 ∨ p = 24) ∨ p = 25 ∨ ((12 ≤ p ∧ p ≤ 19) ∨ p = 31) ∨ (8 ≤ p ∧ p ≤ 11) ∨ (p = 4 ∨ p = 5) ∨ (p = 2 ∨ p = 3 ∨ p = 22) ∨ (p = 6 ∨ p = 7)) by have := HP.out; omega) with h | h
      · have hw := wordsN_pos h
        have HV := Lib.hid (show valueR p (bytesOf s) = none by unfold valueR; rw [if_pos hw.1, HWN.out]; rfl)
        rw [← HM.out] at hw
        have hk0 : 0 < (k : Int) := hw.1
        have hk1 : 0 < k := by omega
        clear h hw
        obtain ⟨c0, c1, c2, c3⟩ := HBX.out.dec.four
        obtain ⟨f0, f1, f2, f3⟩ := HBX.out.dec.fourFree
        obtain ⟨d0, d1, d2, d3⟩ := HBX.out.res.four
        obtain ⟨g0, g1, g2, g3⟩ := HBX.out.res.fourFree
        go_wp2
        obtain ⟨hq, hb9⟩ := (HBX.out).told (.int .i64 0) (.int .i64 0) (.int .i64 0) (.int .i64 0)
        obtain ⟨r0, r1, r2, r3⟩ := hq.four
        exact bodyPost_ret (v := .tuple #[.agg #[.int .i64 0, .int .i64 0, .int .i64 0, .int .i64 0], .bool false]) (by simp [results, Tryz.results67, go_sem, r0, r1, r2, r3]) rfl (show ValPost p (valueR p (bytesOf s)) W _ _ by rw [HV.out]; exact ⟨rfl, hb9⟩)
      · have hk0 : k = 0 := by
          have := HM.out
          rw [wordsN_none (by omega)] at this
          omega
        subst hk0
        have HW0 := Lib.hid (show ¬ 0 < wordsN p by rw [wordsN_none (by omega)]; omega)
        rcases h with h | h | h | h | h | h | h
        · have HVE := Lib.hid (show valueR p (bytesOf s) = (wholeR (bytesOf s) 0 100).map fun v => (v, 0, 0) by unfold valueR; rw [if_neg HW0.out, if_pos h])
          have h1 : (p == 23) = true ∨ ((p == 23) = false ∧ (p == 24) = true) := by rcases h with rfl | rfl <;> simp
          clear h
          rcases h1 with h1 | ⟨h1, h2⟩
          all_goals
            obtain ⟨c0, c1, c2, c3⟩ := HBX.out.dec.four
            obtain ⟨f0, f1, f2, f3⟩ := HBX.out.dec.fourFree
            obtain ⟨d0, d1, d2, d3⟩ := HBX.out.res.four
            obtain ⟨g0, g1, g2, g3⟩ := HBX.out.res.fourFree
            go_wp2_with fail
            refine (rwhole_any s _ _ _ hs).mono ?_
            rintro e w2 ⟨z, b, rfl, hz, hr, q, rfl⟩
            rw [hr] at HVE
            have HVF := Lib.hid HVE.out
            clear hr HVE
            cases b with
            | true =>
              go_wp2
              obtain ⟨hq, hb9⟩ := ((HBX.out.drewN q).word z).told (.int .i64 p) (.int .i64 z) (.int .i64 0) (.int .i64 0)
              obtain ⟨r0, r1, r2, r3⟩ := hq.four
              exact bodyPost_ret (v := .tuple #[.agg #[.int .i64 p, .int .i64 z, .int .i64 0, .int .i64 0], .bool true]) (by simp [results, Tryz.results67, go_sem, r0, r1, r2, r3]) rfl (show ValPost p (valueR p (bytesOf s)) W _ _ by rw [HVF.out]; exact ⟨rfl, hb9⟩)
            | false =>
              go_wp2
              obtain ⟨hq, hb9⟩ := ((HBX.out.drewN q).word z).told (.int .i64 0) (.int .i64 0) (.int .i64 0) (.int .i64 0)
              obtain ⟨r0, r1, r2, r3⟩ := hq.four
              exact bodyPost_ret (v := .tuple #[.agg #[.int .i64 0, .int .i64 0, .int .i64 0, .int .i64 0], .bool false]) (by simp [results, Tryz.results67, go_sem, r0, r1, r2, r3]) rfl (show ValPost p (valueR p (bytesOf s)) W _ _ by rw [HVF.out]; exact ⟨rfl, hb9⟩)
        · have HVE := Lib.hid (show valueR p (bytesOf s) = (wholeR (bytesOf s) (-1000) 1000).map fun v => (v, 0, 0) by unfold valueR; rw [if_neg HW0.out, if_neg (by omega), if_pos h])
          have h1 : (p == 23) = false := by simp [h]
          have h2 : (p == 24) = false := by simp [h]
          have h3 : (p == 25) = true := by simp [h]
          clear h
          obtain ⟨c0, c1, c2, c3⟩ := HBX.out.dec.four
          obtain ⟨f0, f1, f2, f3⟩ := HBX.out.dec.fourFree
          obtain ⟨d0, d1, d2, d3⟩ := HBX.out.res.four
          obtain ⟨g0, g1, g2, g3⟩ := HBX.out.res.fourFree
          go_wp2_with fail
          refine (rwhole_any s _ _ _ hs).mono ?_
          rintro e w2 ⟨z, b, rfl, hz, hr, q, rfl⟩
          rw [hr] at HVE
          have HVF := Lib.hid HVE.out
          clear hr HVE
          cases b with
          | true =>
            go_wp2
            obtain ⟨hq, hb9⟩ := ((HBX.out.drewN q).word z).told (.int .i64 p) (.int .i64 z) (.int .i64 0) (.int .i64 0)
            obtain ⟨r0, r1, r2, r3⟩ := hq.four
            exact bodyPost_ret (v := .tuple #[.agg #[.int .i64 p, .int .i64 z, .int .i64 0, .int .i64 0], .bool true]) (by simp [results, Tryz.results67, go_sem, r0, r1, r2, r3]) rfl (show ValPost p (valueR p (bytesOf s)) W _ _ by rw [HVF.out]; exact ⟨rfl, hb9⟩)
          | false =>
            go_wp2
            obtain ⟨hq, hb9⟩ := ((HBX.out.drewN q).word z).told (.int .i64 0) (.int .i64 0) (.int .i64 0) (.int .i64 0)
            obtain ⟨r0, r1, r2, r3⟩ := hq.four
            exact bodyPost_ret (v := .tuple #[.agg #[.int .i64 0, .int .i64 0, .int .i64 0, .int .i64 0], .bool false]) (by simp [results, Tryz.results67, go_sem, r0, r1, r2, r3]) rfl (show ValPost p (valueR p (bytesOf s)) W _ _ by rw [HVF.out]; exact ⟨rfl, hb9⟩)
        · have HVE := Lib.hid (show valueR p (bytesOf s) = (pixR (bytesOf s)).bind fun z => if 0 ≤ z then some (0, 1, z) else none by unfold valueR; rw [if_neg HW0.out, if_neg (by omega), if_neg (by omega), if_pos h])
          have h1 : (p == 23) = false := by rw [beq_eq_false_iff_ne]; omega
          have h2 : (p == 24) = false := by rw [beq_eq_false_iff_ne]; omega
          have h3 : (p == 25) = false := by rw [beq_eq_false_iff_ne]; omega
          have h4 : (decide (12 ≤ p) = true ∧ decide (p ≤ 19) = true) ∨ (decide (12 ≤ p) = true ∧ decide (p ≤ 19) = false ∧ (p == 31) = true) := by
            rcases h with ⟨ha, hb⟩ | rfl
            · exact .inl ⟨decide_eq_true ha, decide_eq_true hb⟩
            · exact .inr ⟨rfl, rfl, rfl⟩
          clear h
          rcases h4 with ⟨h4, h5⟩ | ⟨h4, h5, h6⟩
          all_goals
            obtain ⟨c0, c1, c2, c3⟩ := HBX.out.dec.four
            obtain ⟨f0, f1, f2, f3⟩ := HBX.out.dec.fourFree
            obtain ⟨d0, d1, d2, d3⟩ := HBX.out.res.four
            obtain ⟨g0, g1, g2, g3⟩ := HBX.out.res.fourFree
            go_wp2_with fail
            refine (rpixels_any s _ hs).mono ?_
            rintro e w2 ⟨z, b, rfl, hz, hr, q, rfl⟩
            rw [hr] at HVE
            have HVF := Lib.hid HVE.out
            clear hr HVE
            cases b with
            | true =>
              by_cases hz0 : 0 ≤ z
              · have HVG := Lib.hid (show valueR p (bytesOf s) = some (0, 1, z) from HVF.out.trans (if_pos hz0))
                have hz2 : decide (0 ≤ z) = true := decide_eq_true hz0
                go_wp2
                obtain ⟨hq, hb9⟩ := (((HBX.out.kind 1).drewN q).num z).told (.int .i64 p) (.int .i64 0) (.int .i64 1) (.int .i64 z)
                obtain ⟨r0, r1, r2, r3⟩ := hq.four
                exact bodyPost_ret (v := .tuple #[.agg #[.int .i64 p, .int .i64 0, .int .i64 1, .int .i64 z], .bool true]) (by simp [results, Tryz.results67, go_sem, r0, r1, r2, r3]) rfl (show ValPost p (valueR p (bytesOf s)) W _ _ by rw [HVG.out]; exact ⟨rfl, hb9⟩)
              · have HVG := Lib.hid (show valueR p (bytesOf s) = none from HVF.out.trans (if_neg hz0))
                have hz1 : decide (0 ≤ z) = false := decide_eq_false hz0
                go_wp2
                obtain ⟨hq, hb9⟩ := (((HBX.out.kind 1).drewN q).num z).told (.int .i64 0) (.int .i64 0) (.int .i64 0) (.int .i64 0)
                obtain ⟨r0, r1, r2, r3⟩ := hq.four
                exact bodyPost_ret (v := .tuple #[.agg #[.int .i64 0, .int .i64 0, .int .i64 0, .int .i64 0], .bool false]) (by simp [results, Tryz.results67, go_sem, r0, r1, r2, r3]) rfl (show ValPost p (valueR p (bytesOf s)) W _ _ by rw [HVG.out]; exact ⟨rfl, hb9⟩)
            | false =>
              go_wp2
              obtain ⟨hq, hb9⟩ := (((HBX.out.kind 1).drewN q).num z).told (.int .i64 0) (.int .i64 0) (.int .i64 0) (.int .i64 0)
              obtain ⟨r0, r1, r2, r3⟩ := hq.four
              exact bodyPost_ret (v := .tuple #[.agg #[.int .i64 0, .int .i64 0, .int .i64 0, .int .i64 0], .bool false]) (by simp [results, Tryz.results67, go_sem, r0, r1, r2, r3]) rfl (show ValPost p (valueR p (bytesOf s)) W _ _ by rw [HVF.out]; exact ⟨rfl, hb9⟩)
        · have HMG := Lib.hid h
          have HAU := Lib.hid (show autoL p = [97, 117, 116, 111] from if_neg (by omega))
          obtain ⟨hA1, hA2⟩ := h
          have e23 : (p == 23) = false := by rw [beq_eq_false_iff_ne]; omega
          have e24 : (p == 24) = false := by rw [beq_eq_false_iff_ne]; omega
          have e25 : (p == 25) = false := by rw [beq_eq_false_iff_ne]; omega
          have x12 : decide (12 ≤ p) = false := decide_eq_false (by omega)
          have e31 : (p == 31) = false := by rw [beq_eq_false_iff_ne]; omega
          have e2 : (p == 2) = false := by rw [beq_eq_false_iff_ne]; omega
          have e3 : (p == 3) = false := by rw [beq_eq_false_iff_ne]; omega
          have x8 : decide (8 ≤ p) = true := decide_eq_true (by omega)
          have x11 : decide (p ≤ 11) = true := decide_eq_true (by omega)
          have e6 : (p == 6) = false := by rw [beq_eq_false_iff_ne]; omega
          have e7 : (p == 7) = false := by rw [beq_eq_false_iff_ne]; omega
          cases hau : s.toList == [97, 117, 116, 111] with
          | true =>
            have HVG := Lib.hid (show valueR p (bytesOf s) = some (0, 0, 0) by unfold valueR; rw [if_neg HW0.out, if_neg (by omega), if_neg (by omega), if_neg (by omega), if_pos ⟨by omega, by rw [HAU.out, ← eq_bytes]; exact hau⟩])
            obtain ⟨c0, c1, c2, c3⟩ := HBX.out.dec.four
            obtain ⟨f0, f1, f2, f3⟩ := HBX.out.dec.fourFree
            obtain ⟨d0, d1, d2, d3⟩ := HBX.out.res.four
            obtain ⟨g0, g1, g2, g3⟩ := HBX.out.res.fourFree
            go_wp2
            obtain ⟨hq, hb9⟩ := (HBX.out).told (.int .i64 p) (.int .i64 0) (.int .i64 0) (.int .i64 0)
            obtain ⟨r0, r1, r2, r3⟩ := hq.four
            exact bodyPost_ret (v := .tuple #[.agg #[.int .i64 p, .int .i64 0, .int .i64 0, .int .i64 0], .bool true]) (by simp [results, Tryz.results67, go_sem, r0, r1, r2, r3]) rfl (show ValPost p (valueR p (bytesOf s)) W _ _ by rw [HVG.out]; exact ⟨rfl, hb9⟩)
          | false =>
            have HVE := Lib.hid (show valueR p (bytesOf s) = (lenR (bytesOf s)).bind fun x => if 0 ≤ x.2 ∨ (8 ≤ p ∧ p ≤ 11) then some (0, x.1, x.2) else none by unfold valueR; rw [if_neg HW0.out, if_neg (by omega), if_neg (by omega), if_neg (by omega), if_neg (fun hc => by have := hc.2; rw [HAU.out, ← eq_bytes, hau] at this; cases this)])
            obtain ⟨c0, c1, c2, c3⟩ := HBX.out.dec.four
            obtain ⟨f0, f1, f2, f3⟩ := HBX.out.dec.fourFree
            obtain ⟨d0, d1, d2, d3⟩ := HBX.out.res.four
            obtain ⟨g0, g1, g2, g3⟩ := HBX.out.res.fourFree
            go_wp2_with fail
            refine (rlength_any s _ hs).mono ?_
            rintro e w2 ⟨lk, z, b, rfl, hz, hlk, hr, b2⟩
            have HBY := Lib.hid (HBX.out.under b2)
            rw [hr] at HVE
            have HVF := Lib.hid HVE.out
            clear hr HVE b2 c0 c1 c2 c3 f0 f1 f2 f3 d0 d1 d2 d3 g0 g1 g2 g3
            have hB2 := HBY.out.dec.size
            obtain ⟨c0, c1, c2, c3⟩ := HBY.out.dec.four
            obtain ⟨f0, f1, f2, f3⟩ := HBY.out.dec.fourFree
            obtain ⟨d0, d1, d2, d3⟩ := HBY.out.res.four
            obtain ⟨g0, g1, g2, g3⟩ := HBY.out.res.fourFree
            cases b with
            | true =>
              by_cases hz0 : 0 ≤ z
              · have HVG := Lib.hid (show valueR p (bytesOf s) = some (0, lk, z) from HVF.out.trans (if_pos (.inl hz0)))
                go_wp2
                obtain ⟨hq, hb9⟩ := ((HBY.out.kind lk).num z).told (.int .i64 p) (.int .i64 0) (.int .i64 lk) (.int .i64 z)
                obtain ⟨r0, r1, r2, r3⟩ := hq.four
                exact bodyPost_ret (v := .tuple #[.agg #[.int .i64 p, .int .i64 0, .int .i64 lk, .int .i64 z], .bool true]) (by simp [results, Tryz.results67, go_sem, r0, r1, r2, r3]) rfl (show ValPost p (valueR p (bytesOf s)) W _ _ by rw [HVG.out]; exact ⟨rfl, hb9⟩)
              · have HVG := Lib.hid (show valueR p (bytesOf s) = some (0, lk, z) from HVF.out.trans (if_pos (.inr HMG.out)))
                have hz1 : decide (0 ≤ z) = false := decide_eq_false hz0
                go_wp2
                obtain ⟨hq, hb9⟩ := ((HBY.out.kind lk).num z).told (.int .i64 p) (.int .i64 0) (.int .i64 lk) (.int .i64 z)
                obtain ⟨r0, r1, r2, r3⟩ := hq.four
                exact bodyPost_ret (v := .tuple #[.agg #[.int .i64 p, .int .i64 0, .int .i64 lk, .int .i64 z], .bool true]) (by simp [results, Tryz.results67, go_sem, r0, r1, r2, r3]) rfl (show ValPost p (valueR p (bytesOf s)) W _ _ by rw [HVG.out]; exact ⟨rfl, hb9⟩)
            | false =>
              go_wp2
              obtain ⟨hq, hb9⟩ := ((HBY.out.kind lk).num z).told (.int .i64 0) (.int .i64 0) (.int .i64 0) (.int .i64 0)
              obtain ⟨r0, r1, r2, r3⟩ := hq.four
              exact bodyPost_ret (v := .tuple #[.agg #[.int .i64 0, .int .i64 0, .int .i64 0, .int .i64 0], .bool false]) (by simp [results, Tryz.results67, go_sem, r0, r1, r2, r3]) rfl (show ValPost p (valueR p (bytesOf s)) W _ _ by rw [HVF.out]; exact ⟨rfl, hb9⟩)
        · have HVE := Lib.hid (show valueR p (bytesOf s) = (lenR (bytesOf s)).bind fun x => if 0 ≤ x.2 ∨ (8 ≤ p ∧ p ≤ 11) then some (0, x.1, x.2) else none by unfold valueR; rw [if_neg HW0.out, if_neg (by omega), if_neg (by omega), if_neg (by omega), if_neg (fun hc => hc.1 h)])
          rcases h with rfl | rfl
          · obtain ⟨c0, c1, c2, c3⟩ := HBX.out.dec.four
            obtain ⟨f0, f1, f2, f3⟩ := HBX.out.dec.fourFree
            obtain ⟨d0, d1, d2, d3⟩ := HBX.out.res.four
            obtain ⟨g0, g1, g2, g3⟩ := HBX.out.res.fourFree
            go_wp2_with fail
            refine (rlength_any s _ hs).mono ?_
            rintro e w2 ⟨lk, z, b, rfl, hz, hlk, hr, b2⟩
            have HBY := Lib.hid (HBX.out.under b2)
            rw [hr] at HVE
            have HVF := Lib.hid HVE.out
            clear hr HVE b2 c0 c1 c2 c3 f0 f1 f2 f3 d0 d1 d2 d3 g0 g1 g2 g3
            have hB2 := HBY.out.dec.size
            obtain ⟨c0, c1, c2, c3⟩ := HBY.out.dec.four
            obtain ⟨f0, f1, f2, f3⟩ := HBY.out.dec.fourFree
            obtain ⟨d0, d1, d2, d3⟩ := HBY.out.res.four
            obtain ⟨g0, g1, g2, g3⟩ := HBY.out.res.fourFree
            cases b with
            | true =>
              by_cases hz0 : 0 ≤ z
              · have HVG := Lib.hid (show valueR 4 (bytesOf s) = some (0, lk, z) from HVF.out.trans (if_pos (.inl hz0)))
                go_wp2
                obtain ⟨hq, hb9⟩ := ((HBY.out.kind lk).num z).told (.int .i64 4) (.int .i64 0) (.int .i64 lk) (.int .i64 z)
                obtain ⟨r0, r1, r2, r3⟩ := hq.four
                exact bodyPost_ret (v := .tuple #[.agg #[.int .i64 4, .int .i64 0, .int .i64 lk, .int .i64 z], .bool true]) (by simp [results, Tryz.results67, go_sem, r0, r1, r2, r3]) rfl (show ValPost 4 (valueR 4 (bytesOf s)) W _ _ by rw [HVG.out]; exact ⟨rfl, hb9⟩)
              · have HVG := Lib.hid (show valueR 4 (bytesOf s) = none from HVF.out.trans (if_neg (fun h => by rcases h with h | h <;> omega)))
                have hz1 : decide (0 ≤ z) = false := decide_eq_false hz0
                go_wp2
                obtain ⟨hq, hb9⟩ := ((HBY.out.kind lk).num z).told (.int .i64 0) (.int .i64 0) (.int .i64 0) (.int .i64 0)
                obtain ⟨r0, r1, r2, r3⟩ := hq.four
                exact bodyPost_ret (v := .tuple #[.agg #[.int .i64 0, .int .i64 0, .int .i64 0, .int .i64 0], .bool false]) (by simp [results, Tryz.results67, go_sem, r0, r1, r2, r3]) rfl (show ValPost 4 (valueR 4 (bytesOf s)) W _ _ by rw [HVG.out]; exact ⟨rfl, hb9⟩)
            | false =>
              go_wp2
              obtain ⟨hq, hb9⟩ := ((HBY.out.kind lk).num z).told (.int .i64 0) (.int .i64 0) (.int .i64 0) (.int .i64 0)
              obtain ⟨r0, r1, r2, r3⟩ := hq.four
              exact bodyPost_ret (v := .tuple #[.agg #[.int .i64 0, .int .i64 0, .int .i64 0, .int .i64 0], .bool false]) (by simp [results, Tryz.results67, go_sem, r0, r1, r2, r3]) rfl (show ValPost 4 (valueR 4 (bytesOf s)) W _ _ by rw [HVF.out]; exact ⟨rfl, hb9⟩)
          · obtain ⟨c0, c1, c2, c3⟩ := HBX.out.dec.four
            obtain ⟨f0, f1, f2, f3⟩ := HBX.out.dec.fourFree
            obtain ⟨d0, d1, d2, d3⟩ := HBX.out.res.four
            obtain ⟨g0, g1, g2, g3⟩ := HBX.out.res.fourFree
            go_wp2_with fail
            refine (rlength_any s _ hs).mono ?_
            rintro e w2 ⟨lk, z, b, rfl, hz, hlk, hr, b2⟩
            have HBY := Lib.hid (HBX.out.under b2)
            rw [hr] at HVE
            have HVF := Lib.hid HVE.out
            clear hr HVE b2 c0 c1 c2 c3 f0 f1 f2 f3 d0 d1 d2 d3 g0 g1 g2 g3
            have hB2 := HBY.out.dec.size
            obtain ⟨c0, c1, c2, c3⟩ := HBY.out.dec.four
            obtain ⟨f0, f1, f2, f3⟩ := HBY.out.dec.fourFree
            obtain ⟨d0, d1, d2, d3⟩ := HBY.out.res.four
            obtain ⟨g0, g1, g2, g3⟩ := HBY.out.res.fourFree
            cases b with
            | true =>
              by_cases hz0 : 0 ≤ z
              · have HVG := Lib.hid (show valueR 5 (bytesOf s) = some (0, lk, z) from HVF.out.trans (if_pos (.inl hz0)))
                go_wp2
                obtain ⟨hq, hb9⟩ := ((HBY.out.kind lk).num z).told (.int .i64 5) (.int .i64 0) (.int .i64 lk) (.int .i64 z)
                obtain ⟨r0, r1, r2, r3⟩ := hq.four
                exact bodyPost_ret (v := .tuple #[.agg #[.int .i64 5, .int .i64 0, .int .i64 lk, .int .i64 z], .bool true]) (by simp [results, Tryz.results67, go_sem, r0, r1, r2, r3]) rfl (show ValPost 5 (valueR 5 (bytesOf s)) W _ _ by rw [HVG.out]; exact ⟨rfl, hb9⟩)
              · have HVG := Lib.hid (show valueR 5 (bytesOf s) = none from HVF.out.trans (if_neg (fun h => by rcases h with h | h <;> omega)))
                have hz1 : decide (0 ≤ z) = false := decide_eq_false hz0
                go_wp2
                obtain ⟨hq, hb9⟩ := ((HBY.out.kind lk).num z).told (.int .i64 0) (.int .i64 0) (.int .i64 0) (.int .i64 0)
                obtain ⟨r0, r1, r2, r3⟩ := hq.four
                exact bodyPost_ret (v := .tuple #[.agg #[.int .i64 0, .int .i64 0, .int .i64 0, .int .i64 0], .bool false]) (by simp [results, Tryz.results67, go_sem, r0, r1, r2, r3]) rfl (show ValPost 5 (valueR 5 (bytesOf s)) W _ _ by rw [HVG.out]; exact ⟨rfl, hb9⟩)
            | false =>
              go_wp2
              obtain ⟨hq, hb9⟩ := ((HBY.out.kind lk).num z).told (.int .i64 0) (.int .i64 0) (.int .i64 0) (.int .i64 0)
              obtain ⟨r0, r1, r2, r3⟩ := hq.four
              exact bodyPost_ret (v := .tuple #[.agg #[.int .i64 0, .int .i64 0, .int .i64 0, .int .i64 0], .bool false]) (by simp [results, Tryz.results67, go_sem, r0, r1, r2, r3]) rfl (show ValPost 5 (valueR 5 (bytesOf s)) W _ _ by rw [HVF.out]; exact ⟨rfl, hb9⟩)
        · have HAU := Lib.hid (show autoL p = [97, 117, 116, 111] from if_neg (by omega))
          rcases h with rfl | rfl | rfl
          · cases hau : s.toList == [97, 117, 116, 111] with
            | true =>
              have HVG := Lib.hid (show valueR 2 (bytesOf s) = some (0, 0, 0) by unfold valueR; rw [if_neg HW0.out, if_neg (by omega), if_neg (by omega), if_neg (by omega), if_pos ⟨by omega, by rw [HAU.out, ← eq_bytes]; exact hau⟩])
              obtain ⟨c0, c1, c2, c3⟩ := HBX.out.dec.four
              obtain ⟨f0, f1, f2, f3⟩ := HBX.out.dec.fourFree
              obtain ⟨d0, d1, d2, d3⟩ := HBX.out.res.four
              obtain ⟨g0, g1, g2, g3⟩ := HBX.out.res.fourFree
              go_wp2
              obtain ⟨hq, hb9⟩ := (HBX.out).told (.int .i64 2) (.int .i64 0) (.int .i64 0) (.int .i64 0)
              obtain ⟨r0, r1, r2, r3⟩ := hq.four
              exact bodyPost_ret (v := .tuple #[.agg #[.int .i64 2, .int .i64 0, .int .i64 0, .int .i64 0], .bool true]) (by simp [results, Tryz.results67, go_sem, r0, r1, r2, r3]) rfl (show ValPost 2 (valueR 2 (bytesOf s)) W _ _ by rw [HVG.out]; exact ⟨rfl, hb9⟩)
            | false =>
              have HVE := Lib.hid (show valueR 2 (bytesOf s) = (lenR (bytesOf s)).bind fun x => if 0 ≤ x.2 ∨ ((8 : Int) ≤ 2 ∧ (2 : Int) ≤ 11) then some (0, x.1, x.2) else none by unfold valueR; rw [if_neg HW0.out, if_neg (by omega), if_neg (by omega), if_neg (by omega), if_neg (fun hc => by have := hc.2; rw [HAU.out, ← eq_bytes, hau] at this; cases this)])
              obtain ⟨c0, c1, c2, c3⟩ := HBX.out.dec.four
              obtain ⟨f0, f1, f2, f3⟩ := HBX.out.dec.fourFree
              obtain ⟨d0, d1, d2, d3⟩ := HBX.out.res.four
              obtain ⟨g0, g1, g2, g3⟩ := HBX.out.res.fourFree
              go_wp2_with fail
              refine (rlength_any s _ hs).mono ?_
              rintro e w2 ⟨lk, z, b, rfl, hz, hlk, hr, b2⟩
              have HBY := Lib.hid (HBX.out.under b2)
              rw [hr] at HVE
              have HVF := Lib.hid HVE.out
              clear hr HVE b2 c0 c1 c2 c3 f0 f1 f2 f3 d0 d1 d2 d3 g0 g1 g2 g3
              have hB2 := HBY.out.dec.size
              obtain ⟨c0, c1, c2, c3⟩ := HBY.out.dec.four
              obtain ⟨f0, f1, f2, f3⟩ := HBY.out.dec.fourFree
              obtain ⟨d0, d1, d2, d3⟩ := HBY.out.res.four
              obtain ⟨g0, g1, g2, g3⟩ := HBY.out.res.fourFree
              cases b with
              | true =>
                by_cases hz0 : 0 ≤ z
                · have HVG := Lib.hid (show valueR 2 (bytesOf s) = some (0, lk, z) from HVF.out.trans (if_pos (.inl hz0)))
                  go_wp2
                  obtain ⟨hq, hb9⟩ := ((HBY.out.kind lk).num z).told (.int .i64 2) (.int .i64 0) (.int .i64 lk) (.int .i64 z)
                  obtain ⟨r0, r1, r2, r3⟩ := hq.four
                  exact bodyPost_ret (v := .tuple #[.agg #[.int .i64 2, .int .i64 0, .int .i64 lk, .int .i64 z], .bool true]) (by simp [results, Tryz.results67, go_sem, r0, r1, r2, r3]) rfl (show ValPost 2 (valueR 2 (bytesOf s)) W _ _ by rw [HVG.out]; exact ⟨rfl, hb9⟩)
                · have HVG := Lib.hid (show valueR 2 (bytesOf s) = none from HVF.out.trans (if_neg (fun h => by rcases h with h | h <;> omega)))
                  have hz1 : decide (0 ≤ z) = false := decide_eq_false hz0
                  go_wp2
                  obtain ⟨hq, hb9⟩ := ((HBY.out.kind lk).num z).told (.int .i64 0) (.int .i64 0) (.int .i64 0) (.int .i64 0)
                  obtain ⟨r0, r1, r2, r3⟩ := hq.four
                  exact bodyPost_ret (v := .tuple #[.agg #[.int .i64 0, .int .i64 0, .int .i64 0, .int .i64 0], .bool false]) (by simp [results, Tryz.results67, go_sem, r0, r1, r2, r3]) rfl (show ValPost 2 (valueR 2 (bytesOf s)) W _ _ by rw [HVG.out]; exact ⟨rfl, hb9⟩)
              | false =>
                go_wp2
                obtain ⟨hq, hb9⟩ := ((HBY.out.kind lk).num z).told (.int .i64 0) (.int .i64 0) (.int .i64 0) (.int .i64 0)
                obtain ⟨r0, r1, r2, r3⟩ := hq.four
                exact bodyPost_ret (v := .tuple #[.agg #[.int .i64 0, .int .i64 0, .int .i64 0, .int .i64 0], .bool false]) (by simp [results, Tryz.results67, go_sem, r0, r1, r2, r3]) rfl (show ValPost 2 (valueR 2 (bytesOf s)) W _ _ by rw [HVF.out]; exact ⟨rfl, hb9⟩)
          · cases hau : s.toList == [97, 117, 116, 111] with
            | true =>
              have HVG := Lib.hid (show valueR 3 (bytesOf s) = some (0, 0, 0) by unfold valueR; rw [if_neg HW0.out, if_neg (by omega), if_neg (by omega), if_neg (by omega), if_pos ⟨by omega, by rw [HAU.out, ← eq_bytes]; exact hau⟩])
              obtain ⟨c0, c1, c2, c3⟩ := HBX.out.dec.four
              obtain ⟨f0, f1, f2, f3⟩ := HBX.out.dec.fourFree
              obtain ⟨d0, d1, d2, d3⟩ := HBX.out.res.four
              obtain ⟨g0, g1, g2, g3⟩ := HBX.out.res.fourFree
              go_wp2
              obtain ⟨hq, hb9⟩ := (HBX.out).told (.int .i64 3) (.int .i64 0) (.int .i64 0) (.int .i64 0)
              obtain ⟨r0, r1, r2, r3⟩ := hq.four
              exact bodyPost_ret (v := .tuple #[.agg #[.int .i64 3, .int .i64 0, .int .i64 0, .int .i64 0], .bool true]) (by simp [results, Tryz.results67, go_sem, r0, r1, r2, r3]) rfl (show ValPost 3 (valueR 3 (bytesOf s)) W _ _ by rw [HVG.out]; exact ⟨rfl, hb9⟩)
            | false =>
              have HVE := Lib.hid (show valueR 3 (bytesOf s) = (lenR (bytesOf s)).bind fun x => if 0 ≤ x.2 ∨ ((8 : Int) ≤ 3 ∧ (3 : Int) ≤ 11) then some (0, x.1, x.2) else none by unfold valueR; rw [if_neg HW0.out, if_neg (by omega), if_neg (by omega), if_neg (by omega), if_neg (fun hc => by have := hc.2; rw [HAU.out, ← eq_bytes, hau] at this; cases this)])
              obtain ⟨c0, c1, c2, c3⟩ := HBX.out.dec.four
              obtain ⟨f0, f1, f2, f3⟩ := HBX.out.dec.fourFree
              obtain ⟨d0, d1, d2, d3⟩ := HBX.out.res.four
              obtain ⟨g0, g1, g2, g3⟩ := HBX.out.res.fourFree
              go_wp2_with fail
              refine (rlength_any s _ hs).mono ?_
              rintro e w2 ⟨lk, z, b, rfl, hz, hlk, hr, b2⟩
              have HBY := Lib.hid (HBX.out.under b2)
              rw [hr] at HVE
              have HVF := Lib.hid HVE.out
              clear hr HVE b2 c0 c1 c2 c3 f0 f1 f2 f3 d0 d1 d2 d3 g0 g1 g2 g3
              have hB2 := HBY.out.dec.size
              obtain ⟨c0, c1, c2, c3⟩ := HBY.out.dec.four
              obtain ⟨f0, f1, f2, f3⟩ := HBY.out.dec.fourFree
              obtain ⟨d0, d1, d2, d3⟩ := HBY.out.res.four
              obtain ⟨g0, g1, g2, g3⟩ := HBY.out.res.fourFree
              cases b with
              | true =>
                by_cases hz0 : 0 ≤ z
                · have HVG := Lib.hid (show valueR 3 (bytesOf s) = some (0, lk, z) from HVF.out.trans (if_pos (.inl hz0)))
                  go_wp2
                  obtain ⟨hq, hb9⟩ := ((HBY.out.kind lk).num z).told (.int .i64 3) (.int .i64 0) (.int .i64 lk) (.int .i64 z)
                  obtain ⟨r0, r1, r2, r3⟩ := hq.four
                  exact bodyPost_ret (v := .tuple #[.agg #[.int .i64 3, .int .i64 0, .int .i64 lk, .int .i64 z], .bool true]) (by simp [results, Tryz.results67, go_sem, r0, r1, r2, r3]) rfl (show ValPost 3 (valueR 3 (bytesOf s)) W _ _ by rw [HVG.out]; exact ⟨rfl, hb9⟩)
                · have HVG := Lib.hid (show valueR 3 (bytesOf s) = none from HVF.out.trans (if_neg (fun h => by rcases h with h | h <;> omega)))
                  have hz1 : decide (0 ≤ z) = false := decide_eq_false hz0
                  go_wp2
                  obtain ⟨hq, hb9⟩ := ((HBY.out.kind lk).num z).told (.int .i64 0) (.int .i64 0) (.int .i64 0) (.int .i64 0)
                  obtain ⟨r0, r1, r2, r3⟩ := hq.four
                  exact bodyPost_ret (v := .tuple #[.agg #[.int .i64 0, .int .i64 0, .int .i64 0, .int .i64 0], .bool false]) (by simp [results, Tryz.results67, go_sem, r0, r1, r2, r3]) rfl (show ValPost 3 (valueR 3 (bytesOf s)) W _ _ by rw [HVG.out]; exact ⟨rfl, hb9⟩)
              | false =>
                go_wp2
                obtain ⟨hq, hb9⟩ := ((HBY.out.kind lk).num z).told (.int .i64 0) (.int .i64 0) (.int .i64 0) (.int .i64 0)
                obtain ⟨r0, r1, r2, r3⟩ := hq.four
                exact bodyPost_ret (v := .tuple #[.agg #[.int .i64 0, .int .i64 0, .int .i64 0, .int .i64 0], .bool false]) (by simp [results, Tryz.results67, go_sem, r0, r1, r2, r3]) rfl (show ValPost 3 (valueR 3 (bytesOf s)) W _ _ by rw [HVF.out]; exact ⟨rfl, hb9⟩)
          · cases hau : s.toList == [97, 117, 116, 111] with
            | true =>
              have HVG := Lib.hid (show valueR 22 (bytesOf s) = some (0, 0, 0) by unfold valueR; rw [if_neg HW0.out, if_neg (by omega), if_neg (by omega), if_neg (by omega), if_pos ⟨by omega, by rw [HAU.out, ← eq_bytes]; exact hau⟩])
              obtain ⟨c0, c1, c2, c3⟩ := HBX.out.dec.four
              obtain ⟨f0, f1, f2, f3⟩ := HBX.out.dec.fourFree
              obtain ⟨d0, d1, d2, d3⟩ := HBX.out.res.four
              obtain ⟨g0, g1, g2, g3⟩ := HBX.out.res.fourFree
              go_wp2
              obtain ⟨hq, hb9⟩ := (HBX.out).told (.int .i64 22) (.int .i64 0) (.int .i64 0) (.int .i64 0)
              obtain ⟨r0, r1, r2, r3⟩ := hq.four
              exact bodyPost_ret (v := .tuple #[.agg #[.int .i64 22, .int .i64 0, .int .i64 0, .int .i64 0], .bool true]) (by simp [results, Tryz.results67, go_sem, r0, r1, r2, r3]) rfl (show ValPost 22 (valueR 22 (bytesOf s)) W _ _ by rw [HVG.out]; exact ⟨rfl, hb9⟩)
            | false =>
              have HVE := Lib.hid (show valueR 22 (bytesOf s) = (lenR (bytesOf s)).bind fun x => if 0 ≤ x.2 ∨ ((8 : Int) ≤ 22 ∧ (22 : Int) ≤ 11) then some (0, x.1, x.2) else none by unfold valueR; rw [if_neg HW0.out, if_neg (by omega), if_neg (by omega), if_neg (by omega), if_neg (fun hc => by have := hc.2; rw [HAU.out, ← eq_bytes, hau] at this; cases this)])
              obtain ⟨c0, c1, c2, c3⟩ := HBX.out.dec.four
              obtain ⟨f0, f1, f2, f3⟩ := HBX.out.dec.fourFree
              obtain ⟨d0, d1, d2, d3⟩ := HBX.out.res.four
              obtain ⟨g0, g1, g2, g3⟩ := HBX.out.res.fourFree
              go_wp2_with fail
              refine (rlength_any s _ hs).mono ?_
              rintro e w2 ⟨lk, z, b, rfl, hz, hlk, hr, b2⟩
              have HBY := Lib.hid (HBX.out.under b2)
              rw [hr] at HVE
              have HVF := Lib.hid HVE.out
              clear hr HVE b2 c0 c1 c2 c3 f0 f1 f2 f3 d0 d1 d2 d3 g0 g1 g2 g3
              have hB2 := HBY.out.dec.size
              obtain ⟨c0, c1, c2, c3⟩ := HBY.out.dec.four
              obtain ⟨f0, f1, f2, f3⟩ := HBY.out.dec.fourFree
              obtain ⟨d0, d1, d2, d3⟩ := HBY.out.res.four
              obtain ⟨g0, g1, g2, g3⟩ := HBY.out.res.fourFree
              cases b with
              | true =>
                by_cases hz0 : 0 ≤ z
                · have HVG := Lib.hid (show valueR 22 (bytesOf s) = some (0, lk, z) from HVF.out.trans (if_pos (.inl hz0)))
                  go_wp2
                  obtain ⟨hq, hb9⟩ := ((HBY.out.kind lk).num z).told (.int .i64 22) (.int .i64 0) (.int .i64 lk) (.int .i64 z)
                  obtain ⟨r0, r1, r2, r3⟩ := hq.four
                  exact bodyPost_ret (v := .tuple #[.agg #[.int .i64 22, .int .i64 0, .int .i64 lk, .int .i64 z], .bool true]) (by simp [results, Tryz.results67, go_sem, r0, r1, r2, r3]) rfl (show ValPost 22 (valueR 22 (bytesOf s)) W _ _ by rw [HVG.out]; exact ⟨rfl, hb9⟩)
                · have HVG := Lib.hid (show valueR 22 (bytesOf s) = none from HVF.out.trans (if_neg (fun h => by rcases h with h | h <;> omega)))
                  have hz1 : decide (0 ≤ z) = false := decide_eq_false hz0
                  go_wp2
                  obtain ⟨hq, hb9⟩ := ((HBY.out.kind lk).num z).told (.int .i64 0) (.int .i64 0) (.int .i64 0) (.int .i64 0)
                  obtain ⟨r0, r1, r2, r3⟩ := hq.four
                  exact bodyPost_ret (v := .tuple #[.agg #[.int .i64 0, .int .i64 0, .int .i64 0, .int .i64 0], .bool false]) (by simp [results, Tryz.results67, go_sem, r0, r1, r2, r3]) rfl (show ValPost 22 (valueR 22 (bytesOf s)) W _ _ by rw [HVG.out]; exact ⟨rfl, hb9⟩)
              | false =>
                go_wp2
                obtain ⟨hq, hb9⟩ := ((HBY.out.kind lk).num z).told (.int .i64 0) (.int .i64 0) (.int .i64 0) (.int .i64 0)
                obtain ⟨r0, r1, r2, r3⟩ := hq.four
                exact bodyPost_ret (v := .tuple #[.agg #[.int .i64 0, .int .i64 0, .int .i64 0, .int .i64 0], .bool false]) (by simp [results, Tryz.results67, go_sem, r0, r1, r2, r3]) rfl (show ValPost 22 (valueR 22 (bytesOf s)) W _ _ by rw [HVF.out]; exact ⟨rfl, hb9⟩)
        · have HAU := Lib.hid (show autoL p = [110, 111, 110, 101] from if_pos h)
          rcases h with rfl | rfl
          · cases hau : s.toList == [110, 111, 110, 101] with
            | true =>
              have HVG := Lib.hid (show valueR 6 (bytesOf s) = some (0, 0, 0) by unfold valueR; rw [if_neg HW0.out, if_neg (by omega), if_neg (by omega), if_neg (by omega), if_pos ⟨by omega, by rw [HAU.out, ← eq_bytes]; exact hau⟩])
              obtain ⟨c0, c1, c2, c3⟩ := HBX.out.dec.four
              obtain ⟨f0, f1, f2, f3⟩ := HBX.out.dec.fourFree
              obtain ⟨d0, d1, d2, d3⟩ := HBX.out.res.four
              obtain ⟨g0, g1, g2, g3⟩ := HBX.out.res.fourFree
              go_wp2
              obtain ⟨hq, hb9⟩ := (HBX.out).told (.int .i64 6) (.int .i64 0) (.int .i64 0) (.int .i64 0)
              obtain ⟨r0, r1, r2, r3⟩ := hq.four
              exact bodyPost_ret (v := .tuple #[.agg #[.int .i64 6, .int .i64 0, .int .i64 0, .int .i64 0], .bool true]) (by simp [results, Tryz.results67, go_sem, r0, r1, r2, r3]) rfl (show ValPost 6 (valueR 6 (bytesOf s)) W _ _ by rw [HVG.out]; exact ⟨rfl, hb9⟩)
            | false =>
              have HVE := Lib.hid (show valueR 6 (bytesOf s) = (lenR (bytesOf s)).bind fun x => if 0 ≤ x.2 ∨ ((8 : Int) ≤ 6 ∧ (6 : Int) ≤ 11) then some (0, x.1, x.2) else none by unfold valueR; rw [if_neg HW0.out, if_neg (by omega), if_neg (by omega), if_neg (by omega), if_neg (fun hc => by have := hc.2; rw [HAU.out, ← eq_bytes, hau] at this; cases this)])
              obtain ⟨c0, c1, c2, c3⟩ := HBX.out.dec.four
              obtain ⟨f0, f1, f2, f3⟩ := HBX.out.dec.fourFree
              obtain ⟨d0, d1, d2, d3⟩ := HBX.out.res.four
              obtain ⟨g0, g1, g2, g3⟩ := HBX.out.res.fourFree
              go_wp2_with fail
              refine (rlength_any s _ hs).mono ?_
              rintro e w2 ⟨lk, z, b, rfl, hz, hlk, hr, b2⟩
              have HBY := Lib.hid (HBX.out.under b2)
              rw [hr] at HVE
              have HVF := Lib.hid HVE.out
              clear hr HVE b2 c0 c1 c2 c3 f0 f1 f2 f3 d0 d1 d2 d3 g0 g1 g2 g3
              have hB2 := HBY.out.dec.size
              obtain ⟨c0, c1, c2, c3⟩ := HBY.out.dec.four
              obtain ⟨f0, f1, f2, f3⟩ := HBY.out.dec.fourFree
              obtain ⟨d0, d1, d2, d3⟩ := HBY.out.res.four
              obtain ⟨g0, g1, g2, g3⟩ := HBY.out.res.fourFree
              cases b with
              | true =>
                by_cases hz0 : 0 ≤ z
                · have HVG := Lib.hid (show valueR 6 (bytesOf s) = some (0, lk, z) from HVF.out.trans (if_pos (.inl hz0)))
                  go_wp2
                  obtain ⟨hq, hb9⟩ := ((HBY.out.kind lk).num z).told (.int .i64 6) (.int .i64 0) (.int .i64 lk) (.int .i64 z)
                  obtain ⟨r0, r1, r2, r3⟩ := hq.four
                  exact bodyPost_ret (v := .tuple #[.agg #[.int .i64 6, .int .i64 0, .int .i64 lk, .int .i64 z], .bool true]) (by simp [results, Tryz.results67, go_sem, r0, r1, r2, r3]) rfl (show ValPost 6 (valueR 6 (bytesOf s)) W _ _ by rw [HVG.out]; exact ⟨rfl, hb9⟩)
                · have HVG := Lib.hid (show valueR 6 (bytesOf s) = none from HVF.out.trans (if_neg (fun h => by rcases h with h | h <;> omega)))
                  have hz1 : decide (0 ≤ z) = false := decide_eq_false hz0
                  go_wp2
                  obtain ⟨hq, hb9⟩ := ((HBY.out.kind lk).num z).told (.int .i64 0) (.int .i64 0) (.int .i64 0) (.int .i64 0)
                  obtain ⟨r0, r1, r2, r3⟩ := hq.four
                  exact bodyPost_ret (v := .tuple #[.agg #[.int .i64 0, .int .i64 0, .int .i64 0, .int .i64 0], .bool false]) (by simp [results, Tryz.results67, go_sem, r0, r1, r2, r3]) rfl (show ValPost 6 (valueR 6 (bytesOf s)) W _ _ by rw [HVG.out]; exact ⟨rfl, hb9⟩)
              | false =>
                go_wp2
                obtain ⟨hq, hb9⟩ := ((HBY.out.kind lk).num z).told (.int .i64 0) (.int .i64 0) (.int .i64 0) (.int .i64 0)
                obtain ⟨r0, r1, r2, r3⟩ := hq.four
                exact bodyPost_ret (v := .tuple #[.agg #[.int .i64 0, .int .i64 0, .int .i64 0, .int .i64 0], .bool false]) (by simp [results, Tryz.results67, go_sem, r0, r1, r2, r3]) rfl (show ValPost 6 (valueR 6 (bytesOf s)) W _ _ by rw [HVF.out]; exact ⟨rfl, hb9⟩)
          · cases hau : s.toList == [110, 111, 110, 101] with
            | true =>
              have HVG := Lib.hid (show valueR 7 (bytesOf s) = some (0, 0, 0) by unfold valueR; rw [if_neg HW0.out, if_neg (by omega), if_neg (by omega), if_neg (by omega), if_pos ⟨by omega, by rw [HAU.out, ← eq_bytes]; exact hau⟩])
              obtain ⟨c0, c1, c2, c3⟩ := HBX.out.dec.four
              obtain ⟨f0, f1, f2, f3⟩ := HBX.out.dec.fourFree
              obtain ⟨d0, d1, d2, d3⟩ := HBX.out.res.four
              obtain ⟨g0, g1, g2, g3⟩ := HBX.out.res.fourFree
              go_wp2
              obtain ⟨hq, hb9⟩ := (HBX.out).told (.int .i64 7) (.int .i64 0) (.int .i64 0) (.int .i64 0)
              obtain ⟨r0, r1, r2, r3⟩ := hq.four
              exact bodyPost_ret (v := .tuple #[.agg #[.int .i64 7, .int .i64 0, .int .i64 0, .int .i64 0], .bool true]) (by simp [results, Tryz.results67, go_sem, r0, r1, r2, r3]) rfl (show ValPost 7 (valueR 7 (bytesOf s)) W _ _ by rw [HVG.out]; exact ⟨rfl, hb9⟩)
            | false =>
              have HVE := Lib.hid (show valueR 7 (bytesOf s) = (lenR (bytesOf s)).bind fun x => if 0 ≤ x.2 ∨ ((8 : Int) ≤ 7 ∧ (7 : Int) ≤ 11) then some (0, x.1, x.2) else none by unfold valueR; rw [if_neg HW0.out, if_neg (by omega), if_neg (by omega), if_neg (by omega), if_neg (fun hc => by have := hc.2; rw [HAU.out, ← eq_bytes, hau] at this; cases this)])
              obtain ⟨c0, c1, c2, c3⟩ := HBX.out.dec.four
              obtain ⟨f0, f1, f2, f3⟩ := HBX.out.dec.fourFree
              obtain ⟨d0, d1, d2, d3⟩ := HBX.out.res.four
              obtain ⟨g0, g1, g2, g3⟩ := HBX.out.res.fourFree
              go_wp2_with fail
              refine (rlength_any s _ hs).mono ?_
              rintro e w2 ⟨lk, z, b, rfl, hz, hlk, hr, b2⟩
              have HBY := Lib.hid (HBX.out.under b2)
              rw [hr] at HVE
              have HVF := Lib.hid HVE.out
              clear hr HVE b2 c0 c1 c2 c3 f0 f1 f2 f3 d0 d1 d2 d3 g0 g1 g2 g3
              have hB2 := HBY.out.dec.size
              obtain ⟨c0, c1, c2, c3⟩ := HBY.out.dec.four
              obtain ⟨f0, f1, f2, f3⟩ := HBY.out.dec.fourFree
              obtain ⟨d0, d1, d2, d3⟩ := HBY.out.res.four
              obtain ⟨g0, g1, g2, g3⟩ := HBY.out.res.fourFree
              cases b with
              | true =>
                by_cases hz0 : 0 ≤ z
                · have HVG := Lib.hid (show valueR 7 (bytesOf s) = some (0, lk, z) from HVF.out.trans (if_pos (.inl hz0)))
                  go_wp2
                  obtain ⟨hq, hb9⟩ := ((HBY.out.kind lk).num z).told (.int .i64 7) (.int .i64 0) (.int .i64 lk) (.int .i64 z)
                  obtain ⟨r0, r1, r2, r3⟩ := hq.four
                  exact bodyPost_ret (v := .tuple #[.agg #[.int .i64 7, .int .i64 0, .int .i64 lk, .int .i64 z], .bool true]) (by simp [results, Tryz.results67, go_sem, r0, r1, r2, r3]) rfl (show ValPost 7 (valueR 7 (bytesOf s)) W _ _ by rw [HVG.out]; exact ⟨rfl, hb9⟩)
                · have HVG := Lib.hid (show valueR 7 (bytesOf s) = none from HVF.out.trans (if_neg (fun h => by rcases h with h | h <;> omega)))
                  have hz1 : decide (0 ≤ z) = false := decide_eq_false hz0
                  go_wp2
                  obtain ⟨hq, hb9⟩ := ((HBY.out.kind lk).num z).told (.int .i64 0) (.int .i64 0) (.int .i64 0) (.int .i64 0)
                  obtain ⟨r0, r1, r2, r3⟩ := hq.four
                  exact bodyPost_ret (v := .tuple #[.agg #[.int .i64 0, .int .i64 0, .int .i64 0, .int .i64 0], .bool false]) (by simp [results, Tryz.results67, go_sem, r0, r1, r2, r3]) rfl (show ValPost 7 (valueR 7 (bytesOf s)) W _ _ by rw [HVG.out]; exact ⟨rfl, hb9⟩)
              | false =>
                go_wp2
                obtain ⟨hq, hb9⟩ := ((HBY.out.kind lk).num z).told (.int .i64 0) (.int .i64 0) (.int .i64 0) (.int .i64 0)
                obtain ⟨r0, r1, r2, r3⟩ := hq.four
                exact bodyPost_ret (v := .tuple #[.agg #[.int .i64 0, .int .i64 0, .int .i64 0, .int .i64 0], .bool false]) (by simp [results, Tryz.results67, go_sem, r0, r1, r2, r3]) rfl (show ValPost 7 (valueR 7 (bytesOf s)) W _ _ by rw [HVF.out]; exact ⟨rfl, hb9⟩)
end Go.Proofs.YtbhdpfacfgldiaaGreatDoor
