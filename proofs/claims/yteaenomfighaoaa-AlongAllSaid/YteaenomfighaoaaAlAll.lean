import Derived.Test.YteaenomfighaoaaAlAwake
import Derived.Test.YteaenomfighaoaaAlTame
import Derived.Test.YteaenomfighaoaaRecSet
import Derived.Test.YteaenomfighaoaaAppTold
import Derived.Lib.MinMax
/- AlongAll: with room items stand in order, all within the room. -/
namespace Go.Proofs.Yteaenomfighaoaa
open Go Go.RowKit
set_option linter.unusedVariables false
set_option linter.unusedSimpArgs false
set_option maxRecDepth 20000
set_option maxHeartbeats 8000000

def absX (x : Al) : Al := ⟨max x.b (-x.b), max x.a (-x.a), x.ab, x.aa, x.s⟩
structure AlPs (x : Al) : Prop where
  b0 : 0 ≤ x.b
  b1 : x.b ≤ 50
  a0 : 0 ≤ x.a
  a1 : x.a ≤ 50
  s0 : 0 ≤ x.s
  s1 : x.s ≤ 50
  zb : x.ab = true → x.b = 0
  za : x.aa = true → x.a = 0
theorem AlPs.ok {x : Al} (h : AlPs x) : AlOk x := by obtain ⟨h1, h2, h3, h4, h5, h6, h7, h8⟩ := h; exact ⟨by omega, by omega, by omega, by omega, by omega, by omega, h7, h8⟩
theorem absX_ps {x : Al} (h : AlSm x) : AlPs (absX x) := by
  obtain ⟨h1, h2, h3, h4, h5, h6, h7, h8⟩ := h
  refine ⟨?_, ?_, ?_, ?_, ?_, ?_, fun e => ?_, fun e => ?_⟩ <;> simp only [absX] at *
  all_goals first | omega | (have := h7 e; omega) | (have := h8 e; omega)
def mixA (L : List Al) (k : Nat) : List Al := (L.take k).map absX ++ L.drop k
theorem mixA_len (L : List Al) (k : Nat) (h : k ≤ L.length) : (mixA L k).length = L.length := by unfold mixA; simp; omega
theorem mixA_get (L : List Al) {k : Nat} (h : k < L.length) : (mixA L k)[k]'(by rw [mixA_len L k (by omega)]; exact h) = L[k] := by
  unfold mixA
  rw [List.getElem_append_right (by simp; omega)]
  simp [Nat.min_eq_left (Nat.le_of_lt h)]
theorem mixA_set (L : List Al) {k : Nat} (h : k < L.length) : (mixA L k).set k (absX L[k]) = mixA L (k + 1) := by
  unfold mixA
  have hl : ((L.take k).map absX).length = k := by simp; omega
  rw [List.set_append_right _ _ (by omega), hl, Nat.sub_self, List.drop_eq_getElem_cons h, List.set_cons_zero, List.take_succ_eq_append_getElem h, List.map_append, List.append_assoc]; rfl
theorem mixA_new (L : List Al) {k : Nat} (h : k < L.length) : (mixA L (k + 1))[k]'(by rw [mixA_len L (k + 1) (by omega)]; exact h) = absX L[k] := by
  unfold mixA
  rw [List.getElem_append_left (by simp; omega)]
  simp
theorem mixA_all (L : List Al) : mixA L L.length = L.map absX := by unfold mixA; simp
theorem own_putAl {w : World} {B0 n c g : Nat} {L : List Al} (h : w.ownsRow B0 27 5 (.slice (some ⟨g, 0, none⟩) n c) n (L.flatMap alC)) {m j : Nat} (hm : m < L.length) (hj : j < 5) (v : Value) (x : Al) (hx : alC x = (alC L[m]).set j v) :
    (w.setCell ⟨g, m * 5 + j, none⟩ v).ownsRow B0 27 5 (.slice (some ⟨g, 0, none⟩) n c) n ((L.set m x).flatMap alC) := by
  have h1 := (h.stored (m * 5 + j) v).1
  rwa [rec_set alC_five j hj v L m hm x hx] at h1
theorem needA_snoc (l : List Al) (x : Al) : needA (l ++ [x]) = needA l + x.b + x.s + x.a := by unfold needA; rw [List.map_append, List.sum_append]; simp; omega
theorem needA_ps : ∀ (l : List Al), (∀ x ∈ l, AlPs x) → 0 ≤ needA l ∧ needA l ≤ 150 * (l.length : Int)
  | [], _ => by simp [needA]
  | x :: l, h => by
    have hx := h x (List.mem_cons_self ..)
    have := needA_ps l fun y hy => h y (List.mem_cons_of_mem _ hy)
    have := hx.b0; have := hx.b1; have := hx.a0; have := hx.a1; have := hx.s0; have := hx.s1
    rw [needA_cons, List.length_cons]; omega
theorem alall_any (l0 : List Al) (hl : l0.length ≤ 9223372036854775807) (A : Option Addr) (c : Nat) (more just : Int) (W : World) (hR : Row W W.heap.size A (l0.flatMap alC)) :
    Calls Try.prog 5 #[.slice A l0.length c, .int .i64 more, .int .i64 just] W fun e w' => e = .returned (.bool true) ∧ Below W.heap.size W w' := by
  have AW := Lib.hid (fun w => alawake_any w)
  have TM := Lib.hid (altame_any l0 hl A c true W hR)
  clear hR
  have k10 : ∀ x : Int, bits .and .i64 x 1023 = x % 1024 := fun x => and_mask_i64 x 10 (by decide)
  have k8 : ∀ x : Int, bits .and .i64 x 255 = x % 256 := fun x => and_mask_i64 x 8 (by decide)
  have t0 := Int.emod_nonneg more (show (1024 : Int) ≠ 0 by decide)
  have t1 := Int.emod_lt_of_pos more (show (0 : Int) < 1024 by decide)
  obtain ⟨t, ht⟩ : ∃ t, more % 1024 = t := ⟨_, rfl⟩
  rw [ht] at t0 t1
  obtain ⟨j, hj⟩ : ∃ j, just % 256 % 5 = j := ⟨_, rfl⟩
  have HJ := Lib.hid hj
  clear hj
  go_enter Try.func5, Try.ntmps5
  go_wp2_with fail
  refine TM.out.mono ?_
  rintro e w1 ⟨L, A1, c1, rfl, o1, hl20, htm, hb1⟩
  have HPS : Hid (∀ x ∈ L, AlPs (absX x)) := Lib.hid (fun x hx => absX_ps ((htm x hx).2 rfl))
  have HSM : Hid (∀ x ∈ L, AlSm x) := Lib.hid (fun x hx => (htm x hx).2 rfl)
  have O1 : Hid (w1.ownsRow W.heap.size 27 5 (.slice A1 L.length c1) L.length ((mixA L 0).flatMap alC)) := Lib.hid (by simpa [mixA] using o1)
  have B1 := Lib.hid hb1
  clear o1 hb1 TM htm
  obtain ⟨n, hn⟩ : ∃ n, L.length = n := ⟨_, rfl⟩
  have HN := Lib.hid hn
  rw [hn] at hl20 O1 ⊢
  clear hn
  go_wp2_with fail
  go_loopw [8, 9] (fun v8 v9 wr => ∃ k : Nat, v8 = .int .i64 (needA ((L.take k).map absX)) ∧ v9 = .int .i64 k ∧ k ≤ n ∧ Hid (wr.ownsRow W.heap.size 27 5 (.slice A1 n c1) n ((mixA L k).flatMap alC)) ∧ Hid (Below W.heap.size W wr)) (fun _ v9 _ => n - (intOf v9).toNat)
  case atStart => exact ⟨0, by simp [needA], rfl, Nat.zero_le _, O1, B1⟩
  case round =>
    clear O1 B1
    generalize wr = w2 at *
    obtain ⟨k, rfl, rfl, hk, O2, B2⟩ := hrel
    have hps : ∀ x ∈ (L.take k).map absX, AlPs x := fun x hx => by
      obtain ⟨y, hy, rfl⟩ := List.mem_map.1 hx
      exact HPS.out y (List.mem_of_mem_take hy)
    have hnd := needA_ps _ hps
    rw [List.length_map, List.length_take] at hnd
    clear hps
    by_cases hlt : k < n
    · have hltz : (k : Int) < n := by omega
      have hkl : k < L.length := by rw [HN.out]; exact hlt
      obtain ⟨g, hg⟩ := own_head O2.out (by omega)
      subst hg
      have hml : k < (mixA L k).length := by rw [mixA_len L k (by omega)]; exact hkl
      obtain ⟨a1, he1, hab1, d0, d1, d2, d3, d4⟩ := Row.al (row_of_own O2.out) hml
      injection he1 with he1
      subst he1
      rw [mixA_get L hkl] at d0 d1 d2
      have hx := HSM.out _ (List.getElem_mem hkl)
      have ET : Hid (needA ((L.take (k + 1)).map absX) = needA ((L.take k).map absX) + (absX L[k]).b + (absX L[k]).s + (absX L[k]).a) := Lib.hid (by
        rw [List.take_succ_eq_append_getElem hkl, List.map_append]; exact needA_snoc _ _)
      have MS := Lib.hid (mixA_set L hkl)
      have MG := Lib.hid (mixA_get L hkl)
      have MN := Lib.hid (mixA_new L hkl)
      obtain ⟨x, hxe⟩ : ∃ x, L[k] = x := ⟨_, rfl⟩
      rw [hxe] at d0 d1 d2 hx ET MS MG MN
      clear hxe d3 d4
      obtain ⟨s, hs⟩ : ∃ s, needA ((L.take k).map absX) = s := ⟨_, rfl⟩
      rw [hs] at ET hnd ⊢
      clear hs
      rw [head_add] at d0 d1 d2
      have b0 := hx.b0
      have b1 := hx.b1
      have a0 := hx.a0
      have a9 := hx.a1
      have s0 := hx.s0
      have s1 := hx.s1
      clear hx
      have f0 := O2.out.frozenAt (k * 5)
      have f1 := O2.out.frozenAt (k * 5 + 1)
      have n1 : -9223372036854775808 ≤ -x.b ∧ -x.b ≤ 9223372036854775807 := by omega
      have n2 : -9223372036854775808 ≤ -x.a ∧ -x.a ≤ 9223372036854775807 := by omega
      go_upto_region 6 with fail
      go_region
      obtain ⟨nb, hnb⟩ : ∃ z, max x.b (-x.b) = z := ⟨_, rfl⟩
      obtain ⟨na, hna⟩ : ∃ z, max x.a (-x.a) = z := ⟨_, rfl⟩
      have HX : Hid (absX x = ⟨nb, na, x.ab, x.aa, x.s⟩) := Lib.hid (by rw [← hnb, ← hna]; rfl)
      have e1 : 0 ≤ nb ∧ nb ≤ 50 := by omega
      have e2 : 0 ≤ na ∧ na ≤ 50 := by omega
      rw [hnb, hna]
      rw [HX.out] at ET MS
      clear hnb hna n1 n2 d0 d1 f0 f1
      obtain ⟨w3, hO, hB, hw3⟩ : ∃ w3, w3.ownsRow W.heap.size 27 5 (.slice (some ⟨g, 0, none⟩) n c1) n ((mixA L (k + 1)).flatMap alC) ∧ Below W.heap.size W w3 ∧
          w3 = ((w2.setCell ⟨g, k * 5, none⟩ (.int .i64 nb)).setCell ⟨g, k * 5 + 1, none⟩ (.int .i64 na)).drew := by
        refine ⟨_, ?_, ?_, rfl⟩
        · have o1 := own_putAl O2.out hml (show 0 < 5 by decide) (.int .i64 nb) ⟨nb, x.a, x.ab, x.aa, x.s⟩ (by rw [MG.out]; rfl)
          have o2 := own_putAl o1 (m := k) (by rw [List.length_set]; exact hml) (show 1 < 5 by decide) (.int .i64 na) ⟨nb, na, x.ab, x.aa, x.s⟩ (by rw [List.getElem_set_self]; rfl)
          rw [List.set_set, MS.out] at o2
          exact own_below o2 (Below.drewN' (Below.refl _ _) 1) (Nat.le_refl _)
        · have lg := (O2.out.lt g rfl).1
          exact Below.drewN' ((B2.out.setCell (p := ⟨g, k * 5, none⟩) lg _).setCell (p := ⟨g, k * 5 + 1, none⟩) lg _) 1
      rw [← hw3]
      have O3 := Lib.hid hO
      have B3 := Lib.hid hB
      clear hO hB hw3 O2 B2 MS MG d2
      have hml3 : k < (mixA L (k + 1)).length := by rw [mixA_len L (k + 1) (by omega)]; exact hkl
      have MG3 : (mixA L (k + 1))[k] = absX x := MN.out
      obtain ⟨a1, he1, hab1, d0, d1, d2, d3, d4⟩ := Row.al (row_of_own O3.out) hml3
      injection he1 with he1
      subst he1
      rw [MG3, HX.out, head_add] at d0 d1 d2
      clear d3 d4 MG3 HX
      have c0 : ∀ m, (w3.drewN m).cell? ⟨g, k * 5, none⟩ = some (.int .i64 nb) := fun m => d0
      have c1 : ∀ m, (w3.drewN m).cell? ⟨g, k * 5 + 1, none⟩ = some (.int .i64 na) := fun m => d1
      have c2 : ∀ m, (w3.drewN m).cell? ⟨g, k * 5 + 2, none⟩ = some (.int .i64 x.s) := fun m => d2
      have n1 : -9223372036854775808 ≤ s + nb ∧ s + nb ≤ 9223372036854775807 := by omega
      have n2 : -9223372036854775808 ≤ s + nb + x.s ∧ s + nb + x.s ≤ 9223372036854775807 := by omega
      have n3 : -9223372036854775808 ≤ s + nb + x.s + na ∧ s + nb + x.s + na ≤ 9223372036854775807 := by omega
      clear d0 d1 d2
      go_upto_region 7 with fail
      go_quiet (fail)
      have O4 := Lib.hid (own_below O3.out (Below.drewN' (Below.refl _ w3) nq) (Nat.le_refl _))
      have B4 := Lib.hid (Below.drewN' B3.out nq)
      clear c0 c1 c2 O3 B3
      generalize w3.drewN nq = w4 at *
      go_wp2_with fail
      go_roundw
      case rel => exact ⟨k + 1, by rw [ET.out], by go_num, by omega, O4, B4⟩
      case measure => simp [intOf] <;> omega
    · obtain rfl : n = k := by omega
      have hltz : ¬ (n : Int) < n := by omega
      have e0 : L.take n = L := List.take_of_length_le (by rw [HN.out]; omega)
      rw [e0] at hnd ⊢
      rw [show mixA L n = L.map absX by rw [← HN.out]; exact mixA_all L] at O2
      clear e0
      have hpsL : ∀ x ∈ L.map absX, AlPs x := fun x hx => by
        obtain ⟨y, hy, rfl⟩ := List.mem_map.1 hx
        exact HPS.out y hy
      have hml : (L.map absX).length = n := by rw [List.length_map, HN.out]
      obtain ⟨M, hM⟩ : ∃ M, L.map absX = M := ⟨_, rfl⟩
      rw [hM] at O2 hnd hpsL hml ⊢
      clear hM HSM HPS
      have hok : ∀ x ∈ M, AlOk x := fun x hx => (hpsL x hx).ok
      have hfr : freeA (needA M + t) M = t := by unfold freeA; omega
      have PB := Lib.hid (fun k (hk : k < M.length) => posA_bd (f := t) (j := j) hok (by omega) (by omega) hk)
      have FIT := Lib.hid (atA_fit (f := t) (l := M) (j := j) t0 (by omega) (by omega))
      have hinn : -35184372088832 ≤ needA M + t ∧ needA M + t ≤ 35184372088832 := by omega
      have CP := Lib.hid (fun (w : World) (h : Row w w.heap.size A1 (M.flatMap alC)) => (along_any M A1 c1 (needA M + t) j false w h hok (by omega) hinn).mono fun e w' hp => pl_row hp rfl hml)
      have CQ := Lib.hid (fun (w : World) (h : Row w w.heap.size A1 (M.flatMap alC)) => (along_any M A1 c1 (needA M + t) j true w h hok (by omega) hinn).mono fun e w' hp => pl_row hp rfl hml)
      rw [hml] at CP CQ
      have LP : Hid ((placeA (needA M + t) M j false).length = n) := Lib.hid (by rw [placeA_len, hml])
      have LQ : Hid ((placeA (needA M + t) M j true).length = n) := Lib.hid (by rw [placeA_len, hml])
      have EP := Lib.hid (fun k (h : k < M.length) (h' : k < (placeA (needA M + t) M j false).length) => placeA_at (inner := needA M + t) (l := M) (j := j) (rev := false) rfl h h')
      have EQ := Lib.hid (fun k (h : k < M.length) (h' : k < (placeA (needA M + t) M j true).length) => placeA_at (inner := needA M + t) (l := M) (j := j) (rev := true) rfl h h')
      rw [hfr] at EP EQ
      have HPM := Lib.hid hpsL
      have HML := Lib.hid hml
      rw [hml] at FIT
      have R2 := Lib.hid (row_of_own O2.out)
      generalize placeA (needA M + t) M j false = P at *
      generalize placeA (needA M + t) M j true = Q at *
      obtain ⟨s, hs⟩ : ∃ s, needA M = s := ⟨_, rfl⟩
      rw [hs] at hnd FIT EP EQ CP CQ ⊢
      have nst : -9223372036854775808 ≤ s + t ∧ s + t ≤ 9223372036854775807 := by omega
      clear hok hfr hinn hpsL hml hs O2
      go_upto_region 10 with fail
      rw [HJ.out]
      clear ht k10 k8
      obtain ⟨inn, hin⟩ : ∃ z, s + t = z := ⟨_, rfl⟩
      rw [hin] at EP EQ CP CQ ⊢
      have hi1 : 0 ≤ inn ∧ inn ≤ 35184372088832 := by omega
      have HI : Hid (t + s = inn) := Lib.hid (by omega)
      clear hin nst
      go_wp2_with fail
      refine (CP.out _ R2.out).mono ?_
      rintro e w3 ⟨A2, c2, rfl, r3, hb3⟩
      have R3 := Lib.hid r3
      have S3 := Lib.hid ((R2.out.below hb3).more hb3.size)
      have B3 := Lib.hid (B2.out.trans (hb3.mono B2.out.size))
      clear r3 hb3 R2 B2
      go_wp2_with fail
      refine (CQ.out _ S3.out).mono ?_
      rintro e w4 ⟨A3, c3, rfl, r4, hb4⟩
      have RQ := Lib.hid r4
      have RP := Lib.hid ((R3.out.below hb4).more hb4.size)
      have RM := Lib.hid ((S3.out.below hb4).more hb4.size)
      have B4 := Lib.hid (B3.out.trans (hb4.mono B3.out.size))
      clear r4 hb4 R3 S3 B3 CP CQ
      go_wp2_with fail
      go_loopw [13, 14] (fun v13 v14 wr => ∃ (i : Nat) (a : Int), v13 = .int .i64 a ∧ v14 = .int .i64 i ∧ i ≤ n ∧ -2000000000000000 ≤ a ∧ a ≤ 3000000000000000 ∧ Hid (a ≤ atA t M j i) ∧ Hid (Below w4.heap.size w4 wr)) (fun _ v14 _ => n - (intOf v14).toNat)
      case atStart => exact ⟨0, 0, rfl, rfl, Nat.zero_le _, by omega, by omega, Lib.hid (by rw [atA_zero]; exact (startA_bd t M j).2.2 t0), Lib.hid (Below.refl _ _)⟩
      case round =>
        generalize wr = w5 at *
        obtain ⟨i, a, rfl, rfl, hi, ha1, ha2, HA, B5⟩ := hrel
        by_cases hlt : i < n
        · have hltz : (i : Int) < n := by omega
          have him : i < M.length := by rw [HML.out]; exact hlt
          have hip : i < P.length := by rw [LP.out]; exact hlt
          have hiq : i < Q.length := by rw [LQ.out]; exact hlt
          obtain ⟨a1, rfl, hab1, d0, d1, d2, d3, d4⟩ := Row.al (RM.out.below B5.out) him
          obtain ⟨a2, rfl, hab2, dp⟩ := (RP.out.below B5.out).int hip
          obtain ⟨a3, rfl, hab3, dq⟩ := (RQ.out.below B5.out).int hiq
          have hx := HPM.out _ (List.getElem_mem him)
          have e1 := EP.out i him hip
          have e2 := EQ.out i him hiq
          obtain ⟨p1, p2, g1, g2, g3, g4, p3, p4⟩ := PB.out i him
          have hpos : posA t M j i = atA t M j i + gap1 t M j i + M[i].b := by unfold posA; rw [getA Al.b 0 him]
          have hnx := atA_succ t M j him
          have hat := HA.out
          rw [e1] at dp
          rw [e2] at dq
          simp only [Bool.false_eq_true, if_false, if_true] at dp dq
          obtain ⟨p, hp⟩ : ∃ p, posA t M j i = p := ⟨_, rfl⟩
          rw [hp] at p3 p4 dp dq hpos hnx
          obtain ⟨x, hxe⟩ : ∃ x, M[i] = x := ⟨_, rfl⟩
          rw [hxe] at d0 d1 d2 dq hx hpos hnx
          have b0 := hx.b0
          have b1 := hx.b1
          have x0 := hx.a0
          have x1 := hx.a1
          have s0 := hx.s0
          have s1 := hx.s1
          obtain ⟨q, hq⟩ : ∃ q, inn - p - x.s = q := ⟨_, rfl⟩
          rw [hq] at dq
          have HNX : Hid (p + x.s + x.a ≤ atA t M j (i + 1)) := Lib.hid (by omega)
          have n1 : -9223372036854775808 ≤ a + x.b ∧ a + x.b ≤ 9223372036854775807 := by omega
          have n2 : -9223372036854775808 ≤ inn - p ∧ inn - p ≤ 9223372036854775807 := by omega
          have n3 : -9223372036854775808 ≤ inn - p - x.s ∧ inn - p - x.s ≤ 9223372036854775807 := by omega
          have n4 : -9223372036854775808 ≤ p + x.s ∧ p + x.s ≤ 9223372036854775807 := by omega
          have n5 : -9223372036854775808 ≤ p + x.s + x.a ∧ p + x.s + x.a ≤ 9223372036854775807 := by omega
          have z1 : decide (p < a + x.b) = false := decide_eq_false (by omega)
          have z2 : (q != inn - p - x.s) = false := by rw [bne_eq_false_iff_eq]; omega
          have q1 : -2000000000000000 ≤ p + x.s + x.a ∧ p + x.s + x.a ≤ 3000000000000000 := by omega
          clear hx e1 e2 hp hxe hq d3 d4 p1 p2 g1 g2 g3 g4 p3 p4 hpos hnx hat b0 b1 x0 x1 s0 s1
          have c0 : ∀ m, (w5.drewN m).cell? (a1.add (i * 5)) = some (.int .i64 x.b) := fun m => d0
          have c2 : ∀ m, (w5.drewN m).cell? ⟨(a1.add (i * 5)).block, (a1.add (i * 5)).off + 2, none⟩ = some (.int .i64 x.s) := fun m => d2
          have cp : ∀ m, (w5.drewN m).cell? (a2.add i) = some (.int .i64 p) := fun m => dp
          have cq : ∀ m, (w5.drewN m).cell? (a3.add i) = some (.int .i64 q) := fun m => dq
          have D1 := Lib.hid d1
          have D2 := Lib.hid d2
          have DP := Lib.hid dp
          go_upto_region 17 with fail
          go_quiet (fail)
          have B6 := Lib.hid (Below.drewN' B5.out nq)
          have y1 : (w5.drewN nq).cell? ⟨(a1.add (i * 5)).block, (a1.add (i * 5)).off + 1, none⟩ = some (.int .i64 x.a) := D1.out
          have y2 : (w5.drewN nq).cell? ⟨(a1.add (i * 5)).block, (a1.add (i * 5)).off + 2, none⟩ = some (.int .i64 x.s) := D2.out
          have yp : (w5.drewN nq).cell? (a2.add i) = some (.int .i64 p) := DP.out
          clear c0 c2 cp cq d0 d1 d2 dp dq D1 D2 DP B5 z1 z2 n1 n2 n3
          generalize w5.drewN nq = w6 at *
          have c1 : ∀ m, (w6.drewN m).cell? ⟨(a1.add (i * 5)).block, (a1.add (i * 5)).off + 1, none⟩ = some (.int .i64 x.a) := fun m => y1
          have c2 : ∀ m, (w6.drewN m).cell? ⟨(a1.add (i * 5)).block, (a1.add (i * 5)).off + 2, none⟩ = some (.int .i64 x.s) := fun m => y2
          have cp : ∀ m, (w6.drewN m).cell? (a2.add i) = some (.int .i64 p) := fun m => yp
          go_upto_region 19 with fail
          go_quiet (fail)
          have B7 := Lib.hid (Below.drewN' B6.out nq)
          clear c1 c2 cp y1 y2 yp B6
          generalize w6.drewN nq = w7 at *
          go_wp2_with fail
          go_roundw
          case rel => exact ⟨i + 1, p + x.s + x.a, rfl, by go_num, by omega, q1.1, q1.2, HNX, B7⟩
          case measure => simp [intOf] <;> omega
        · obtain rfl : n = i := by omega
          have hltz : ¬ (n : Int) < n := by omega
          have z1 : decide (a ≤ inn) = true := decide_eq_true (by have := HA.out; have := FIT.out; have := HI.out; omega)
          have B6 := Lib.hid (B4.out.trans (B5.out.mono B4.out.size))
          go_wp2_with fail
          refine (AW.out _).mono ?_
          rintro e w6 ⟨rfl, hb6⟩
          have B7 := Lib.hid (B6.out.trans (hb6.mono B6.out.size))
          clear hb6
          go_wp2_with fail
          go_ret
          exact ⟨rfl, B7.out⟩
end Go.Proofs.Yteaenomfighaoaa
