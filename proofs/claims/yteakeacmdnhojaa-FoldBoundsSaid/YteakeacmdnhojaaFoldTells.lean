import Derived.Test.YteakeacmdnhojaaFoldAwake
import Derived.Test.YteakeacmdnhojaaPush
/- FoldTells answers true. -/
namespace Go.Proofs.Yteakeacmdnhojaa
open Go Go.RowKit
set_option linter.unusedVariables false
set_option linter.unusedSimpArgs false
set_option maxRecDepth 20000
set_option maxHeartbeats 4000000

def fdsZ (zs : List Int) : List Fd := zs.map fun z => oneF (ftameZ z)
theorem fdsZ_take (zs : List Int) (k : Nat) (h : k < zs.length) : fdsZ (zs.take (k + 1)) = fdsZ (zs.take k) ++ [oneF (ftameZ zs[k])] := by
  unfold fdsZ; rw [List.take_succ_eq_append_getElem h, List.map_append]; rfl
theorem foldF_step (zs : List Int) (k : Nat) (h : k < zs.length) : max (foldF (fdsZ (zs.take k))).p (ftameZ zs[k]) = (foldF (fdsZ (zs.take (k + 1)))).p ∧ min (foldF (fdsZ (zs.take k))).q (ftameZ zs[k]) = (foldF (fdsZ (zs.take (k + 1)))).q := by
  obtain ⟨s1, s2⟩ := foldF_sgn (fdsZ (zs.take k))
  rw [fdsZ_take zs k h, foldF_snoc]
  unfold joinS oneF
  simp only
  omega
theorem own_addr {w : World} {b e size : Nat} {ad : Addr} {n c : Nat} {xs : List Value} (h : w.ownsRow b e size (.slice (some ad) n c) n xs) : ∃ g, ad = ⟨g, 0, none⟩ := by
  rcases h.2 with ⟨h0, _⟩ | ⟨g, cap, cur, hv, _⟩
  · cases h0
  · injection hv with h1 _ _
    injection h1 with h1
    exact ⟨g, h1⟩
theorem backF_length (l : List Fd) : (backF l).length = 2 * l.length := by
  unfold backF
  induction l with
  | nil => rfl
  | cons f l ih => rw [List.reverse_cons, List.flatMap_append, List.length_append, ih]; simp; omega
theorem fjoin_two (a b r : Fd) (h : foldF [a, b] = r) (g : Nat) (w : World) (hg : w.heap[g]? = some (.cells #[.int .i64 a.p, .int .i64 a.q, .int .i64 b.p, .int .i64 b.q] 27 (0, 0))) :
    Calls Try.prog 9 #[.slice (some ⟨g, 0, none⟩) 2 2] w fun e w' => e = .returned (fdV r) ∧ Below w.heap.size w w' := by
  subst h
  have hW : Whole w g 27 [.int .i64 a.p, .int .i64 a.q, .int .i64 b.p, .int .i64 b.q] := hg
  exact fjoin_any [a, b] (some ⟨g, 0, none⟩) 2 w (fun _ => ⟨_, rfl, hW.size, fun i hi => by rw [head_add, hW.cell i]; exact List.getElem?_eq_getElem hi⟩) (by simp)
theorem fjoin_one (a r : Fd) (h : foldF [a] = r) (g : Nat) (w : World) (hg : w.heap[g]? = some (.cells #[.int .i64 a.p, .int .i64 a.q] 27 (0, 0))) :
    Calls Try.prog 9 #[.slice (some ⟨g, 0, none⟩) 1 1] w fun e w' => e = .returned (fdV r) ∧ Below w.heap.size w w' := by
  subst h
  have hW : Whole w g 27 [.int .i64 a.p, .int .i64 a.q] := hg
  exact fjoin_any [a] (some ⟨g, 0, none⟩) 1 w (fun _ => ⟨_, rfl, hW.size, fun i hi => by rw [head_add, hW.cell i]; exact List.getElem?_eq_getElem hi⟩) (by simp)
theorem fjoin_part (l : List Fd) (A : Option Addr) (c k t : Nat) (r : Fd) (w : World) (h : Row w w.heap.size A (l.flatMap fdC)) (hl : l.length = t) (hk : k ≤ t) (hr : foldF (l.take k) = r) (ht : t ≤ 1000) :
    Calls Try.prog 9 #[.slice A k c] w fun e w' => e = .returned (fdV r) ∧ Below w.heap.size w w' := by
  subst hr
  have e : (l.take k).length = k := by rw [List.length_take]; omega
  have R : Row w w.heap.size A ((l.take k).flatMap fdC) := fun hn => by
    have hle : ((l.take k).flatMap fdC).length ≤ (l.flatMap fdC).length := by rw [rec_len fdC_len, rec_len fdC_len]; omega
    obtain ⟨ad, e1, e2, e3⟩ := h (by omega)
    refine ⟨ad, e1, e2, fun i hi => ?_⟩
    rw [e3 i (by omega)]
    have e4 : l.flatMap fdC = (l.take k).flatMap fdC ++ (l.drop k).flatMap fdC := by rw [← List.flatMap_append, List.take_append_drop]
    simp only [e4]
    rw [List.getElem_append_left hi]
  have := fjoin_any (l.take k) A c w R (by omega)
  rwa [e] at this
theorem fjoin_rest (l : List Fd) (g c k t : Nat) (r : Fd) (ab : Option Addr) (m cm : Nat) (w : World) (h : Row w w.heap.size (some ⟨g, 0, none⟩) (l.flatMap fdC)) (hl : l.length = t) (hk : k ≤ t) (hc : k ≤ c) (hr : foldF (l.drop k) = r) (ht : t ≤ 1000)
    (hab : (if c = k then some (⟨g, 0, none⟩ : Addr) else some ⟨g, k * 2, none⟩) = ab) (hm : t - k = m) (hcm : c - k = cm) (htc : t ≤ c) :
    Calls Try.prog 9 #[.slice ab m cm] w fun e w' => e = .returned (fdV r) ∧ Below w.heap.size w w' := by
  subst hr
  subst hm
  have e : (l.drop k).length = t - k := by rw [List.length_drop]; omega
  have R : Row w w.heap.size ab ((l.drop k).flatMap fdC) := fun hn => by
    rw [rec_len fdC_len] at hn
    obtain ⟨ad, e1, e2, e3⟩ := h (by rw [rec_len fdC_len]; omega)
    injection e1 with e1
    subst e1
    rw [if_neg (by omega)] at hab
    refine ⟨_, hab.symm, e2, fun i hi => ?_⟩
    have e4 : l.flatMap fdC = (l.take k).flatMap fdC ++ (l.drop k).flatMap fdC := by rw [← List.flatMap_append, List.take_append_drop]
    have e5 : ((l.take k).flatMap fdC).length = k * 2 := by rw [rec_len fdC_len, List.length_take]; congr 1; omega
    have e6 : k * 2 + i < (l.flatMap fdC).length := by rw [e4, List.length_append, e5]; omega
    have e7 := e3 (k * 2 + i) e6
    have e8 : (⟨g, k * 2, none⟩ : Addr).add i = (⟨g, 0, none⟩ : Addr).add (k * 2 + i) := by rw [head_add]; unfold Addr.add; split <;> simp_all
    rw [e8, e7]
    simp only [e4]
    rw [List.getElem_append_right (by omega)]
    simp only [e5, Nat.add_sub_cancel_left]
  have := fjoin_any (l.drop k) ab cm w R (by omega)
  rwa [e] at this
theorem own_push {W w w' : World} {B : Nat} {v : Value} {e size n : Nat} {xs : List Value} (ho : w.ownsRow B e size v n xs) (hB : Below B W w) (hw : B ≤ w.heap.size) (h : Only v.ownBlock.toList w w') : Below B W w' :=
  hB.trans (h.below (fun x hx => (ho.lt x (by simpa using hx)).1) hw)
theorem foldTells_any (zs : List Int) (A : Option Addr) (c : Nat) (b0 : Int) (W : World) (hR : Row W W.heap.size A (i64s zs)) (hm : zs.length ≤ 9223372036854775807) :
    Calls Try.prog 4 #[.slice A zs.length c, .int .i64 b0] W fun e w' => e = .returned (.bool true) ∧ Below W.heap.size W w' := by
  have HR := Lib.hid hR
  clear hR
  go_enter Try.func4, Try.ntmps4
  by_cases hl : 100 < zs.length
  · have hl' : (100 : Int) < zs.length := by omega
    go_wp2_with fail
    refine (fdawake_any _).mono ?_
    rintro e w1 ⟨rfl, hb⟩
    go_wp2_with fail
    go_ret
    exact ⟨rfl, hb⟩
  have hl' : ¬ (100 : Int) < zs.length := by omega
  go_upto_region 6 with fail
  go_loopw [5, 6, 7, 9, 10] (fun v5 v6 v7 v9 v10 wr => ∃ (A1 : Option Addr) (c1 k : Nat), k ≤ zs.length ∧ v5 = .int .i64 (foldF (fdsZ (zs.take k))).p ∧ v6 = .int .i64 (foldF (fdsZ (zs.take k))).q ∧ v7 = .slice A1 k c1 ∧ v9 = .int .i64 k ∧
    Hid (wr.ownsRow W.heap.size 27 2 (.slice A1 k c1) k ((fdsZ (zs.take k)).flatMap fdC)) ∧ Hid (Below W.heap.size W wr)) (fun _ _ _ v9 _ _ => zs.length - (intOf v9).toNat)
  case atStart => exact ⟨none, 0, 0, Nat.zero_le _, rfl, rfl, rfl, rfl, Lib.hid ⟨rfl, .inl ⟨rfl, rfl⟩⟩, Lib.hid (Below.refl _ _)⟩
  case round =>
    obtain ⟨A1, c1, k, hk, rfl, rfl, rfl, rfl, HO, HB⟩ := hrel
    by_cases hlt : k < zs.length
    · have hki : (k : Int) < zs.length := by omega
      obtain ⟨ad, rfl, hb, r0⟩ := (HR.out.below HB.out).int hlt
      obtain ⟨e1, e2⟩ := foldF_step zs k hlt
      have E3 := Lib.hid (fdsZ_take zs k hlt)
      have E1 := Lib.hid e1
      have E2 := Lib.hid e2
      clear e1 e2
      generalize zs[k] = z at *
      go_wp2_with fail
      refine (ftame_any z _).mono ?_
      rintro e w' ⟨rfl, rfl⟩
      generalize ftameZ z = t at *
      go_upto_region 10 with fail
      rw [E1.out, E2.out]
      go_wp2_with fail
      refine (fof_any t _).mono ?_
      rintro e w2 ⟨rfl, hb2⟩
      have O2 := Lib.hid (own_below HO.out hb2 (Nat.le_refl _))
      have B2 := Lib.hid (HB.out.trans (hb2.mono HB.out.size))
      clear hb2 HO HB r0
      have hsz := B2.out.size
      go_wp2_with (at_builtin; refine wpList_pushOne rfl (.tmp 35) (.tmp 38) _ rfl W.heap.size 27 2 16 fdV0 Try.underlying24 fd_info rfl (by decide) k (.slice A1 k c1) _ rfl (own_below O2.out ((Below.refl _ w2).alloc (Nat.le_refl _) (.cells #[.int .i64 (max t 0), .int .i64 (min t 0)] 27)) (Nat.le_refl _)) (by simp; omega) w2.heap.size [.int .i64 (max t 0), .int .i64 (min t 0)] rfl (Whole.mk w2 27 #[.int .i64 (max t 0), .int .i64 (min t 0)]) rfl (by simp [Value.oneCell']) (by unfold maxLen; omega) (by omega) ?_; intro A5 c5 w5 h5 ho5 hk5)
      have O5 : Hid (w5.ownsRow W.heap.size 27 2 (.slice A5 (k + 1) c5) (k + 1) ((fdsZ (zs.take (k + 1))).flatMap fdC)) := Lib.hid (by
        rw [E3.out, List.flatMap_append]; exact h5)
      have B5 := Lib.hid (own_push (own_below O2.out ((Below.refl _ w2).alloc (Nat.le_refl _) (.cells #[.int .i64 (max t 0), .int .i64 (min t 0)] 27)) (Nat.le_refl _)) (B2.out.alloc hsz _) (by simp; omega) ho5)
      clear h5 ho5 hk5 O2 B2
      go_wp2_with fail
      go_roundw
      case rel => exact ⟨A5, c5, k + 1, by omega, rfl, rfl, by go_num, by go_num, O5, B5⟩
      case measure => simp [intOf]; omega
    · have hq : k = zs.length := by omega
      subst hq
      have HO2 := Lib.hid (show wr.ownsRow W.heap.size 27 2 (.slice A1 zs.length c1) zs.length ((fdsZ zs).flatMap fdC) by have := HO.out; rwa [List.take_length] at this)
      rw [List.take_length]
      clear HO hk
      rename World => wa
      have HBL : Hid (∀ f ∈ fdsZ zs, f.p ≤ 1099511627776 ∧ -1099511627776 ≤ f.q) := Lib.hid (fun f hf => by
        unfold fdsZ at hf
        obtain ⟨z, -, rfl⟩ := List.mem_map.1 hf
        have := ftameZ_bd z
        unfold oneF; simp only; omega)
      have HL := Lib.hid (show (fdsZ zs).length = zs.length by unfold fdsZ; rw [List.length_map])
      generalize fdsZ zs = l at *
      generalize hn : zs.length = n at *
      clear HR
      have R1 := Lib.hid (row_of_own HO2.out)
      have HC : Hid (n ≤ c1 ∧ (A1 = none → c1 = 0)) := Lib.hid (by obtain ⟨A', c', e, h1, -, h2⟩ := owns_nil HO2.out; injection e with e1 e2 e3; subst e1 e3; exact ⟨h1, h2⟩)
      have E0 : Hid (∀ ad, A1 = some ad → ∃ g, ad = ⟨g, 0, none⟩) := Lib.hid fun ad e => by subst e; exact own_addr HO2.out
      have B1 := HB
      have sB := B1.out.size
      clear HO2
      go_upto_region 12 with fail
      go_loopw [8, 11] (fun v8 v11 w2 => ∃ (A2 : Option Addr) (c2 t : Nat), t ≤ n ∧ v8 = .slice A2 (2 * t) c2 ∧ v11 = .int .i64 ((n : Int) - 1 - t) ∧
        Hid (w2.ownsRow wa.heap.size 27 2 (.slice A2 (2 * t) c2) (2 * t) ((backF (l.drop (n - t))).flatMap fdC)) ∧ Hid (Below wa.heap.size wa w2)) (fun _ v11 _ => (intOf v11 + 1).toNat)
      case atStart => exact ⟨none, 0, 0, Nat.zero_le _, rfl, by go_num, Lib.hid (by rw [Nat.sub_zero, List.drop_eq_nil_of_le (Nat.le_of_eq HL.out)]; exact ⟨rfl, .inl ⟨rfl, rfl⟩⟩), Lib.hid (Below.refl _ _)⟩
      case round =>
        obtain ⟨A2, c2, t, ht, rfl, rfl, HO, HB2⟩ := hrel
        by_cases hlt : t < n
        · have hge : (0 : Int) ≤ (n : Int) - 1 - t := by omega
          have hi : n - 1 - t < l.length := by rw [HL.out]; omega
          have hie : (n : Int) - 1 - t = ((n - 1 - t : Nat) : Int) := by omega
          have HD : Hid (backF (l.drop (n - (t + 1))) = backF (l.drop (n - t)) ++ [l[n - 1 - t], l[n - 1 - t]]) := Lib.hid (by
            have e1 : n - (t + 1) = n - 1 - t := by omega
            have e2 : n - t = (n - 1 - t) + 1 := by omega
            rw [e1, e2, List.drop_eq_getElem_cons hi]
            unfold backF
            rw [List.reverse_cons, List.flatMap_append]; rfl)
          rw [hie]
          generalize n - 1 - t = i at *
          go_upto_region 14 with fail
          obtain ⟨ad, hA, hab, r0, r1⟩ := (R1.out.below HB2.out).fd hi
          have Y : Hid (∀ s : Later wr.heap.size wr, s.w.cell? (ad.add (i * 2)) = some (.int .i64 l[i].p) ∧ s.w.cell? ⟨(ad.add (i * 2)).block, (ad.add (i * 2)).off + 1, none⟩ = some (.int .i64 l[i].q)) := Lib.hid (fun s => by
            obtain ⟨ad', hA', -, q0, q1⟩ := (R1.out.below (HB2.out.trans (s.h.mono HB2.out.size))).fd hi
            rw [hA] at hA'; injection hA' with hA'; subst hA'
            exact ⟨q0, q1⟩)
          subst hA
          have hin : (i : Int) < n := by have := HL.out; omega
          obtain ⟨f, hf⟩ : ∃ f, l[i] = f := ⟨_, rfl⟩
          rw [hf] at HD r0 r1
          have y0 : ∀ s : Later wr.heap.size wr, s.w.cell? (ad.add (i * 2)) = some (.int .i64 f.p) := fun s => by rw [← hf]; exact (Y.out s).1
          have y1 : ∀ s : Later wr.heap.size wr, s.w.cell? ⟨(ad.add (i * 2)).block, (ad.add (i * 2)).off + 1, none⟩ = some (.int .i64 f.q) := fun s => by rw [← hf]; exact (Y.out s).2
          clear Y hf r0 r1
          obtain ⟨fp, fq⟩ := f
          simp only at y0 y1
          refine region_lane [] [0, 1, 2, 3, 4, 5, 6, 7, 8, 9] [10, 11] (by kernel_rfl) (by kernel_rfl) (fun _ _ _ _ _ h => h) ?_
          simp only [pick, List.map_nil]
          refine wpQuiet_nil ⟨rfl, ?_⟩
          simp only [List.map_cons, List.map_nil, List.getD_cons_zero, List.getD_cons_succ, List.drop_succ_cons, List.drop_zero]
          refine laneO_run 9 (by kernel_rfl) ?_
          simp only [List.take_succ_cons, List.take_zero, List.drop_succ_cons, List.drop_zero]
          repeat (go_big_quiet_step (fail))
          refine wpQuiet_nil ?_
          refine laneO_told (madeT 2 27 [.int .i64 fp, .int .i64 fq, .int .i64 fp, .int .i64 fq]) (madeT_steady _ _ _) (by kernel_rfl) rfl (fun w hw => .inl ⟨by rfl, ?_⟩) ?_
          focus (unfold gives; simp [go_sem]; exact madeT_new 2 27 #[.int .i64 fp, .int .i64 fq, .int .i64 fp, .int .i64 fq] w)
          refine laneO_end (by simp) rfl rfl rfl fun w4 hb0 => ?_
          rintro v ⟨g1, rfl, hg1⟩
          simp only [Act.put, List.setIfInBounds_toArray, List.set_cons_zero, List.set_cons_succ, fillAll]
          have hg1 : Whole w4 g1 27 [.int .i64 fp, .int .i64 fq, .int .i64 fp, .int .i64 fq] := hg1
          clear y0 y1
          have O4 := Lib.hid (own_below HO.out hb0 (Nat.le_refl _))
          have B4 := Lib.hid (HB2.out.trans (hb0.mono HB2.out.size))
          have s4 := B4.out.size
          clear hb0 HO HB2
          refine wpList_pushB rfl (.tmp 47) (.tmp 56) _ rfl wa.heap.size 27 2 16 fdV0 Try.underlying24 fd_info rfl (by decide) (2 * t) (.slice A2 (2 * t) c2) _ rfl O4.out s4 ⟨g1, 0, none⟩ 2 2 [.int .i64 fp, .int .i64 fq, .int .i64 fp, .int .i64 fq] rfl rfl (by decide) (fun j u hu => by rw [head_add, hg1.cell j]; exact hu) (by simp [Value.oneCell']) (by unfold maxLen; omega) (by omega) ?_
          intro A5 c5 w5 h5 ho5 hk5
          have O5 : Hid (w5.ownsRow wa.heap.size 27 2 (.slice A5 (2 * (t + 1)) c5) (2 * (t + 1)) ((backF (l.drop (n - (t + 1)))).flatMap fdC)) := Lib.hid (by
            rw [HD.out, List.flatMap_append]; exact h5)
          have B5 := Lib.hid (own_push O4.out B4.out s4 ho5)
          clear h5 ho5 hk5 O4 B4 hg1
          go_wp2_with fail
          go_roundw
          case rel => exact ⟨A5, c5, t + 1, by omega, rfl, by go_num, O5, B5⟩
          case measure => simp [intOf] <;> omega
        · have hq : t = n := by omega
          subst hq
          have hlt' : ¬ (0 : Int) ≤ (t : Int) - 1 - t := by omega
          have HO2 := Lib.hid (show wr.ownsRow wa.heap.size 27 2 (.slice A2 (2 * t) c2) (2 * t) ((backF l).flatMap fdC) by have := HO.out; rwa [Nat.sub_self, List.drop_zero] at this)
          clear HO
          go_upto_region 15 with fail
          have a8 : bits .and .i64 b0 255 = b0 % 256 := and_mask_i64 b0 8 (by decide)
          have ht1 : ((t : Int) + 1 == 0) = false := by rw [beq_eq_false_iff_ne]; omega
          obtain ⟨k, hk, hkt⟩ : ∃ k : Nat, b0 % 256 % ((t : Int) + 1) = k ∧ k ≤ t := by
            have h2 := Int.emod_nonneg (b0 % 256) (show (t : Int) + 1 ≠ 0 by omega)
            have h3 := Int.emod_lt_of_pos (b0 % 256) (show (0 : Int) < (t : Int) + 1 by omega)
            exact ⟨((b0 % 256) % ((t : Int) + 1)).toNat, by omega, by omega⟩
          go_upto_region 16 with fail
          rw [hk]
          clear hk a8 ht1
          obtain ⟨pa, hpa⟩ : ∃ x, (foldF (l.take k)).p = x := ⟨_, rfl⟩
          obtain ⟨qa, hqa⟩ : ∃ x, (foldF (l.take k)).q = x := ⟨_, rfl⟩
          obtain ⟨pb, hpb⟩ : ∃ x, (foldF (l.drop k)).p = x := ⟨_, rfl⟩
          obtain ⟨qb, hqb⟩ : ∃ x, (foldF (l.drop k)).q = x := ⟨_, rfl⟩
          obtain ⟨p, hp⟩ : ∃ x, (foldF l).p = x := ⟨_, rfl⟩
          obtain ⟨q, hq⟩ : ∃ x, (foldF l).q = x := ⟨_, rfl⟩
          have HF : Hid (foldF l = ⟨p, q⟩) := Lib.hid (by rw [← hp, ← hq])
          have HFB : Hid (foldF (backF l) = ⟨p, q⟩) := Lib.hid (by rw [foldF_perm]; exact HF.out)
          have HFA : Hid (foldF (l.take k) = ⟨pa, qa⟩) := Lib.hid (by rw [← hpa, ← hqa])
          have HFD : Hid (foldF (l.drop k) = ⟨pb, qb⟩) := Lib.hid (by rw [← hpb, ← hqb])
          have HSG := Lib.hid (by have := foldF_sgn l; rw [HF.out] at this; exact this)
          have HSA := Lib.hid (by have := foldF_sgn (l.take k); rw [HFA.out] at this; exact this)
          have HFP : Hid (foldF [⟨pa, qa⟩, ⟨pb, qb⟩] = ⟨p, q⟩) := Lib.hid (by
            rw [foldF_two _ _ HSA.out, ← HFA.out, ← HFD.out, ← foldF_append, List.take_append_drop]; exact HF.out)
          have HFO : Hid (foldF [⟨p, q⟩] = ⟨p, q⟩) := Lib.hid (foldF_one _ HSG.out)
          have HBD := Lib.hid (by have := foldF_bd 1099511627776 (by decide) l HBL.out; rw [HF.out] at this; exact this)
          have JP := Lib.hid (fun g w (h : w.heap[g]? = some (.cells #[.int .i64 pa, .int .i64 qa, .int .i64 pb, .int .i64 qb] 27 (0, 0))) => fjoin_two ⟨pa, qa⟩ ⟨pb, qb⟩ ⟨p, q⟩ HFP.out g w h)
          have JO := Lib.hid (fun g w (h : w.heap[g]? = some (.cells #[.int .i64 p, .int .i64 q] 27 (0, 0))) => fjoin_one ⟨p, q⟩ ⟨p, q⟩ HFO.out g w h)
          have V := Lib.hid (fun w => fval_any ⟨p, q⟩ (by obtain ⟨h1, h2⟩ := HBD.out; obtain ⟨h3, h4⟩ := HSG.out; unfold I64; simp only at *; omega) (by obtain ⟨h1, h2⟩ := HBD.out; obtain ⟨h3, h4⟩ := HSG.out; unfold I64; simp only at *; omega) (by obtain ⟨h1, h2⟩ := HBD.out; obtain ⟨h3, h4⟩ := HSG.out; unfold I64; simp only at *; omega) w)
          have hpq : -9223372036854775808 ≤ p + q ∧ p + q < 9223372036854775808 := by obtain ⟨h1, h2⟩ := HBD.out; obtain ⟨h3, h4⟩ := HSG.out; simp only at *; omega
          have AW := Lib.hid (fun w => fdawake_any w)
          have RA := Lib.hid (fun w (hw : Below wr.heap.size wr w) (hs : wr.heap.size ≤ w.heap.size) => (((R1.out.below (HB2.out.trans (hw.mono HB2.out.size))).more (by have := HB2.out.size; omega)) : Row w w.heap.size A1 (l.flatMap fdC)))
          have RB := Lib.hid (fun w (hw : Below wr.heap.size wr w) (hs : wr.heap.size ≤ w.heap.size) => (((row_of_own HO2.out).below hw).more hs : Row w w.heap.size A2 ((backF l).flatMap fdC)))
          have B2 := Lib.hid (B1.out.trans (HB2.out.mono B1.out.size))
          have hbl : (backF l).length = 2 * t := by rw [backF_length, HL.out]
          have HTB := Lib.hid hbl
          clear HO2 HB2 R1 B1 hpa hqa hpb hqb hp hq hbl HSG HSA HBD
          go_wp2_with fail
          refine (show Calls _ _ #[.slice A1 t c1] wr _ by rw [← HL.out]; exact fjoin_any l A1 c1 wr (RA.out wr (Below.refl _ _) (Nat.le_refl _)) (by rw [HL.out]; omega)).mono ?_
          rintro e w4 ⟨rfl, hb⟩
          rw [HF.out]
          have B4 := Lib.hid (B2.out.trans (hb.mono B2.out.size))
          have s4 := hb.size
          have RA4 := Lib.hid (fun w (hw : Behind w4 w) => RA.out w (hb.trans (hw.mono s4)) (by have := hw.size; omega))
          have RB4 := Lib.hid (fun w (hw : Behind w4 w) => RB.out w (hb.trans (hw.mono s4)) (by have := hw.size; omega))
          clear hb RA RB B2
          go_upto_region 17 with fail
          have Z4 := Lib.hid (Whole.mk w4 27 #[.int .i64 p, .int .i64 q])
          have B5 := Lib.hid (B4.out.alloc B4.out.size (.cells #[.int .i64 p, .int .i64 q] 27))
          have H45 : Hid (Behind w4 (w4.alloc (.cells #[.int .i64 p, .int .i64 q] 27))) := Lib.hid ((Below.refl _ _).alloc (Nat.le_refl _) _)
          have RA := Lib.hid (fun w (hw : Behind (w4.alloc (.cells #[.int .i64 p, .int .i64 q] 27)) w) => RA4.out w (H45.out.trans hw))
          have RB := Lib.hid (fun w (hw : Behind (w4.alloc (.cells #[.int .i64 p, .int .i64 q] 27)) w) => RB4.out w (H45.out.trans hw))
          clear B4 H45 RA4 RB4
          generalize w4.alloc _ = w5 at *
          generalize w4.heap.size = g13 at *
          have Z5 := Lib.hid (fun w (hw : Behind w5 w) => Z4.out.under hw Z4.out.size)
          have J2 := Lib.hid (fun w (hw : Behind w5 w) => (show Calls Try.prog 9 #[.slice A2 (2 * t) c2] w (fun e w' => e = .returned (fdV ⟨p, q⟩) ∧ Below w.heap.size w w') by rw [← HTB.out, ← HFB.out]; exact fjoin_any (backF l) A2 c2 w (RB.out w hw) (by rw [HTB.out]; omega)))
          rcases A1 with _ | adr
          · obtain ⟨h1, h2⟩ := HC.out
            obtain rfl := h2 rfl
            obtain rfl : t = 0 := by omega
            obtain rfl : k = 0 := by omega
            have hl0 : l = [] := List.eq_nil_of_length_eq_zero HL.out
            have JA := Lib.hid (fun w (hw : Behind w5 w) => fjoin_part l none 0 0 0 ⟨pa, qa⟩ w (RA.out w hw) HL.out (Nat.le_refl _) HFA.out (by omega))
            have JB := Lib.hid (fun w (hw : Behind w5 w) => fjoin_part l none 0 0 0 ⟨pb, qb⟩ w (RA.out w hw) HL.out (Nat.le_refl _) (by have := HFD.out; rw [hl0] at this ⊢; exact this) (by omega))
            clear hl0
            refine region_lane [] (List.range 43) [43] (by kernel_rfl) (by kernel_rfl) (fun _ _ _ _ _ h => h) ?_
            simp only [pick, List.map_nil]
            refine wpQuiet_nil ⟨rfl, ?_⟩
            rw [show List.range 43 = [0, 1, 2, 3, 4, 5, 6, 7, 8, 9, 10, 11, 12, 13, 14, 15, 16, 17, 18, 19, 20, 21, 22, 23, 24, 25, 26, 27, 28, 29, 30, 31, 32, 33, 34, 35, 36, 37, 38, 39, 40, 41, 42] from rfl]
            simp only [List.map_cons, List.map_nil, List.getD_cons_zero, List.getD_cons_succ, List.drop_succ_cons, List.drop_zero]
            refine laneO_fixed (v := .agg #[.int .i64 p, .int .i64 q]) (by kernel_rfl) (fun w hw => .inl ⟨by rfl, cells_gives fd_flat (.tmp 13) rfl g13 rfl [.int .i64 p, .int .i64 q] rfl 27 (Z5.out w hw)⟩) ?_
            simp only [Act.put, List.setIfInBounds_toArray, List.set_cons_zero, List.set_cons_succ]
            refine laneO_run 2 (by kernel_rfl) ?_
            simp only [List.take_succ_cons, List.take_zero, List.drop_succ_cons, List.drop_zero]
            repeat (go_big_quiet_step (fail))
            refine wpQuiet_nil ?_
            refine laneO_fixed (v := .agg #[.int .i64 p, .int .i64 q]) (by kernel_rfl) (fun w hw => .inl ⟨by rfl, ?_⟩) ?_
            focus (unfold gives; simp [go_sem]; exact Behind.refl w)
            simp only [Act.put, List.setIfInBounds_toArray, List.set_cons_zero, List.set_cons_succ]
            refine laneO_run 2 (by kernel_rfl) ?_
            simp only [List.take_succ_cons, List.take_zero, List.drop_succ_cons, List.drop_zero]
            repeat (go_big_quiet_step (fail))
            refine wpQuiet_nil ?_
            refine laneO_fixed (v := .agg #[.int .i64 p, .int .i64 q]) (by kernel_rfl) (fun w hw => .inl ⟨by rfl, cells_gives fd_flat (.tmp 13) rfl g13 rfl [.int .i64 p, .int .i64 q] rfl 27 (Z5.out w hw)⟩) ?_
            simp only [Act.put, List.setIfInBounds_toArray, List.set_cons_zero, List.set_cons_succ]
            refine laneO_call (v := .int .i64 (p + q)) (by kernel_rfl) (by rfl) (fun C hC h0 => ?_) ?_
            focus (go_big_quiet_op; exact ⟨_, fun w hw => (V.out w).mono fun e w' ⟨he, hb⟩ => ⟨he, hC _ _ hw hb⟩, rfl⟩)
            simp only [Act.put, List.setIfInBounds_toArray, List.set_cons_zero, List.set_cons_succ]
            refine laneO_run 7 (by kernel_rfl) ?_
            simp only [List.take_succ_cons, List.take_zero, List.drop_succ_cons, List.drop_zero]
            repeat (go_big_quiet_step (fail))
            refine wpQuiet_nil ?_
            refine laneO_call (v := .agg #[.int .i64 p, .int .i64 q]) (by kernel_rfl) (by rfl) (fun C hC h0 => ?_) ?_
            focus (go_big_quiet_op; exact ⟨_, fun w hw => (J2.out w (h0 _ hw)).mono fun e w' ⟨he, hb⟩ => ⟨he, hC _ _ hw hb⟩, rfl⟩)
            simp only [Act.put, List.setIfInBounds_toArray, List.set_cons_zero, List.set_cons_succ]
            refine laneO_fixed (v := .agg #[.int .i64 p, .int .i64 q]) (by kernel_rfl) (fun w hw => .inl ⟨by rfl, cells_gives fd_flat (.tmp 13) rfl g13 rfl [.int .i64 p, .int .i64 q] rfl 27 (Z5.out w hw)⟩) ?_
            simp only [Act.put, List.setIfInBounds_toArray, List.set_cons_zero, List.set_cons_succ]
            refine laneO_run 5 (by kernel_rfl) ?_
            simp only [List.take_succ_cons, List.take_zero, List.drop_succ_cons, List.drop_zero]
            repeat (go_big_quiet_step (fail))
            refine wpQuiet_nil ?_
            refine laneO_fixed (v := .slice none 0 0) (by kernel_rfl) (fun w hw => .inl ⟨by rfl, ?_⟩) ?_
            focus (unfold gives; simp [go_sem]; exact Behind.refl w)
            simp only [Act.put, List.setIfInBounds_toArray, List.set_cons_zero, List.set_cons_succ]
            refine laneO_call (v := .agg #[.int .i64 pa, .int .i64 qa]) (by kernel_rfl) (by rfl) (fun C hC h0 => ?_) ?_
            focus (go_big_quiet_op; exact ⟨_, fun w hw => (JA.out w (h0 _ hw)).mono fun e w' ⟨he, hb⟩ => ⟨he, hC _ _ hw hb⟩, rfl⟩)
            simp only [Act.put, List.setIfInBounds_toArray, List.set_cons_zero, List.set_cons_succ]
            refine laneO_run 2 (by kernel_rfl) ?_
            simp only [List.take_succ_cons, List.take_zero, List.drop_succ_cons, List.drop_zero]
            repeat (go_big_quiet_step (fail))
            refine wpQuiet_nil ?_
            refine laneO_fixed (v := .slice none 0 0) (by kernel_rfl) (fun w hw => .inl ⟨by rfl, ?_⟩) ?_
            focus (unfold gives; simp [go_sem]; exact Behind.refl w)
            simp only [Act.put, List.setIfInBounds_toArray, List.set_cons_zero, List.set_cons_succ]
            refine laneO_call (v := .agg #[.int .i64 pb, .int .i64 qb]) (by kernel_rfl) (by rfl) (fun C hC h0 => ?_) ?_
            focus (go_big_quiet_op; exact ⟨_, fun w hw => (JB.out w (h0 _ hw)).mono fun e w' ⟨he, hb⟩ => ⟨he, hC _ _ hw hb⟩, rfl⟩)
            simp only [Act.put, List.setIfInBounds_toArray, List.set_cons_zero, List.set_cons_succ]
            refine laneO_told (madeT 2 27 [.int .i64 pa, .int .i64 qa, .int .i64 pb, .int .i64 qb]) (madeT_steady _ _ _) (by kernel_rfl) rfl (fun w hw => .inl ⟨by rfl, ?_⟩) ?_
            · unfold gives
              simp [go_sem]
              exact madeT_new 2 27 #[.int .i64 pa, .int .i64 qa, .int .i64 pb, .int .i64 qb] w
            refine laneO_useCall (v := .agg #[.int .i64 p, .int .i64 q]) rfl rfl (of_decide_eq_true (by rfl)) rfl (by rfl) (by rfl) rfl Try.func9 (by kernel_rfl) rfl (fun x w hw hx => by obtain ⟨g, rfl, hg⟩ := hx; exact JP.out g w hg) ?_
            simp only [Act.put, List.setIfInBounds_toArray, List.set_cons_zero, List.set_cons_succ]
            refine laneO_fixed (v := .agg #[.int .i64 p, .int .i64 q]) (by kernel_rfl) (fun w hw => .inl ⟨by rfl, cells_gives fd_flat (.tmp 13) rfl g13 rfl [.int .i64 p, .int .i64 q] rfl 27 (Z5.out w hw)⟩) ?_
            simp only [Act.put, List.setIfInBounds_toArray, List.set_cons_zero, List.set_cons_succ]
            refine laneO_run 3 (by kernel_rfl) ?_
            simp only [List.take_succ_cons, List.take_zero, List.drop_succ_cons, List.drop_zero]
            repeat (go_big_quiet_step (fail))
            refine wpQuiet_nil ?_
            refine laneO_fixed (v := .agg #[.int .i64 p, .int .i64 q]) (by kernel_rfl) (fun w hw => .inl ⟨by rfl, cells_gives fd_flat (.tmp 13) rfl g13 rfl [.int .i64 p, .int .i64 q] rfl 27 (Z5.out w hw)⟩) ?_
            simp only [Act.put, List.setIfInBounds_toArray, List.set_cons_zero, List.set_cons_succ]
            refine laneO_told (madeT 1 27 [.int .i64 p, .int .i64 q]) (madeT_steady _ _ _) (by kernel_rfl) rfl (fun w hw => .inl ⟨by rfl, ?_⟩) ?_
            · unfold gives
              simp [go_sem]
              exact madeT_new 1 27 #[.int .i64 p, .int .i64 q] w
            refine laneO_useCall (v := .agg #[.int .i64 p, .int .i64 q]) rfl rfl (of_decide_eq_true (by rfl)) rfl (by rfl) (by rfl) rfl Try.func9 (by kernel_rfl) rfl (fun x w hw hx => by obtain ⟨g, rfl, hg⟩ := hx; exact JO.out g w hg) ?_
            simp only [Act.put, List.setIfInBounds_toArray, List.set_cons_zero, List.set_cons_succ]
            refine laneO_fixed (v := .agg #[.int .i64 p, .int .i64 q]) (by kernel_rfl) (fun w hw => .inl ⟨by rfl, cells_gives fd_flat (.tmp 13) rfl g13 rfl [.int .i64 p, .int .i64 q] rfl 27 (Z5.out w hw)⟩) ?_
            simp only [Act.put, List.setIfInBounds_toArray, List.set_cons_zero, List.set_cons_succ]
            refine laneO_run 3 (by kernel_rfl) ?_
            simp only [List.take_succ_cons, List.take_zero, List.drop_succ_cons, List.drop_zero]
            repeat (go_big_quiet_step (fail))
            refine wpQuiet_nil ?_
            refine laneO_call (v := .bool true) (by kernel_rfl) (by rfl) (fun C hC h0 => ?_) ?_
            focus (go_big_quiet_op; exact ⟨_, fun w hw => (AW.out w).mono fun e w' ⟨he, hb⟩ => ⟨he, hC _ _ hw hb⟩, rfl⟩)
            simp only [Act.put, List.setIfInBounds_toArray, List.set_cons_zero, List.set_cons_succ]
            refine laneO_run 1 (by kernel_rfl) ?_
            simp only [List.take_succ_cons, List.take_zero, List.drop_succ_cons, List.drop_zero]
            repeat (go_big_quiet_step (fail))
            refine wpQuiet_nil ?_
            refine laneO_end (by simp) rfl rfl rfl fun w6 hb0 => ?_
            rintro v1 ⟨ga, rfl, -⟩ v2 ⟨gb, rfl, -⟩
            simp only [Act.put, List.setIfInBounds_toArray, List.set_cons_zero, List.set_cons_succ, fillAll]
            go_wp2_with fail
            go_ret
            exact ⟨rfl, B5.out.trans (hb0.mono B5.out.size)⟩
          · obtain ⟨ga, rfl⟩ := E0.out adr rfl
            have hkc : k ≤ c1 := by have := HC.out; omega
            obtain ⟨ab, hab⟩ : ∃ ab : Option Addr, (if c1 = k then some (⟨ga, 0, none⟩ : Addr) else some ⟨ga, k * 2, none⟩) = ab := ⟨_, rfl⟩
            obtain ⟨m, hm_⟩ : ∃ m, t - k = m := ⟨_, rfl⟩
            obtain ⟨cm, hcm⟩ : ∃ cm, c1 - k = cm := ⟨_, rfl⟩
            have JA := Lib.hid (fun w (hw : Behind w5 w) => fjoin_part l (some ⟨ga, 0, none⟩) c1 k t ⟨pa, qa⟩ w (RA.out w hw) HL.out hkt HFA.out (by omega))
            have JB := Lib.hid (fun w (hw : Behind w5 w) => fjoin_rest l ga c1 k t ⟨pb, qb⟩ ab m cm w (RA.out w hw) HL.out hkt hkc HFD.out (by omega) hab hm_ hcm HC.out.1)
            refine region_lane [] (List.range 43) [43] (by kernel_rfl) (by kernel_rfl) (fun _ _ _ _ _ h => h) ?_
            simp only [pick, List.map_nil]
            refine wpQuiet_nil ⟨rfl, ?_⟩
            rw [show List.range 43 = [0, 1, 2, 3, 4, 5, 6, 7, 8, 9, 10, 11, 12, 13, 14, 15, 16, 17, 18, 19, 20, 21, 22, 23, 24, 25, 26, 27, 28, 29, 30, 31, 32, 33, 34, 35, 36, 37, 38, 39, 40, 41, 42] from rfl]
            simp only [List.map_cons, List.map_nil, List.getD_cons_zero, List.getD_cons_succ, List.drop_succ_cons, List.drop_zero]
            refine laneO_fixed (v := .agg #[.int .i64 p, .int .i64 q]) (by kernel_rfl) (fun w hw => .inl ⟨by rfl, cells_gives fd_flat (.tmp 13) rfl g13 rfl [.int .i64 p, .int .i64 q] rfl 27 (Z5.out w hw)⟩) ?_
            simp only [Act.put, List.setIfInBounds_toArray, List.set_cons_zero, List.set_cons_succ]
            refine laneO_run 2 (by kernel_rfl) ?_
            simp only [List.take_succ_cons, List.take_zero, List.drop_succ_cons, List.drop_zero]
            repeat (go_big_quiet_step (fail))
            refine wpQuiet_nil ?_
            refine laneO_fixed (v := .agg #[.int .i64 p, .int .i64 q]) (by kernel_rfl) (fun w hw => .inl ⟨by rfl, ?_⟩) ?_
            focus (unfold gives; simp [go_sem]; exact Behind.refl w)
            simp only [Act.put, List.setIfInBounds_toArray, List.set_cons_zero, List.set_cons_succ]
            refine laneO_run 2 (by kernel_rfl) ?_
            simp only [List.take_succ_cons, List.take_zero, List.drop_succ_cons, List.drop_zero]
            repeat (go_big_quiet_step (fail))
            refine wpQuiet_nil ?_
            refine laneO_fixed (v := .agg #[.int .i64 p, .int .i64 q]) (by kernel_rfl) (fun w hw => .inl ⟨by rfl, cells_gives fd_flat (.tmp 13) rfl g13 rfl [.int .i64 p, .int .i64 q] rfl 27 (Z5.out w hw)⟩) ?_
            simp only [Act.put, List.setIfInBounds_toArray, List.set_cons_zero, List.set_cons_succ]
            refine laneO_call (v := .int .i64 (p + q)) (by kernel_rfl) (by rfl) (fun C hC h0 => ?_) ?_
            focus (go_big_quiet_op; exact ⟨_, fun w hw => (V.out w).mono fun e w' ⟨he, hb⟩ => ⟨he, hC _ _ hw hb⟩, rfl⟩)
            simp only [Act.put, List.setIfInBounds_toArray, List.set_cons_zero, List.set_cons_succ]
            refine laneO_run 7 (by kernel_rfl) ?_
            simp only [List.take_succ_cons, List.take_zero, List.drop_succ_cons, List.drop_zero]
            repeat (go_big_quiet_step (fail))
            refine wpQuiet_nil ?_
            refine laneO_call (v := .agg #[.int .i64 p, .int .i64 q]) (by kernel_rfl) (by rfl) (fun C hC h0 => ?_) ?_
            focus (go_big_quiet_op; exact ⟨_, fun w hw => (J2.out w (h0 _ hw)).mono fun e w' ⟨he, hb⟩ => ⟨he, hC _ _ hw hb⟩, rfl⟩)
            simp only [Act.put, List.setIfInBounds_toArray, List.set_cons_zero, List.set_cons_succ]
            refine laneO_fixed (v := .agg #[.int .i64 p, .int .i64 q]) (by kernel_rfl) (fun w hw => .inl ⟨by rfl, cells_gives fd_flat (.tmp 13) rfl g13 rfl [.int .i64 p, .int .i64 q] rfl 27 (Z5.out w hw)⟩) ?_
            simp only [Act.put, List.setIfInBounds_toArray, List.set_cons_zero, List.set_cons_succ]
            refine laneO_run 5 (by kernel_rfl) ?_
            simp only [List.take_succ_cons, List.take_zero, List.drop_succ_cons, List.drop_zero]
            repeat (go_big_quiet_step (fail))
            refine wpQuiet_nil ?_
            refine laneO_fixed (v := .slice (some ⟨ga, 0, none⟩) k c1) (by kernel_rfl) (fun w hw => .inl ⟨by rfl, ?_⟩) ?_
            focus (unfold gives; simp [go_sem, hkc]; exact Behind.refl w)
            simp only [Act.put, List.setIfInBounds_toArray, List.set_cons_zero, List.set_cons_succ]
            refine laneO_call (v := .agg #[.int .i64 pa, .int .i64 qa]) (by kernel_rfl) (by rfl) (fun C hC h0 => ?_) ?_
            focus (go_big_quiet_op; exact ⟨_, fun w hw => (JA.out w (h0 _ hw)).mono fun e w' ⟨he, hb⟩ => ⟨he, hC _ _ hw hb⟩, rfl⟩)
            simp only [Act.put, List.setIfInBounds_toArray, List.set_cons_zero, List.set_cons_succ]
            refine laneO_run 2 (by kernel_rfl) ?_
            simp only [List.take_succ_cons, List.take_zero, List.drop_succ_cons, List.drop_zero]
            repeat (go_big_quiet_step (fail))
            refine wpQuiet_nil ?_
            refine laneO_fixed (v := .slice ab m cm) (by kernel_rfl) (fun w hw => .inl ⟨by rfl, ?_⟩) ?_
            focus (unfold gives; simp [go_sem, hkt, hab, hm_, hcm]; exact Behind.refl w)
            simp only [Act.put, List.setIfInBounds_toArray, List.set_cons_zero, List.set_cons_succ]
            refine laneO_call (v := .agg #[.int .i64 pb, .int .i64 qb]) (by kernel_rfl) (by rfl) (fun C hC h0 => ?_) ?_
            focus (go_big_quiet_op; exact ⟨_, fun w hw => (JB.out w (h0 _ hw)).mono fun e w' ⟨he, hb⟩ => ⟨he, hC _ _ hw hb⟩, rfl⟩)
            simp only [Act.put, List.setIfInBounds_toArray, List.set_cons_zero, List.set_cons_succ]
            refine laneO_told (madeT 2 27 [.int .i64 pa, .int .i64 qa, .int .i64 pb, .int .i64 qb]) (madeT_steady _ _ _) (by kernel_rfl) rfl (fun w hw => .inl ⟨by rfl, ?_⟩) ?_
            · unfold gives
              simp [go_sem]
              exact madeT_new 2 27 #[.int .i64 pa, .int .i64 qa, .int .i64 pb, .int .i64 qb] w
            refine laneO_useCall (v := .agg #[.int .i64 p, .int .i64 q]) rfl rfl (of_decide_eq_true (by rfl)) rfl (by rfl) (by rfl) rfl Try.func9 (by kernel_rfl) rfl (fun x w hw hx => by obtain ⟨g, rfl, hg⟩ := hx; exact JP.out g w hg) ?_
            simp only [Act.put, List.setIfInBounds_toArray, List.set_cons_zero, List.set_cons_succ]
            refine laneO_fixed (v := .agg #[.int .i64 p, .int .i64 q]) (by kernel_rfl) (fun w hw => .inl ⟨by rfl, cells_gives fd_flat (.tmp 13) rfl g13 rfl [.int .i64 p, .int .i64 q] rfl 27 (Z5.out w hw)⟩) ?_
            simp only [Act.put, List.setIfInBounds_toArray, List.set_cons_zero, List.set_cons_succ]
            refine laneO_run 3 (by kernel_rfl) ?_
            simp only [List.take_succ_cons, List.take_zero, List.drop_succ_cons, List.drop_zero]
            repeat (go_big_quiet_step (fail))
            refine wpQuiet_nil ?_
            refine laneO_fixed (v := .agg #[.int .i64 p, .int .i64 q]) (by kernel_rfl) (fun w hw => .inl ⟨by rfl, cells_gives fd_flat (.tmp 13) rfl g13 rfl [.int .i64 p, .int .i64 q] rfl 27 (Z5.out w hw)⟩) ?_
            simp only [Act.put, List.setIfInBounds_toArray, List.set_cons_zero, List.set_cons_succ]
            refine laneO_told (madeT 1 27 [.int .i64 p, .int .i64 q]) (madeT_steady _ _ _) (by kernel_rfl) rfl (fun w hw => .inl ⟨by rfl, ?_⟩) ?_
            · unfold gives
              simp [go_sem]
              exact madeT_new 1 27 #[.int .i64 p, .int .i64 q] w
            refine laneO_useCall (v := .agg #[.int .i64 p, .int .i64 q]) rfl rfl (of_decide_eq_true (by rfl)) rfl (by rfl) (by rfl) rfl Try.func9 (by kernel_rfl) rfl (fun x w hw hx => by obtain ⟨g, rfl, hg⟩ := hx; exact JO.out g w hg) ?_
            simp only [Act.put, List.setIfInBounds_toArray, List.set_cons_zero, List.set_cons_succ]
            refine laneO_fixed (v := .agg #[.int .i64 p, .int .i64 q]) (by kernel_rfl) (fun w hw => .inl ⟨by rfl, cells_gives fd_flat (.tmp 13) rfl g13 rfl [.int .i64 p, .int .i64 q] rfl 27 (Z5.out w hw)⟩) ?_
            simp only [Act.put, List.setIfInBounds_toArray, List.set_cons_zero, List.set_cons_succ]
            refine laneO_run 3 (by kernel_rfl) ?_
            simp only [List.take_succ_cons, List.take_zero, List.drop_succ_cons, List.drop_zero]
            repeat (go_big_quiet_step (fail))
            refine wpQuiet_nil ?_
            refine laneO_call (v := .bool true) (by kernel_rfl) (by rfl) (fun C hC h0 => ?_) ?_
            focus (go_big_quiet_op; exact ⟨_, fun w hw => (AW.out w).mono fun e w' ⟨he, hb⟩ => ⟨he, hC _ _ hw hb⟩, rfl⟩)
            simp only [Act.put, List.setIfInBounds_toArray, List.set_cons_zero, List.set_cons_succ]
            refine laneO_run 1 (by kernel_rfl) ?_
            simp only [List.take_succ_cons, List.take_zero, List.drop_succ_cons, List.drop_zero]
            repeat (go_big_quiet_step (fail))
            refine wpQuiet_nil ?_
            refine laneO_end (by simp) rfl rfl rfl fun w6 hb0 => ?_
            rintro v1 ⟨ga, rfl, -⟩ v2 ⟨gb, rfl, -⟩
            simp only [Act.put, List.setIfInBounds_toArray, List.set_cons_zero, List.set_cons_succ, fillAll]
            go_wp2_with fail
            go_ret
            exact ⟨rfl, B5.out.trans (hb0.mono B5.out.size)⟩
end Go.Proofs.Yteakeacmdnhojaa
