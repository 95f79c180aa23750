import Derived.Test.YtodnplllkpgfaaaFreeMoreQ
import Derived.Test.YtodnplllkpgfaaaFreeBasesQ
import Derived.Test.YtodnplllkpgfaaaFreeFixQ
import Derived.Test.YtodnplllkpgfaaaAppToldQ
import Derived.Test.YtodnplllkpgfaaaZQ
import Derived.Test.YtodnplllkpgfaaaRowToldQ
import Derived.BigRegion
/- FreeFixed: an item without a factor is as great as it was; the others share what is left. -/
namespace Go.Proofs.Ytodnplllkpgfaaa
open Go Go.RowKit
set_option linter.unusedVariables false
set_option linter.unusedSimpArgs false
set_option maxRecDepth 20000
set_option maxHeartbeats 8000000

def fxG (z : Int) : Fx := ⟨z % 256, 0, -1, z / 256 % 4, 0, 0⟩
theorem fxG_ok (z : Int) : FxOk (fxG z) := by constructor <;> simp only [fxG] <;> omega
theorem fixX_ok {f : Int} (h0 : 0 ≤ f) (h1 : f ≤ 255) : FxOk (fixX f) := by constructor <;> simp only [fixX] <;> omega
def midL (L : List Fx) (k : Nat) (f : Int) : List Fx := L.take k ++ fixX f :: L.drop k
def nbS (l : List Fx) : Int := (l.map Fx.base).sum
theorem nbS_add (l : List Fx) (x : Fx) : nbS (l ++ [x]) = nbS l + x.base := by unfold nbS; rw [List.map_append, List.sum_append]; simp
theorem fxC_one (x : Fx) : ∀ v ∈ fxC x, v.oneCell' = true := by simp [fxC, Value.oneCell']
theorem fxC_cut (l : List Fx) (k n : Nat) (hl : l.length = n) (h : k ≤ n) : ((l.take k).flatMap fxC).length = k * 6 ∧ ((l.drop k).flatMap fxC).length = (n - k) * 6 := by
  rw [rec_len fxC_six, rec_len fxC_six, List.length_take, List.length_drop, hl, Nat.min_eq_left h]; exact ⟨rfl, rfl⟩
theorem mid_cells (l : List Fx) (k : Nat) (fx : Int) : (l.take k).flatMap fxC ++ [.int .i64 fx, .int .i64 fx, .int .i64 fx, .int .i64 0, .int .i64 0, .int .i64 0] ++ (l.drop k).flatMap fxC = (midL l k fx).flatMap fxC := by
  unfold midL
  rw [List.flatMap_append, List.flatMap_cons, List.append_assoc]; rfl
theorem cellsF_row {w : World} {B : Nat} {ad : Addr} {xs : List Value} (h : Row w B (some ad) xs) : ∀ j u, xs[j]? = some u → w.cell? (ad.add j) = some u := by
  intro j u hu
  obtain ⟨hj, rfl⟩ := List.getElem?_eq_some_iff.1 hu
  obtain ⟨ad', e, _, hc⟩ := h (by omega)
  injection e with e
  subst e
  exact hc j hj
theorem cellsF_take (l : List Fx) (k : Nat) (hk : k ≤ l.length) : (l.take k).flatMap fxC = (l.flatMap fxC).take (k * 6) := by
  have e : l.flatMap fxC = (l.take k).flatMap fxC ++ (l.drop k).flatMap fxC := by rw [← List.flatMap_append, List.take_append_drop]
  rw [e, List.take_left' (fxC_cut l k _ rfl hk).1]
theorem cellsF_drop (l : List Fx) (k : Nat) (hk : k ≤ l.length) : (l.drop k).flatMap fxC = (l.flatMap fxC).drop (k * 6) := by
  have e : l.flatMap fxC = (l.take k).flatMap fxC ++ (l.drop k).flatMap fxC := by rw [← List.flatMap_append, List.take_append_drop]
  rw [e, List.drop_left' (fxC_cut l k _ rfl hk).1]
theorem ffixed_any (zs : List Int) (hl : zs.length ≤ 9223372036854775807) (A : Option Addr) (c : Nat) (fixed at_ more : Int) (W : World) (hR : Row W W.heap.size A (i64s zs)) :
    Calls Try.prog 5 #[.slice A zs.length c, .int .i64 fixed, .int .i64 at_, .int .i64 more] W fun e w' => e = .returned (.bool true) ∧ Below W.heap.size W w' := by
  have HR := Lib.hid hR
  clear hR
  have AW := Lib.hid (fun w => fawake_any w)
  have k12 : ∀ x : Int, bits .and .i64 x 4095 = x % 4096 := fun x => and_mask_i64 x 12 (by decide)
  have k8 : ∀ x : Int, bits .and .i64 x 255 = x % 256 := fun x => and_mask_i64 x 8 (by decide)
  have k2 : ∀ x : Int, bits .and .i64 x 3 = x % 4 := fun x => and_mask_i64 x 2 (by decide)
  go_enter Try.func5, Try.ntmps5
  go_wp2_with fail
  go_loopw [9, 11, 12] (fun v9 v11 v12 wr => ∃ (k : Nat) (A' : Option Addr) (c' : Nat), v9 = .slice A' k c' ∧ v11 = .int .i64 (nbS ((zs.take k).map fxG)) ∧ v12 = .int .i64 k ∧ k ≤ zs.length ∧ k ≤ 8 ∧ Hid (wr.ownsRow W.heap.size 26 6 (.slice A' k c') k (((zs.take k).map fxG).flatMap fxC)) ∧ Hid (Below W.heap.size W wr)) (fun _ _ v12 _ => zs.length - (intOf v12).toNat)
  case atStart => exact ⟨0, none, 0, rfl, rfl, rfl, Nat.zero_le _, by omega, Lib.hid ⟨rfl, .inl ⟨rfl, rfl⟩⟩, Lib.hid (Below.refl _ _)⟩
  case round =>
    obtain ⟨k, A', c', rfl, rfl, rfl, hk, hk2, O, B⟩ := hrel
    have hbase : ∀ x ∈ (zs.take k).map fxG, FxOk x ∧ 0 ≤ x.base ∧ x.base ≤ 255 := fun x hx => by
      obtain ⟨z, -, rfl⟩ := List.mem_map.1 hx
      exact ⟨fxG_ok z, (fxG_ok z).b0, by simp only [fxG]; omega⟩
    have hbd : 0 ≤ nbS ((zs.take k).map fxG) ∧ nbS ((zs.take k).map fxG) ≤ 2040 := by
      have b1 := sum_lo_by (f := Fx.base) (c := 0) _ fun x hx => by have := (hbase x hx).2.1; omega
      have b2 := sum_hi_by (f := Fx.base) (c := 255) _ fun x hx => (hbase x hx).2.2
      rw [List.length_map, List.length_take] at b1 b2
      unfold nbS; omega
    by_cases hlt : k < zs.length ∧ k < 8
    · have hki : (k : Int) < zs.length := by omega
      have hkj : (k : Int) < 8 := by omega
      have z1 : decide ((k : Int) < zs.length) = true := decide_eq_true hki
      have z2 : decide ((k : Int) < 8) = true := decide_eq_true hkj
      obtain ⟨ad, rfl, hb, d0⟩ := (HR.out.below B.out).int hlt.1
      have HE : Hid ((zs.take (k + 1)).map fxG = (zs.take k).map fxG ++ [fxG zs[k]]) := Lib.hid (by
        rw [List.take_succ_eq_append_getElem hlt.1, List.map_append]; rfl)
      obtain ⟨z, hz⟩ : ∃ z, zs[k] = z := ⟨_, rfl⟩
      rw [hz] at d0 HE
      clear hz hbase
      obtain ⟨T, hT⟩ : ∃ T, (zs.take k).map fxG = T := ⟨_, rfl⟩
      rw [hT] at O HE hbd ⊢
      have E1 := Lib.hid (nbS_add T (fxG z))
      obtain ⟨s, hs⟩ : ∃ s, nbS T = s := ⟨_, rfl⟩
      rw [hs] at E1 hbd ⊢
      clear hs hT
      generalize wr = w1 at *
      have dA : ∀ o, (w1.alloc o).cell? (ad.add k) = some (.int .i64 z) := fun o => (World.cell?_alloc_lt w1 o (ad.add k) (by have := B.out.size; rw [add_block]; omega)).trans d0
      have NB : Hid (∀ g, (Value.slice A' k c').ownBlock = some g → g ≠ w1.heap.size) := Lib.hid (fun g hg => by have := owns_lt O.out hg; omega)
      have hbs := B.out.size
      go_upto_region 6 with fail
      go_region
      have PX : fxG z = ⟨z % 256, 0, -1, z / 256 % 4, 0, 0⟩ := rfl
      have y0 := Int.emod_nonneg z (show (256 : Int) ≠ 0 by decide)
      have y1 := Int.emod_lt_of_pos z (show (0 : Int) < 256 by decide)
      obtain ⟨b, q0⟩ : ∃ b, z % 256 = b := ⟨_, rfl⟩
      obtain ⟨g, q1⟩ : ∃ g, z / 256 % 4 = g := ⟨_, rfl⟩
      rw [PX, q0, q1] at E1 HE
      rw [q0] at y0 y1
      rw [q0, q1]
      clear PX q0 q1
      obtain ⟨w2, hw2, hX, hO, hB⟩ : ∃ w2, w2 = (w1.alloc (.cells #[.int .i64 b, .int .i64 0, .int .i64 (-1), .int .i64 g, .int .i64 0, .int .i64 0] 26)).drew ∧
          Whole w2 w1.heap.size 26 [.int .i64 b, .int .i64 0, .int .i64 (-1), .int .i64 g, .int .i64 0, .int .i64 0] ∧ w2.ownsRow W.heap.size 26 6 (.slice A' k c') k (T.flatMap fxC) ∧ Below W.heap.size W w2 :=
        ⟨_, rfl, (Whole.mk w1 26 _).drawn 1, own_below O.out (Below.drewN' ((Below.refl _ w1).alloc (Nat.le_refl _) _) 1) (Nat.le_refl _), Below.drewN' (B.out.alloc B.out.size _) 1⟩
      rw [← hw2]
      have X2 := Lib.hid hX
      have O2 := Lib.hid hO
      have B2 := Lib.hid hB
      obtain ⟨gg, hgg⟩ : ∃ g, w1.heap.size = g := ⟨_, rfl⟩
      rw [hgg] at X2 NB hbs ⊢
      clear hX hO hB hw2 O B d0 dA hgg
      have n0 : (Value.slice A' k c').ownBlock ≠ some gg := fun e => NB.out gg e rfl
      have N0 := Lib.hid n0
      clear n0
      have x0 := X2.out.cell 0
      have x1 := X2.out.cell 1
      have x2 := X2.out.cell 2
      have x3 := X2.out.cell 3
      have x4 := X2.out.cell 4
      have x5 := X2.out.cell 5
      simp only [List.getElem?_cons_zero, List.getElem?_cons_succ] at x0 x1 x2 x3 x4 x5
      have lt2 := X2.out.size
      have O5 := Lib.hid (own_below O2.out ((Below.refl _ w2).alloc (Nat.le_refl _) (.cells #[.int .i64 b, .int .i64 0, .int .i64 (-1), .int .i64 g, .int .i64 0, .int .i64 0] 26)) (Nat.le_refl _))
      have B5 := Lib.hid (B2.out.alloc B2.out.size (.cells #[.int .i64 b, .int .i64 0, .int .i64 (-1), .int .i64 g, .int .i64 0, .int .i64 0] 26))
      have X5 := Lib.hid (X2.out.made (.cells #[.int .i64 b, .int .i64 0, .int .i64 (-1), .int .i64 g, .int .i64 0, .int .i64 0] 26))
      have W5 := Lib.hid (Whole.mk w2 26 #[.int .i64 b, .int .i64 0, .int .i64 (-1), .int .i64 g, .int .i64 0, .int .i64 0])
      go_upto_region 8 with (at_builtin; refine wpList_pushOne rfl (.tmp 39) (.tmp 41) _ rfl W.heap.size 26 6 48 fxV0 Try.underlying23 fx_info rfl (by decide) k (.slice A' k c') _ rfl O5.out B5.out.size w2.heap.size [.int .i64 b, .int .i64 0, .int .i64 (-1), .int .i64 g, .int .i64 0, .int .i64 0] rfl W5.out rfl (by simp [Value.oneCell']) (by unfold maxLen; omega) (by omega) ?_; intro A6 c6 w7 h5 ho5 hk5)
      have O7 : Hid (w7.ownsRow W.heap.size 26 6 (.slice A6 (k + 1) c6) (k + 1) ((T ++ [(⟨b, 0, -1, g, 0, 0⟩ : Fx)]).flatMap fxC)) := Lib.hid (by
        rw [List.flatMap_append, List.flatMap_singleton]; exact h5)
      have B7 := Lib.hid (own_push O5.out B5.out B5.out.size ho5)
      have X7 := ho5.whole X5.out (by intro h; exact N0.out (by simpa using h))
      clear h5 ho5 hk5 O5 B5 W5 x0 x1 x2 x3 x4 x5 X5 X2 O2 B2 lt2
      have x0 := X7.cell 0
      simp only [List.getElem?_cons_zero, List.getElem?_cons_succ] at x0
      clear X7
      have n1 : -9223372036854775808 ≤ s + b ∧ s + b ≤ 9223372036854775807 := by omega
      go_wp2_with fail
      go_roundw
      case rel => exact ⟨k + 1, A6, c6, by go_num, by rw [HE.out, E1.out], by go_num, by omega, by omega, Lib.hid (by rw [HE.out]; exact O7.out), B7⟩
      case measure => simp [intOf] <;> omega
    · have z1 : decide ((k : Int) < zs.length) = false ∨ decide ((k : Int) < zs.length) = true ∧ decide ((k : Int) < 8) = false := by
        by_cases h1 : k < zs.length
        · exact .inr ⟨decide_eq_true (by omega), decide_eq_false (by omega)⟩
        · exact .inl (decide_eq_false (by omega))
      have Z1 := Lib.hid z1
      obtain ⟨L, hL⟩ : ∃ L, (zs.take k).map fxG = L := ⟨_, rfl⟩
      have hLk : L.length = k := by rw [← hL, List.length_map, List.length_take]; omega
      rw [hL] at O hbase hbd ⊢
      have f0 := Int.emod_nonneg fixed (show (256 : Int) ≠ 0 by decide)
      have f1 := Int.emod_lt_of_pos fixed (show (0 : Int) < 256 by decide)
      have m0 := Int.emod_nonneg more (show (4096 : Int) ≠ 0 by decide)
      have m1 := Int.emod_lt_of_pos more (show (0 : Int) < 4096 by decide)
      obtain ⟨fx, hfx⟩ : ∃ f, fixed % 256 = f := ⟨_, rfl⟩
      obtain ⟨mo, hmo⟩ : ∃ m, more % 4096 = m := ⟨_, rfl⟩
      have HFX := Lib.hid hfx
      have HMO := Lib.hid hmo
      rw [hfx] at f0 f1
      rw [hmo] at m0 m1
      clear hfx hmo z1 hL
      obtain ⟨s, hs⟩ : ∃ s, nbS L = s := ⟨_, rfl⟩
      rw [hs] at hbd ⊢
      clear hs
      have nm : -9223372036854775808 ≤ mo + 1 ∧ mo + 1 ≤ 9223372036854775807 := by omega
      have n1 : -9223372036854775808 ≤ s + (mo + 1) ∧ s + (mo + 1) ≤ 9223372036854775807 := by omega
      have n2 : -9223372036854775808 ≤ s + (mo + 1) + fx ∧ s + (mo + 1) + fx ≤ 9223372036854775807 := by omega
      have ra : InRoom (s + (mo + 1)) := ⟨by omega, by omega⟩
      have rb : InRoom (s + (mo + 1) + fx) := ⟨by omega, by omega⟩
      have hok : ∀ x ∈ L, FxOk x := fun x hx => (hbase x hx).1
      have la : (sizesF (s + (mo + 1)) L).length = k := by rw [sizesF_len]; exact hLk
      have ea := res_yes ra hok (by omega)
      have FA := Lib.hid (fun (w : World) (h : Row w w.heap.size A' (L.flatMap fxC)) => (fres_any L A' c' (s + (mo + 1)) w h (by omega)).mono fun e w' hp => res_row hp ea la)
      rw [hLk] at FA
      have mok : ∀ j, ∀ x ∈ midL L j fx, FxOk x := fun j x hx => by
        unfold midL at hx
        rcases List.mem_append.1 hx with hx | hx
        · exact hok x (List.mem_of_mem_take hx)
        · rcases List.mem_cons.1 hx with rfl | hx
          · exact fixX_ok f0 (by omega)
          · exact hok x (List.mem_of_mem_drop hx)
      have mln : ∀ j, j ≤ k → (midL L j fx).length = k + 1 := fun j hj => by
        unfold midL
        rw [List.length_append, List.length_cons, List.length_take, List.length_drop, hLk]; omega
      have EQA : Hid (∀ j, j ≤ k → sizesF (s + (mo + 1) + fx) (midL L j fx) = (sizesF (s + (mo + 1)) L).take j ++ fx :: (sizesF (s + (mo + 1)) L).drop j) := Lib.hid (fun j hj => by
        unfold midL
        rw [fix_sizes f0, List.take_append_drop, List.length_take, hLk, Nat.min_eq_left hj])
      have FBK : Hid (∀ j, j ≤ k → ∀ (A : Option Addr) (c : Nat) (w : World), Row w w.heap.size A ((midL L j fx).flatMap fxC) → Calls Try.prog 9 #[.slice A (k + 1) c, .int .i64 (s + (mo + 1) + fx)] w fun e w' => ∃ A c, e = .returned (.slice A (k + 1) c) ∧ w'.ownsRow w.heap.size 2 1 (.slice A (k + 1) c) (k + 1) (i64s ((sizesF (s + (mo + 1)) L).take j ++ fx :: (sizesF (s + (mo + 1)) L).drop j)) ∧ Below w.heap.size w w') := Lib.hid (fun j hj A c w h => by
        have hr := fres_any (midL L j fx) A c (s + (mo + 1) + fx) w h (by rw [mln j hj]; omega)
        rw [mln j hj] at hr
        refine hr.mono fun e w' hp => ?_
        obtain ⟨A2, c2, rfl, o, hb⟩ := hp
        have e1 : resF (s + (mo + 1) + fx) (midL L j fx) = (sizesF (s + (mo + 1)) L).take j ++ fx :: (sizesF (s + (mo + 1)) L).drop j := by
          rw [res_yes rb (mok j) (by rw [mln j hj]; omega)]; exact EQA.out j hj
        have e2 : (resF (s + (mo + 1) + fx) (midL L j fx)).length = k + 1 := by rw [e1, List.length_append, List.length_cons, List.length_take, List.length_drop, la]; omega
        rw [e2] at o ⊢
        rw [e1] at o
        exact ⟨A2, c2, rfl, o, hb⟩)
      obtain ⟨P, hP⟩ : ∃ P, sizesF (s + (mo + 1)) L = P := ⟨_, rfl⟩
      rw [hP] at la FA FBK EQA
      have LP := Lib.hid la
      have HL := Lib.hid hLk
      clear hP la ea mok mln hok ra rb hbase hLk
      obtain ⟨A1', c1', e1, hnc, hcm, hnil⟩ := owns_nil O.out
      injection e1 with e1 _ e2
      subst e1 e2
      have HA1 : Hid (A' = none ∨ ∃ ga, A' = some ⟨ga, 0, none⟩) := Lib.hid (by
        rcases O.out.2 with ⟨e, -⟩ | ⟨g, cap, cur, e, -⟩
        · injection e with e; exact .inl e
        · injection e with e; exact .inr ⟨g, e⟩)
      have hcm2 : c' ≤ 9223372036854775807 := by unfold maxLen at hcm; omega
      have O1 := O
      have B1 := B
      have R1 := Lib.hid (row_of_own O.out)
      clear O B
      generalize wr = w1 at *
      generalize A' = A1 at *
      generalize c' = c1 at *
      generalize k = n at *
      rcases Z1.out with z1 | ⟨z1, z2⟩
      · have hni : ¬ (n : Int) < zs.length := of_decide_eq_false z1
        have ht1 : ((n : Int) + 1 == 0) = false := by rw [beq_eq_false_iff_ne]; omega
        obtain ⟨k, hk, hkt⟩ : ∃ k : Nat, at_ % 256 % ((n : Int) + 1) = k ∧ k ≤ n := by
          have h2 := Int.emod_nonneg (at_ % 256) (show (n : Int) + 1 ≠ 0 by omega)
          have h3 := Int.emod_lt_of_pos (at_ % 256) (show (0 : Int) < (n : Int) + 1 by omega)
          exact ⟨((at_ % 256) % ((n : Int) + 1)).toNat, by omega, by omega⟩
        go_upto_region 11 with fail
        rw [hk, HFX.out, HMO.out]
        clear hk ht1 k8 k12
        have HKT := Lib.hid hkt
        have CT := Lib.hid (fxC_cut L k n HL.out hkt)
        have LT := Lib.hid (cellsF_take L k (by rw [HL.out]; exact hkt))
        have LDr := Lib.hid (cellsF_drop L k (by rw [HL.out]; exact hkt))
        have FB := Lib.hid (FBK.out k hkt)
        have EQK := Lib.hid (EQA.out k hkt)
        have hki : (k : Int) ≤ n := by omega
        have hkc : k ≤ c1 := by omega
        clear FBK EQA
        go_cut [10] from 58 to 72 (fun v wx => ∃ (A6 : Option Addr) (c6 : Nat), v = .slice A6 (n + 1) c6 ∧ wx.ownsRow w1.heap.size 26 6 (.slice A6 (n + 1) c6) (n + 1) ((midL L k fx).flatMap fxC) ∧ Below w1.heap.size w1 wx)
        case first =>
          rcases HA1.out with hA | ⟨ga, hA⟩
          · subst hA
            have hc0 := hnil rfl
            subst hc0
            have hl00 : L = [] := List.eq_nil_of_length_eq_zero (by rw [HL.out]; omega)
            have hk0 : k = 0 := by omega
            have HL0 := Lib.hid hl00
            have TK : Hid (∀ (w : World), Below w1.heap.size w1 w → ∀ ad, (none : Option Addr) = some ad → ∀ j u, ((L.take k).flatMap fxC)[j]? = some u → w.cell? (ad.add j) = some u) := Lib.hid (fun w _ ad e => by cases e)
            have DR : Hid (∀ (w : World), Below w1.heap.size w1 w → Row w w1.heap.size none ((L.drop k).flatMap fxC)) := Lib.hid (fun w _ => by rw [HL0.out]; simp; exact Row.nil _ _ _)
            clear hl00
            subst hk0
            refine region_lane [1, 2, 3, 5, 6, 7, 11, 12, 13] [0, 4, 8, 9] [10, 14, 15] (by kernel_rfl) (by kernel_rfl) (by intro _ _ _ _ _ h; exact h) ?_
            simp only [pick, List.map_cons, List.map_nil, List.getD_cons_zero, List.getD_cons_succ, List.drop_succ_cons, List.drop_zero]
            repeat (go_big_quiet_step (fail))
            refine wpQuiet_nil ⟨rfl, ?_⟩
            refine laneO_told (rowT w1.heap.size 0 26 []) (rowT_steady _ _ _ _) (by kernel_rfl) rfl (fun w hw => .inl ⟨by rfl, ?_⟩) ?_
            focus (unfold gives; simp [go_sem]; exact rowT_new w1.heap.size 0 26 #[] w hw.size)
            refine laneO_by (ownsT w1.heap.size 26 6 0 ((L.take 0).flatMap fxC)) (ownsT_steady _ _ _ _ _) rfl (fun a' w hb hm => ?_) ?_
            · have m58 : rowT w1.heap.size 0 26 [] (a'.tmps.getD 58 undef) w := hm 58 (by simp [Oper.looksAt, Op.operands, Call.operands])
              have m61 : a'.tmps.getD 61 undef = .slice (none) 0 0 := hm 61 (by simp [Oper.looksAt, Op.operands, Call.operands])
              exact append_lit0 (by rfl) hb.size (.tmp 58) (.tmp 61) 23 26 6 48 fxV0 rfl Try.underlying23 fx_info rfl (by decide) m58 (none) 0 0 ((L.take 0).flatMap fxC) m61 (fun _ => rfl) CT.out.1 (TK.out w hb) (rec_one fxC_one) (by unfold maxLen; omega) (by omega)
            refine laneO_fixed (v := .agg #[.int .i64 fx, .int .i64 fx, .int .i64 fx, .int .i64 0, .int .i64 0, .int .i64 0]) (by kernel_rfl) (fun w hw => .inl ⟨by rfl, built_gives _ _ rfl _ (by kernel_rfl)⟩) ?_
            simp only [Act.put, List.setIfInBounds_toArray, List.set_cons_zero, List.set_cons_succ]
            refine laneO_told (madeT 1 26 [.int .i64 fx, .int .i64 fx, .int .i64 fx, .int .i64 0, .int .i64 0, .int .i64 0]) (madeT_steady _ _ _) (by kernel_rfl) rfl (fun w hw => .inl ⟨by rfl, ?_⟩) ?_
            · unfold gives
              simp [go_sem]
              exact madeT_new 1 26 #[.int .i64 fx, .int .i64 fx, .int .i64 fx, .int .i64 0, .int .i64 0, .int .i64 0] w
            refine laneO_end (by simp) (by rfl) rfl rfl fun w3 hb3 => ?_
            rintro x67 ⟨g5, rfl, h5⟩ x62 ⟨A3, c3, rfl, o3⟩ x58 -
            simp only [fillAll, Act.put, List.setIfInBounds_toArray, List.set_cons_zero, List.set_cons_succ]
            refine wpList_push_all rfl (.tmp 62) (.tmp 67) _ rfl w1.heap.size 26 6 48 fxV0 Try.underlying23 fx_info rfl (by decide) 0 c3 A3 _ rfl o3 _ 1 1 (some ⟨g5, 0, none⟩) [.int .i64 fx, .int .i64 fx, .int .i64 fx, .int .i64 0, .int .i64 0, .int .i64 0] rfl (fun h => by cases h) rfl (row_told h5) (by simp [Value.oneCell']) (by unfold maxLen; omega) (by omega) hb3.size (fun A4 c4 w4 o4 hb4 => ?_)
            simp only [Act.put, List.setIfInBounds_toArray, List.set_cons_zero, List.set_cons_succ]
            have B4 := Lib.hid (Below.trans hb3 hb4)
            refine wpList_push_all rfl (.tmp 68) (.tmp 71) _ rfl w1.heap.size 26 6 48 fxV0 Try.underlying23 fx_info rfl (by decide) (0 + 1) c4 A4 _ rfl o4 _ 0 _ (none) ((L.drop 0).flatMap fxC) rfl (fun _ => rfl) (by rw [HL0.out]; rfl) (DR.out w4 B4.out) (rec_one fxC_one) (by unfold maxLen; omega) (by omega) B4.out.size (fun A5 c5 w5 o5 hb5 => ?_)
            simp only [Act.put, List.setIfInBounds_toArray, List.set_cons_zero, List.set_cons_succ]
            have B5 := Lib.hid (B4.out.trans hb5)
            rw [mid_cells, show 0 + 1 + 0 = n + 1 by omega] at o5
            have O5 := Lib.hid o5
            have HN5 : Hid (0 + 1 + 0 = n + 1) := Lib.hid (by omega)
            clear o5 hb5 o4 hb4 o3 h5 hb3 B4 TK DR
            rw [HN5.out]
            go_wp2_with fail
            go_meet
            exact ⟨A5, c5, rfl, O5.out, B5.out⟩
          · subst hA
            have TK : Hid (∀ (w : World), Below w1.heap.size w1 w → ∀ ad, (some ⟨ga, 0, none⟩ : Option Addr) = some ad → ∀ j u, ((L.take k).flatMap fxC)[j]? = some u → w.cell? (ad.add j) = some u) := Lib.hid (fun w hw ad e j u hu => by
              injection e with e
              subst e
              rw [LT.out] at hu
              exact cellsF_row ((R1.out.below hw).take (k * 6)) j u hu)
            by_cases hck : k = c1
            · subst hck
              have DR : Hid (∀ (w : World), Below w1.heap.size w1 w → Row w w1.heap.size (some ⟨ga, 0, none⟩) ((L.drop k).flatMap fxC)) := Lib.hid (fun w hw => by
                rw [List.drop_of_length_le (by rw [HL.out]; omega)]; exact Row.nil _ _ _)
              refine region_lane [1, 2, 3, 5, 6, 7, 11, 12, 13] [0, 4, 8, 9] [10, 14, 15] (by kernel_rfl) (by kernel_rfl) (by intro _ _ _ _ _ h; exact h) ?_
              simp only [pick, List.map_cons, List.map_nil, List.getD_cons_zero, List.getD_cons_succ, List.drop_succ_cons, List.drop_zero]
              repeat (go_big_quiet_step (fail))
              refine wpQuiet_nil ⟨rfl, ?_⟩
              refine laneO_told (rowT w1.heap.size 0 26 []) (rowT_steady _ _ _ _) (by kernel_rfl) rfl (fun w hw => .inl ⟨by rfl, ?_⟩) ?_
              focus (unfold gives; simp [go_sem]; exact rowT_new w1.heap.size 0 26 #[] w hw.size)
              refine laneO_by (ownsT w1.heap.size 26 6 k ((L.take k).flatMap fxC)) (ownsT_steady _ _ _ _ _) rfl (fun a' w hb hm => ?_) ?_
              · have m58 : rowT w1.heap.size 0 26 [] (a'.tmps.getD 58 undef) w := hm 58 (by simp [Oper.looksAt, Op.operands, Call.operands])
                have m61 : a'.tmps.getD 61 undef = .slice (some ⟨ga, 0, none⟩) k k := hm 61 (by simp [Oper.looksAt, Op.operands, Call.operands])
                exact append_lit0 (by rfl) hb.size (.tmp 58) (.tmp 61) 23 26 6 48 fxV0 rfl Try.underlying23 fx_info rfl (by decide) m58 (some ⟨ga, 0, none⟩) k k ((L.take k).flatMap fxC) m61 (fun h => by cases h) CT.out.1 (TK.out w hb) (rec_one fxC_one) (by unfold maxLen; omega) (by omega)
              refine laneO_fixed (v := .agg #[.int .i64 fx, .int .i64 fx, .int .i64 fx, .int .i64 0, .int .i64 0, .int .i64 0]) (by kernel_rfl) (fun w hw => .inl ⟨by rfl, built_gives _ _ rfl _ (by kernel_rfl)⟩) ?_
              simp only [Act.put, List.setIfInBounds_toArray, List.set_cons_zero, List.set_cons_succ]
              refine laneO_told (madeT 1 26 [.int .i64 fx, .int .i64 fx, .int .i64 fx, .int .i64 0, .int .i64 0, .int .i64 0]) (madeT_steady _ _ _) (by kernel_rfl) rfl (fun w hw => .inl ⟨by rfl, ?_⟩) ?_
              · unfold gives
                simp [go_sem]
                exact madeT_new 1 26 #[.int .i64 fx, .int .i64 fx, .int .i64 fx, .int .i64 0, .int .i64 0, .int .i64 0] w
              refine laneO_end (by simp) (by rfl) rfl rfl fun w3 hb3 => ?_
              rintro x67 ⟨g5, rfl, h5⟩ x62 ⟨A3, c3, rfl, o3⟩ x58 -
              simp only [fillAll, Act.put, List.setIfInBounds_toArray, List.set_cons_zero, List.set_cons_succ]
              refine wpList_push_all rfl (.tmp 62) (.tmp 67) _ rfl w1.heap.size 26 6 48 fxV0 Try.underlying23 fx_info rfl (by decide) k c3 A3 _ rfl o3 _ 1 1 (some ⟨g5, 0, none⟩) [.int .i64 fx, .int .i64 fx, .int .i64 fx, .int .i64 0, .int .i64 0, .int .i64 0] rfl (fun h => by cases h) rfl (row_told h5) (by simp [Value.oneCell']) (by unfold maxLen; omega) (by omega) hb3.size (fun A4 c4 w4 o4 hb4 => ?_)
              simp only [Act.put, List.setIfInBounds_toArray, List.set_cons_zero, List.set_cons_succ]
              have B4 := Lib.hid (Below.trans hb3 hb4)
              refine wpList_push_all rfl (.tmp 68) (.tmp 71) _ rfl w1.heap.size 26 6 48 fxV0 Try.underlying23 fx_info rfl (by decide) (k + 1) c4 A4 _ rfl o4 _ 0 _ (some ⟨ga, 0, none⟩) ((L.drop k).flatMap fxC) rfl (fun h => by cases h) (by rw [CT.out.2]; omega) (DR.out w4 B4.out) (rec_one fxC_one) (by unfold maxLen; omega) (by omega) B4.out.size (fun A5 c5 w5 o5 hb5 => ?_)
              simp only [Act.put, List.setIfInBounds_toArray, List.set_cons_zero, List.set_cons_succ]
              have B5 := Lib.hid (B4.out.trans hb5)
              rw [mid_cells, show k + 1 + 0 = n + 1 by omega] at o5
              have O5 := Lib.hid o5
              have HN5 : Hid (k + 1 + 0 = n + 1) := Lib.hid (by omega)
              clear o5 hb5 o4 hb4 o3 h5 hb3 B4 TK DR
              rw [HN5.out]
              go_wp2_with fail
              go_meet
              exact ⟨A5, c5, rfl, O5.out, B5.out⟩
            · have DR : Hid (∀ (w : World), Below w1.heap.size w1 w → Row w w1.heap.size (some ⟨ga, k * 6, none⟩) ((L.drop k).flatMap fxC)) := Lib.hid (fun w hw => by
                rw [LDr.out]
                have h := (R1.out.below hw).drop (k * 6)
                rwa [head_add] at h)
              refine region_lane [1, 2, 3, 5, 6, 7, 11, 12, 13] [0, 4, 8, 9] [10, 14, 15] (by kernel_rfl) (by kernel_rfl) (by intro _ _ _ _ _ h; exact h) ?_
              simp only [pick, List.map_cons, List.map_nil, List.getD_cons_zero, List.getD_cons_succ, List.drop_succ_cons, List.drop_zero]
              repeat (go_big_quiet_step (fail))
              refine wpQuiet_nil ⟨rfl, ?_⟩
              refine laneO_told (rowT w1.heap.size 0 26 []) (rowT_steady _ _ _ _) (by kernel_rfl) rfl (fun w hw => .inl ⟨by rfl, ?_⟩) ?_
              focus (unfold gives; simp [go_sem]; exact rowT_new w1.heap.size 0 26 #[] w hw.size)
              refine laneO_by (ownsT w1.heap.size 26 6 k ((L.take k).flatMap fxC)) (ownsT_steady _ _ _ _ _) rfl (fun a' w hb hm => ?_) ?_
              · have m58 : rowT w1.heap.size 0 26 [] (a'.tmps.getD 58 undef) w := hm 58 (by simp [Oper.looksAt, Op.operands, Call.operands])
                have m61 : a'.tmps.getD 61 undef = .slice (some ⟨ga, 0, none⟩) k c1 := hm 61 (by simp [Oper.looksAt, Op.operands, Call.operands])
                exact append_lit0 (by rfl) hb.size (.tmp 58) (.tmp 61) 23 26 6 48 fxV0 rfl Try.underlying23 fx_info rfl (by decide) m58 (some ⟨ga, 0, none⟩) k c1 ((L.take k).flatMap fxC) m61 (fun h => by cases h) CT.out.1 (TK.out w hb) (rec_one fxC_one) (by unfold maxLen; omega) (by omega)
              refine laneO_fixed (v := .agg #[.int .i64 fx, .int .i64 fx, .int .i64 fx, .int .i64 0, .int .i64 0, .int .i64 0]) (by kernel_rfl) (fun w hw => .inl ⟨by rfl, built_gives _ _ rfl _ (by kernel_rfl)⟩) ?_
              simp only [Act.put, List.setIfInBounds_toArray, List.set_cons_zero, List.set_cons_succ]
              refine laneO_told (madeT 1 26 [.int .i64 fx, .int .i64 fx, .int .i64 fx, .int .i64 0, .int .i64 0, .int .i64 0]) (madeT_steady _ _ _) (by kernel_rfl) rfl (fun w hw => .inl ⟨by rfl, ?_⟩) ?_
              · unfold gives
                simp [go_sem]
                exact madeT_new 1 26 #[.int .i64 fx, .int .i64 fx, .int .i64 fx, .int .i64 0, .int .i64 0, .int .i64 0] w
              refine laneO_end (by simp) (by rfl) rfl rfl fun w3 hb3 => ?_
              rintro x67 ⟨g5, rfl, h5⟩ x62 ⟨A3, c3, rfl, o3⟩ x58 -
              simp only [fillAll, Act.put, List.setIfInBounds_toArray, List.set_cons_zero, List.set_cons_succ]
              refine wpList_push_all rfl (.tmp 62) (.tmp 67) _ rfl w1.heap.size 26 6 48 fxV0 Try.underlying23 fx_info rfl (by decide) k c3 A3 _ rfl o3 _ 1 1 (some ⟨g5, 0, none⟩) [.int .i64 fx, .int .i64 fx, .int .i64 fx, .int .i64 0, .int .i64 0, .int .i64 0] rfl (fun h => by cases h) rfl (row_told h5) (by simp [Value.oneCell']) (by unfold maxLen; omega) (by omega) hb3.size (fun A4 c4 w4 o4 hb4 => ?_)
              simp only [Act.put, List.setIfInBounds_toArray, List.set_cons_zero, List.set_cons_succ]
              have B4 := Lib.hid (Below.trans hb3 hb4)
              refine wpList_push_all rfl (.tmp 68) (.tmp 71) _ rfl w1.heap.size 26 6 48 fxV0 Try.underlying23 fx_info rfl (by decide) (k + 1) c4 A4 _ rfl o4 _ (n - k) (c1 - k) (some ⟨ga, k * 6, none⟩) ((L.drop k).flatMap fxC) rfl (fun h => by cases h) CT.out.2 (DR.out w4 B4.out) (rec_one fxC_one) (by unfold maxLen; omega) (by omega) B4.out.size (fun A5 c5 w5 o5 hb5 => ?_)
              simp only [Act.put, List.setIfInBounds_toArray, List.set_cons_zero, List.set_cons_succ]
              have B5 := Lib.hid (B4.out.trans hb5)
              rw [mid_cells, show k + 1 + (n - k) = n + 1 by omega] at o5
              have O5 := Lib.hid o5
              have HN5 : Hid (k + 1 + (n - k) = n + 1) := Lib.hid (by omega)
              clear o5 hb5 o4 hb4 o3 h5 hb3 B4 TK DR
              rw [HN5.out]
              go_wp2_with fail
              go_meet
              exact ⟨A5, c5, rfl, O5.out, B5.out⟩
        case rest =>
          obtain ⟨A6, c6, rfl, o6, hb6⟩ := hcut
          have M := Lib.hid (row_of_own o6)
          have R := Lib.hid ((R1.out.below hb6).more hb6.size)
          have B2 := Lib.hid (B1.out.trans (hb6.mono B1.out.size))
          clear o6 hb6 R1 O1 B1 HA1 CT LT LDr hkc hnil hnc hcm hcm2
          generalize wc = w2 at *
          go_wp2_with fail
          refine (FA.out _ R.out).mono ?_
          rintro e w3 ⟨A7, c7, rfl, r3, hb3⟩
          have R3 := Lib.hid r3
          have M3 := Lib.hid ((M.out.below hb3).more hb3.size)
          have B3 := Lib.hid (B2.out.trans (hb3.mono B2.out.size))
          clear r3 hb3 FA R M B2
          go_wp2_with fail
          refine (FB.out A6 c6 _ M3.out).mono ?_
          rintro e w4 ⟨A8, c8, rfl, o8, hb8⟩
          obtain ⟨gz, hgz⟩ := own_head o8 (by omega)
          have hcap := own_cap o8
          have Z := Lib.hid (row_of_own o8)
          have R4 := Lib.hid ((R3.out.below hb8).more hb8.size)
          have B4 := Lib.hid (B3.out.trans (hb8.mono B3.out.size))
          subst hgz
          clear o8 hb8 FB M3 R3 B3
          obtain ⟨Q, hQ⟩ : ∃ Q, P.take k ++ fx :: P.drop k = Q := ⟨_, rfl⟩
          have QL : Hid (Q.length = n + 1) := Lib.hid (by rw [← hQ, List.length_append, List.length_cons, List.length_take, List.length_drop, LP.out]; omega)
          have QK : Hid (Q[k]? = some fx) := Lib.hid (by rw [← hQ, List.getElem?_append_right (by rw [List.length_take]; omega), List.length_take, LP.out, Nat.min_eq_left hkt, Nat.sub_self]; rfl)
          have QE : Hid (Q.take k ++ Q.drop (k + 1) = P) := Lib.hid (by
            have hl : (P.take k).length = k := by rw [List.length_take, LP.out]; omega
            rw [← hQ, List.take_left' hl, List.drop_append, List.drop_of_length_le (by omega), hl, Nat.add_sub_cancel_left, List.nil_append, List.drop_succ_cons, List.drop_zero, List.take_append_drop])
          rw [hQ] at Z
          clear hQ
          generalize w4 = w3 at *
          have B3 := B4
          clear B4
          obtain ⟨a9, he9, hab9, d0⟩ := Z.out.int (k := k) (by rw [QL.out]; omega)
          injection he9 with he9
          subst he9
          rw [(List.getElem?_eq_some_iff.1 QK.out).2, head_add] at d0
          have LZ1 : Hid ((i64s (Q.take k)).length = k * 1) := Lib.hid (by rw [i64s_length, List.length_take, QL.out]; omega)
          have LZ2 : Hid ((i64s (Q.drop (k + 1))).length = (n - k) * 1) := Lib.hid (by rw [i64s_length, List.length_drop, QL.out]; omega)
          have EQ : Hid (i64s (Q.take k) ++ i64s (Q.drop (k + 1)) = i64s P) := Lib.hid (by rw [← i64s_append, QE.out])
          have TK : Hid (∀ (w : World), Below w3.heap.size w3 w → Row w w3.heap.size (some ⟨gz, 0, none⟩) (i64s (Q.take k))) := Lib.hid (fun w hw => by
            have h := (Z.out.below hw).take k
            rwa [i64s_take] at h)
          have PP : Hid (∀ (w : World), Below w3.heap.size w3 w → Row w w3.heap.size A7 (i64s P)) := Lib.hid (fun w hw => R4.out.below hw)
          have hkz : (k : Int) + 1 ≤ n + 1 := by omega
          have hkz1 : (k : Int) < n + 1 := by omega
          have hkz2 : k ≤ c8 := by omega
          have hkz3 : k + 1 ≤ c8 := by omega
          have hkz4 : k ≤ n + 1 := by omega
          have dq : ∀ t : Later w3.heap.size w3, t.w.cell? ⟨gz, k, none⟩ = some (.int .i64 fx) := fun t => (t.h.cell (p := ⟨gz, k, none⟩) hab9).trans d0
          clear R4 QK QE
          by_cases hck : c8 = k + 1
          · have hkl : k = n := by omega
            subst hck
            have DR : Hid (∀ (w : World), Below w3.heap.size w3 w → Row w w3.heap.size (some ⟨gz, 0, none⟩) (i64s (Q.drop (k + 1)))) := Lib.hid (fun w hw => by
              have h := LZ2.out
              rw [show (n - k) * 1 = 0 by omega] at h
              rw [List.eq_nil_of_length_eq_zero h]; exact Row.nil _ _ _)
            have LZ0 : Hid ((i64s (Q.drop (k + 1))).length = 0 * 1) := Lib.hid (by rw [LZ2.out]; omega)
            clear Z hkl
            go_upto_region 15 with fail
            refine region_laneP [] [0, 1, 2, 3, 4, 5, 6] [8, 9, 10, 12, 13, 14, 15, 17] [7, 11, 16, 18, 19, 20, 21, 22, 23] (by kernel_rfl) (by kernel_rfl) (by intro _ _ _ _ _ h; exact h) ?_
            simp only [pick, List.map_cons, List.map_nil, List.getD_cons_zero, List.getD_cons_succ, List.drop_succ_cons, List.drop_zero]
            refine wpQuiet_nil ⟨rfl, ?_⟩
            refine laneO_run 7 (by kernel_rfl) ?_
            simp only [List.take_succ_cons, List.take_zero, List.drop_succ_cons, List.drop_zero]
            repeat (go_big_quiet_step (fail))
            refine wpQuiet_nil ?_
            refine laneP_end0 rfl rfl fun w4 hb4 => ?_
            repeat (go_big_quiet_step (fail))
            refine wpQuiet_nil ?_
            have E0 := Lib.hid (own_none (size := 1) (Whole.mk w4 2 #[]) (Nat.le_refl _))
            have B4 := Lib.hid ((show Below w3.heap.size w3 w4 from hb4).alloc hb4.size (.cells #[] 2))
            have z4 : w4.heap.size ≤ (w4.alloc (.cells #[] 2)).heap.size := by simp
            clear d0
            go_wp2_with (first
              | (at_builtin; refine wpList_push_all (by rfl) (.tmp 104) (.tmp 107) _ rfl w4.heap.size 2 1 8 (.int .i64 0) Try.underlying22 i64b_info rfl (by decide) 0 0 (some ⟨w4.heap.size, 0, none⟩) [] rfl E0.out _ k _ (some ⟨gz, 0, none⟩) (i64s (Q.take k)) rfl (fun h => by cases h) LZ1.out (TK.out _ B4.out) (i64s_one _) (by unfold maxLen; omega) (by omega) z4 ?_; rw [Nat.zero_add, List.nil_append]; intro A9 c9 w5 o5 hb5; have O5 := Lib.hid o5; have B5 := Lib.hid (B4.out.trans (hb5.mono hb4.size)); have z5 := Nat.le_trans z4 hb5.size; clear o5 hb5 B4 E0 TK)
              | (at_builtin; refine wpList_push_all (by rfl) (.tmp 108) (.tmp 112) _ rfl w4.heap.size 2 1 8 (.int .i64 0) Try.underlying22 i64b_info rfl (by decide) k c9 A9 _ rfl O5.out _ 0 _ (some ⟨gz, 0, none⟩) (i64s (Q.drop (k + 1))) rfl (fun h => by cases h) LZ0.out (DR.out _ B5.out) (i64s_one _) (by unfold maxLen; omega) (by omega) z5 ?_; rw [EQ.out, show k + 0 = n by omega]; intro A10 c10 w6 o6 hb6; have O6 := Lib.hid o6; have B6 := Lib.hid (B5.out.trans (hb6.mono (by have := hb4.size; omega))); clear o6 hb6 B5 DR O5))
            refine (ksame_any _ _ _ _ n P _ _ _ (row_of_own O6.out) (PP.out _ B6.out) LP.out (by omega)).mono ?_
            rintro e w7 ⟨rfl, q, rfl⟩
            have B7 := Lib.hid (B3.out.trans ((Below.drewN' B6.out q).mono B3.out.size))
            clear O6 B6
            generalize w6.drewN q = w8 at *
            go_wp2_with fail
            refine (AW.out _).mono ?_
            rintro e w9 ⟨rfl, hb9⟩
            have B9 := Lib.hid (B7.out.trans (hb9.mono B7.out.size))
            clear hb9
            go_wp2_with fail
            go_ret
            exact ⟨rfl, B9.out⟩
          · have DR : Hid (∀ (w : World), Below w3.heap.size w3 w → Row w w3.heap.size (some ⟨gz, k + 1, none⟩) (i64s (Q.drop (k + 1)))) := Lib.hid (fun w hw => by
              have h := (Z.out.below hw).drop (k + 1)
              rw [head_add] at h
              rwa [i64s_drop] at h)
            clear Z
            go_upto_region 15 with fail
            refine region_laneP [] [0, 1, 2, 3, 4, 5, 6] [8, 9, 10, 12, 13, 14, 15, 17] [7, 11, 16, 18, 19, 20, 21, 22, 23] (by kernel_rfl) (by kernel_rfl) (by intro _ _ _ _ _ h; exact h) ?_
            simp only [pick, List.map_cons, List.map_nil, List.getD_cons_zero, List.getD_cons_succ, List.drop_succ_cons, List.drop_zero]
            refine wpQuiet_nil ⟨rfl, ?_⟩
            refine laneO_run 7 (by kernel_rfl) ?_
            simp only [List.take_succ_cons, List.take_zero, List.drop_succ_cons, List.drop_zero]
            repeat (go_big_quiet_step (fail))
            refine wpQuiet_nil ?_
            refine laneP_end0 rfl rfl fun w4 hb4 => ?_
            repeat (go_big_quiet_step (fail))
            refine wpQuiet_nil ?_
            have E0 := Lib.hid (own_none (size := 1) (Whole.mk w4 2 #[]) (Nat.le_refl _))
            have B4 := Lib.hid ((show Below w3.heap.size w3 w4 from hb4).alloc hb4.size (.cells #[] 2))
            have z4 : w4.heap.size ≤ (w4.alloc (.cells #[] 2)).heap.size := by simp
            clear d0
            go_wp2_with (first
              | (at_builtin; refine wpList_push_all (by rfl) (.tmp 104) (.tmp 107) _ rfl w4.heap.size 2 1 8 (.int .i64 0) Try.underlying22 i64b_info rfl (by decide) 0 0 (some ⟨w4.heap.size, 0, none⟩) [] rfl E0.out _ k _ (some ⟨gz, 0, none⟩) (i64s (Q.take k)) rfl (fun h => by cases h) LZ1.out (TK.out _ B4.out) (i64s_one _) (by unfold maxLen; omega) (by omega) z4 ?_; rw [Nat.zero_add, List.nil_append]; intro A9 c9 w5 o5 hb5; have O5 := Lib.hid o5; have B5 := Lib.hid (B4.out.trans (hb5.mono hb4.size)); have z5 := Nat.le_trans z4 hb5.size; clear o5 hb5 B4 E0 TK)
              | (at_builtin; refine wpList_push_all (by rfl) (.tmp 108) (.tmp 112) _ rfl w4.heap.size 2 1 8 (.int .i64 0) Try.underlying22 i64b_info rfl (by decide) k c9 A9 _ rfl O5.out _ (n - k) _ (some ⟨gz, k + 1, none⟩) (i64s (Q.drop (k + 1))) rfl (fun h => by cases h) LZ2.out (DR.out _ B5.out) (i64s_one _) (by unfold maxLen; omega) (by omega) z5 ?_; rw [EQ.out, show k + (n - k) = n by omega]; intro A10 c10 w6 o6 hb6; have O6 := Lib.hid o6; have B6 := Lib.hid (B5.out.trans (hb6.mono (by have := hb4.size; omega))); clear o6 hb6 B5 DR O5))
            refine (ksame_any _ _ _ _ n P _ _ _ (row_of_own O6.out) (PP.out _ B6.out) LP.out (by omega)).mono ?_
            rintro e w7 ⟨rfl, q, rfl⟩
            have B7 := Lib.hid (B3.out.trans ((Below.drewN' B6.out q).mono B3.out.size))
            clear O6 B6
            generalize w6.drewN q = w8 at *
            go_wp2_with fail
            refine (AW.out _).mono ?_
            rintro e w9 ⟨rfl, hb9⟩
            have B9 := Lib.hid (B7.out.trans (hb9.mono B7.out.size))
            clear hb9
            go_wp2_with fail
            go_ret
            exact ⟨rfl, B9.out⟩
      · have hni : (n : Int) < zs.length := of_decide_eq_true z1
        have hnj : ¬ (n : Int) < 8 := of_decide_eq_false z2
        have ht1 : ((n : Int) + 1 == 0) = false := by rw [beq_eq_false_iff_ne]; omega
        obtain ⟨k, hk, hkt⟩ : ∃ k : Nat, at_ % 256 % ((n : Int) + 1) = k ∧ k ≤ n := by
          have h2 := Int.emod_nonneg (at_ % 256) (show (n : Int) + 1 ≠ 0 by omega)
          have h3 := Int.emod_lt_of_pos (at_ % 256) (show (0 : Int) < (n : Int) + 1 by omega)
          exact ⟨((at_ % 256) % ((n : Int) + 1)).toNat, by omega, by omega⟩
        go_upto_region 11 with fail
        rw [hk, HFX.out, HMO.out]
        clear hk ht1 k8 k12
        have HKT := Lib.hid hkt
        have CT := Lib.hid (fxC_cut L k n HL.out hkt)
        have LT := Lib.hid (cellsF_take L k (by rw [HL.out]; exact hkt))
        have LDr := Lib.hid (cellsF_drop L k (by rw [HL.out]; exact hkt))
        have FB := Lib.hid (FBK.out k hkt)
        have EQK := Lib.hid (EQA.out k hkt)
        have hki : (k : Int) ≤ n := by omega
        have hkc : k ≤ c1 := by omega
        clear FBK EQA
        go_cut [10] from 58 to 72 (fun v wx => ∃ (A6 : Option Addr) (c6 : Nat), v = .slice A6 (n + 1) c6 ∧ wx.ownsRow w1.heap.size 26 6 (.slice A6 (n + 1) c6) (n + 1) ((midL L k fx).flatMap fxC) ∧ Below w1.heap.size w1 wx)
        case first =>
          rcases HA1.out with hA | ⟨ga, hA⟩
          · subst hA
            have hc0 := hnil rfl
            subst hc0
            have hl00 : L = [] := List.eq_nil_of_length_eq_zero (by rw [HL.out]; omega)
            have hk0 : k = 0 := by omega
            have HL0 := Lib.hid hl00
            have TK : Hid (∀ (w : World), Below w1.heap.size w1 w → ∀ ad, (none : Option Addr) = some ad → ∀ j u, ((L.take k).flatMap fxC)[j]? = some u → w.cell? (ad.add j) = some u) := Lib.hid (fun w _ ad e => by cases e)
            have DR : Hid (∀ (w : World), Below w1.heap.size w1 w → Row w w1.heap.size none ((L.drop k).flatMap fxC)) := Lib.hid (fun w _ => by rw [HL0.out]; simp; exact Row.nil _ _ _)
            clear hl00
            subst hk0
            refine region_lane [1, 2, 3, 5, 6, 7, 11, 12, 13] [0, 4, 8, 9] [10, 14, 15] (by kernel_rfl) (by kernel_rfl) (by intro _ _ _ _ _ h; exact h) ?_
            simp only [pick, List.map_cons, List.map_nil, List.getD_cons_zero, List.getD_cons_succ, List.drop_succ_cons, List.drop_zero]
            repeat (go_big_quiet_step (fail))
            refine wpQuiet_nil ⟨rfl, ?_⟩
            refine laneO_told (rowT w1.heap.size 0 26 []) (rowT_steady _ _ _ _) (by kernel_rfl) rfl (fun w hw => .inl ⟨by rfl, ?_⟩) ?_
            focus (unfold gives; simp [go_sem]; exact rowT_new w1.heap.size 0 26 #[] w hw.size)
            refine laneO_by (ownsT w1.heap.size 26 6 0 ((L.take 0).flatMap fxC)) (ownsT_steady _ _ _ _ _) rfl (fun a' w hb hm => ?_) ?_
            · have m58 : rowT w1.heap.size 0 26 [] (a'.tmps.getD 58 undef) w := hm 58 (by simp [Oper.looksAt, Op.operands, Call.operands])
              have m61 : a'.tmps.getD 61 undef = .slice (none) 0 0 := hm 61 (by simp [Oper.looksAt, Op.operands, Call.operands])
              exact append_lit0 (by rfl) hb.size (.tmp 58) (.tmp 61) 23 26 6 48 fxV0 rfl Try.underlying23 fx_info rfl (by decide) m58 (none) 0 0 ((L.take 0).flatMap fxC) m61 (fun _ => rfl) CT.out.1 (TK.out w hb) (rec_one fxC_one) (by unfold maxLen; omega) (by omega)
            refine laneO_fixed (v := .agg #[.int .i64 fx, .int .i64 fx, .int .i64 fx, .int .i64 0, .int .i64 0, .int .i64 0]) (by kernel_rfl) (fun w hw => .inl ⟨by rfl, built_gives _ _ rfl _ (by kernel_rfl)⟩) ?_
            simp only [Act.put, List.setIfInBounds_toArray, List.set_cons_zero, List.set_cons_succ]
            refine laneO_told (madeT 1 26 [.int .i64 fx, .int .i64 fx, .int .i64 fx, .int .i64 0, .int .i64 0, .int .i64 0]) (madeT_steady _ _ _) (by kernel_rfl) rfl (fun w hw => .inl ⟨by rfl, ?_⟩) ?_
            · unfold gives
              simp [go_sem]
              exact madeT_new 1 26 #[.int .i64 fx, .int .i64 fx, .int .i64 fx, .int .i64 0, .int .i64 0, .int .i64 0] w
            refine laneO_end (by simp) (by rfl) rfl rfl fun w3 hb3 => ?_
            rintro x67 ⟨g5, rfl, h5⟩ x62 ⟨A3, c3, rfl, o3⟩ x58 -
            simp only [fillAll, Act.put, List.setIfInBounds_toArray, List.set_cons_zero, List.set_cons_succ]
            refine wpList_push_all rfl (.tmp 62) (.tmp 67) _ rfl w1.heap.size 26 6 48 fxV0 Try.underlying23 fx_info rfl (by decide) 0 c3 A3 _ rfl o3 _ 1 1 (some ⟨g5, 0, none⟩) [.int .i64 fx, .int .i64 fx, .int .i64 fx, .int .i64 0, .int .i64 0, .int .i64 0] rfl (fun h => by cases h) rfl (row_told h5) (by simp [Value.oneCell']) (by unfold maxLen; omega) (by omega) hb3.size (fun A4 c4 w4 o4 hb4 => ?_)
            simp only [Act.put, List.setIfInBounds_toArray, List.set_cons_zero, List.set_cons_succ]
            have B4 := Lib.hid (Below.trans hb3 hb4)
            refine wpList_push_all rfl (.tmp 68) (.tmp 71) _ rfl w1.heap.size 26 6 48 fxV0 Try.underlying23 fx_info rfl (by decide) (0 + 1) c4 A4 _ rfl o4 _ 0 _ (none) ((L.drop 0).flatMap fxC) rfl (fun _ => rfl) (by rw [HL0.out]; rfl) (DR.out w4 B4.out) (rec_one fxC_one) (by unfold maxLen; omega) (by omega) B4.out.size (fun A5 c5 w5 o5 hb5 => ?_)
            simp only [Act.put, List.setIfInBounds_toArray, List.set_cons_zero, List.set_cons_succ]
            have B5 := Lib.hid (B4.out.trans hb5)
            rw [mid_cells, show 0 + 1 + 0 = n + 1 by omega] at o5
            have O5 := Lib.hid o5
            have HN5 : Hid (0 + 1 + 0 = n + 1) := Lib.hid (by omega)
            clear o5 hb5 o4 hb4 o3 h5 hb3 B4 TK DR
            rw [HN5.out]
            go_wp2_with fail
            go_meet
            exact ⟨A5, c5, rfl, O5.out, B5.out⟩
          · subst hA
            have TK : Hid (∀ (w : World), Below w1.heap.size w1 w → ∀ ad, (some ⟨ga, 0, none⟩ : Option Addr) = some ad → ∀ j u, ((L.take k).flatMap fxC)[j]? = some u → w.cell? (ad.add j) = some u) := Lib.hid (fun w hw ad e j u hu => by
              injection e with e
              subst e
              rw [LT.out] at hu
              exact cellsF_row ((R1.out.below hw).take (k * 6)) j u hu)
            by_cases hck : k = c1
            · subst hck
              have DR : Hid (∀ (w : World), Below w1.heap.size w1 w → Row w w1.heap.size (some ⟨ga, 0, none⟩) ((L.drop k).flatMap fxC)) := Lib.hid (fun w hw => by
                rw [List.drop_of_length_le (by rw [HL.out]; omega)]; exact Row.nil _ _ _)
              refine region_lane [1, 2, 3, 5, 6, 7, 11, 12, 13] [0, 4, 8, 9] [10, 14, 15] (by kernel_rfl) (by kernel_rfl) (by intro _ _ _ _ _ h; exact h) ?_
              simp only [pick, List.map_cons, List.map_nil, List.getD_cons_zero, List.getD_cons_succ, List.drop_succ_cons, List.drop_zero]
              repeat (go_big_quiet_step (fail))
              refine wpQuiet_nil ⟨rfl, ?_⟩
              refine laneO_told (rowT w1.heap.size 0 26 []) (rowT_steady _ _ _ _) (by kernel_rfl) rfl (fun w hw => .inl ⟨by rfl, ?_⟩) ?_
              focus (unfold gives; simp [go_sem]; exact rowT_new w1.heap.size 0 26 #[] w hw.size)
              refine laneO_by (ownsT w1.heap.size 26 6 k ((L.take k).flatMap fxC)) (ownsT_steady _ _ _ _ _) rfl (fun a' w hb hm => ?_) ?_
              · have m58 : rowT w1.heap.size 0 26 [] (a'.tmps.getD 58 undef) w := hm 58 (by simp [Oper.looksAt, Op.operands, Call.operands])
                have m61 : a'.tmps.getD 61 undef = .slice (some ⟨ga, 0, none⟩) k k := hm 61 (by simp [Oper.looksAt, Op.operands, Call.operands])
                exact append_lit0 (by rfl) hb.size (.tmp 58) (.tmp 61) 23 26 6 48 fxV0 rfl Try.underlying23 fx_info rfl (by decide) m58 (some ⟨ga, 0, none⟩) k k ((L.take k).flatMap fxC) m61 (fun h => by cases h) CT.out.1 (TK.out w hb) (rec_one fxC_one) (by unfold maxLen; omega) (by omega)
              refine laneO_fixed (v := .agg #[.int .i64 fx, .int .i64 fx, .int .i64 fx, .int .i64 0, .int .i64 0, .int .i64 0]) (by kernel_rfl) (fun w hw => .inl ⟨by rfl, built_gives _ _ rfl _ (by kernel_rfl)⟩) ?_
              simp only [Act.put, List.setIfInBounds_toArray, List.set_cons_zero, List.set_cons_succ]
              refine laneO_told (madeT 1 26 [.int .i64 fx, .int .i64 fx, .int .i64 fx, .int .i64 0, .int .i64 0, .int .i64 0]) (madeT_steady _ _ _) (by kernel_rfl) rfl (fun w hw => .inl ⟨by rfl, ?_⟩) ?_
              · unfold gives
                simp [go_sem]
                exact madeT_new 1 26 #[.int .i64 fx, .int .i64 fx, .int .i64 fx, .int .i64 0, .int .i64 0, .int .i64 0] w
              refine laneO_end (by simp) (by rfl) rfl rfl fun w3 hb3 => ?_
              rintro x67 ⟨g5, rfl, h5⟩ x62 ⟨A3, c3, rfl, o3⟩ x58 -
              simp only [fillAll, Act.put, List.setIfInBounds_toArray, List.set_cons_zero, List.set_cons_succ]
              refine wpList_push_all rfl (.tmp 62) (.tmp 67) _ rfl w1.heap.size 26 6 48 fxV0 Try.underlying23 fx_info rfl (by decide) k c3 A3 _ rfl o3 _ 1 1 (some ⟨g5, 0, none⟩) [.int .i64 fx, .int .i64 fx, .int .i64 fx, .int .i64 0, .int .i64 0, .int .i64 0] rfl (fun h => by cases h) rfl (row_told h5) (by simp [Value.oneCell']) (by unfold maxLen; omega) (by omega) hb3.size (fun A4 c4 w4 o4 hb4 => ?_)
              simp only [Act.put, List.setIfInBounds_toArray, List.set_cons_zero, List.set_cons_succ]
              have B4 := Lib.hid (Below.trans hb3 hb4)
              refine wpList_push_all rfl (.tmp 68) (.tmp 71) _ rfl w1.heap.size 26 6 48 fxV0 Try.underlying23 fx_info rfl (by decide) (k + 1) c4 A4 _ rfl o4 _ 0 _ (some ⟨ga, 0, none⟩) ((L.drop k).flatMap fxC) rfl (fun h => by cases h) (by rw [CT.out.2]; omega) (DR.out w4 B4.out) (rec_one fxC_one) (by unfold maxLen; omega) (by omega) B4.out.size (fun A5 c5 w5 o5 hb5 => ?_)
              simp only [Act.put, List.setIfInBounds_toArray, List.set_cons_zero, List.set_cons_succ]
              have B5 := Lib.hid (B4.out.trans hb5)
              rw [mid_cells, show k + 1 + 0 = n + 1 by omega] at o5
              have O5 := Lib.hid o5
              have HN5 : Hid (k + 1 + 0 = n + 1) := Lib.hid (by omega)
              clear o5 hb5 o4 hb4 o3 h5 hb3 B4 TK DR
              rw [HN5.out]
              go_wp2_with fail
              go_meet
              exact ⟨A5, c5, rfl, O5.out, B5.out⟩
            · have DR : Hid (∀ (w : World), Below w1.heap.size w1 w → Row w w1.heap.size (some ⟨ga, k * 6, none⟩) ((L.drop k).flatMap fxC)) := Lib.hid (fun w hw => by
                rw [LDr.out]
                have h := (R1.out.below hw).drop (k * 6)
                rwa [head_add] at h)
              refine region_lane [1, 2, 3, 5, 6, 7, 11, 12, 13] [0, 4, 8, 9] [10, 14, 15] (by kernel_rfl) (by kernel_rfl) (by intro _ _ _ _ _ h; exact h) ?_
              simp only [pick, List.map_cons, List.map_nil, List.getD_cons_zero, List.getD_cons_succ, List.drop_succ_cons, List.drop_zero]
              repeat (go_big_quiet_step (fail))
              refine wpQuiet_nil ⟨rfl, ?_⟩
              refine laneO_told (rowT w1.heap.size 0 26 []) (rowT_steady _ _ _ _) (by kernel_rfl) rfl (fun w hw => .inl ⟨by rfl, ?_⟩) ?_
              focus (unfold gives; simp [go_sem]; exact rowT_new w1.heap.size 0 26 #[] w hw.size)
              refine laneO_by (ownsT w1.heap.size 26 6 k ((L.take k).flatMap fxC)) (ownsT_steady _ _ _ _ _) rfl (fun a' w hb hm => ?_) ?_
              · have m58 : rowT w1.heap.size 0 26 [] (a'.tmps.getD 58 undef) w := hm 58 (by simp [Oper.looksAt, Op.operands, Call.operands])
                have m61 : a'.tmps.getD 61 undef = .slice (some ⟨ga, 0, none⟩) k c1 := hm 61 (by simp [Oper.looksAt, Op.operands, Call.operands])
                exact append_lit0 (by rfl) hb.size (.tmp 58) (.tmp 61) 23 26 6 48 fxV0 rfl Try.underlying23 fx_info rfl (by decide) m58 (some ⟨ga, 0, none⟩) k c1 ((L.take k).flatMap fxC) m61 (fun h => by cases h) CT.out.1 (TK.out w hb) (rec_one fxC_one) (by unfold maxLen; omega) (by omega)
              refine laneO_fixed (v := .agg #[.int .i64 fx, .int .i64 fx, .int .i64 fx, .int .i64 0, .int .i64 0, .int .i64 0]) (by kernel_rfl) (fun w hw => .inl ⟨by rfl, built_gives _ _ rfl _ (by kernel_rfl)⟩) ?_
              simp only [Act.put, List.setIfInBounds_toArray, List.set_cons_zero, List.set_cons_succ]
              refine laneO_told (madeT 1 26 [.int .i64 fx, .int .i64 fx, .int .i64 fx, .int .i64 0, .int .i64 0, .int .i64 0]) (madeT_steady _ _ _) (by kernel_rfl) rfl (fun w hw => .inl ⟨by rfl, ?_⟩) ?_
              · unfold gives
                simp [go_sem]
                exact madeT_new 1 26 #[.int .i64 fx, .int .i64 fx, .int .i64 fx, .int .i64 0, .int .i64 0, .int .i64 0] w
              refine laneO_end (by simp) (by rfl) rfl rfl fun w3 hb3 => ?_
              rintro x67 ⟨g5, rfl, h5⟩ x62 ⟨A3, c3, rfl, o3⟩ x58 -
              simp only [fillAll, Act.put, List.setIfInBounds_toArray, List.set_cons_zero, List.set_cons_succ]
              refine wpList_push_all rfl (.tmp 62) (.tmp 67) _ rfl w1.heap.size 26 6 48 fxV0 Try.underlying23 fx_info rfl (by decide) k c3 A3 _ rfl o3 _ 1 1 (some ⟨g5, 0, none⟩) [.int .i64 fx, .int .i64 fx, .int .i64 fx, .int .i64 0, .int .i64 0, .int .i64 0] rfl (fun h => by cases h) rfl (row_told h5) (by simp [Value.oneCell']) (by unfold maxLen; omega) (by omega) hb3.size (fun A4 c4 w4 o4 hb4 => ?_)
              simp only [Act.put, List.setIfInBounds_toArray, List.set_cons_zero, List.set_cons_succ]
              have B4 := Lib.hid (Below.trans hb3 hb4)
              refine wpList_push_all rfl (.tmp 68) (.tmp 71) _ rfl w1.heap.size 26 6 48 fxV0 Try.underlying23 fx_info rfl (by decide) (k + 1) c4 A4 _ rfl o4 _ (n - k) (c1 - k) (some ⟨ga, k * 6, none⟩) ((L.drop k).flatMap fxC) rfl (fun h => by cases h) CT.out.2 (DR.out w4 B4.out) (rec_one fxC_one) (by unfold maxLen; omega) (by omega) B4.out.size (fun A5 c5 w5 o5 hb5 => ?_)
              simp only [Act.put, List.setIfInBounds_toArray, List.set_cons_zero, List.set_cons_succ]
              have B5 := Lib.hid (B4.out.trans hb5)
              rw [mid_cells, show k + 1 + (n - k) = n + 1 by omega] at o5
              have O5 := Lib.hid o5
              have HN5 : Hid (k + 1 + (n - k) = n + 1) := Lib.hid (by omega)
              clear o5 hb5 o4 hb4 o3 h5 hb3 B4 TK DR
              rw [HN5.out]
              go_wp2_with fail
              go_meet
              exact ⟨A5, c5, rfl, O5.out, B5.out⟩
        case rest =>
          obtain ⟨A6, c6, rfl, o6, hb6⟩ := hcut
          have M := Lib.hid (row_of_own o6)
          have R := Lib.hid ((R1.out.below hb6).more hb6.size)
          have B2 := Lib.hid (B1.out.trans (hb6.mono B1.out.size))
          clear o6 hb6 R1 O1 B1 HA1 CT LT LDr hkc hnil hnc hcm hcm2
          generalize wc = w2 at *
          go_wp2_with fail
          refine (FA.out _ R.out).mono ?_
          rintro e w3 ⟨A7, c7, rfl, r3, hb3⟩
          have R3 := Lib.hid r3
          have M3 := Lib.hid ((M.out.below hb3).more hb3.size)
          have B3 := Lib.hid (B2.out.trans (hb3.mono B2.out.size))
          clear r3 hb3 FA R M B2
          go_wp2_with fail
          refine (FB.out A6 c6 _ M3.out).mono ?_
          rintro e w4 ⟨A8, c8, rfl, o8, hb8⟩
          obtain ⟨gz, hgz⟩ := own_head o8 (by omega)
          have hcap := own_cap o8
          have Z := Lib.hid (row_of_own o8)
          have R4 := Lib.hid ((R3.out.below hb8).more hb8.size)
          have B4 := Lib.hid (B3.out.trans (hb8.mono B3.out.size))
          subst hgz
          clear o8 hb8 FB M3 R3 B3
          obtain ⟨Q, hQ⟩ : ∃ Q, P.take k ++ fx :: P.drop k = Q := ⟨_, rfl⟩
          have QL : Hid (Q.length = n + 1) := Lib.hid (by rw [← hQ, List.length_append, List.length_cons, List.length_take, List.length_drop, LP.out]; omega)
          have QK : Hid (Q[k]? = some fx) := Lib.hid (by rw [← hQ, List.getElem?_append_right (by rw [List.length_take]; omega), List.length_take, LP.out, Nat.min_eq_left hkt, Nat.sub_self]; rfl)
          have QE : Hid (Q.take k ++ Q.drop (k + 1) = P) := Lib.hid (by
            have hl : (P.take k).length = k := by rw [List.length_take, LP.out]; omega
            rw [← hQ, List.take_left' hl, List.drop_append, List.drop_of_length_le (by omega), hl, Nat.add_sub_cancel_left, List.nil_append, List.drop_succ_cons, List.drop_zero, List.take_append_drop])
          rw [hQ] at Z
          clear hQ
          generalize w4 = w3 at *
          have B3 := B4
          clear B4
          obtain ⟨a9, he9, hab9, d0⟩ := Z.out.int (k := k) (by rw [QL.out]; omega)
          injection he9 with he9
          subst he9
          rw [(List.getElem?_eq_some_iff.1 QK.out).2, head_add] at d0
          have LZ1 : Hid ((i64s (Q.take k)).length = k * 1) := Lib.hid (by rw [i64s_length, List.length_take, QL.out]; omega)
          have LZ2 : Hid ((i64s (Q.drop (k + 1))).length = (n - k) * 1) := Lib.hid (by rw [i64s_length, List.length_drop, QL.out]; omega)
          have EQ : Hid (i64s (Q.take k) ++ i64s (Q.drop (k + 1)) = i64s P) := Lib.hid (by rw [← i64s_append, QE.out])
          have TK : Hid (∀ (w : World), Below w3.heap.size w3 w → Row w w3.heap.size (some ⟨gz, 0, none⟩) (i64s (Q.take k))) := Lib.hid (fun w hw => by
            have h := (Z.out.below hw).take k
            rwa [i64s_take] at h)
          have PP : Hid (∀ (w : World), Below w3.heap.size w3 w → Row w w3.heap.size A7 (i64s P)) := Lib.hid (fun w hw => R4.out.below hw)
          have hkz : (k : Int) + 1 ≤ n + 1 := by omega
          have hkz1 : (k : Int) < n + 1 := by omega
          have hkz2 : k ≤ c8 := by omega
          have hkz3 : k + 1 ≤ c8 := by omega
          have hkz4 : k ≤ n + 1 := by omega
          have dq : ∀ t : Later w3.heap.size w3, t.w.cell? ⟨gz, k, none⟩ = some (.int .i64 fx) := fun t => (t.h.cell (p := ⟨gz, k, none⟩) hab9).trans d0
          clear R4 QK QE
          by_cases hck : c8 = k + 1
          · have hkl : k = n := by omega
            subst hck
            have DR : Hid (∀ (w : World), Below w3.heap.size w3 w → Row w w3.heap.size (some ⟨gz, 0, none⟩) (i64s (Q.drop (k + 1)))) := Lib.hid (fun w hw => by
              have h := LZ2.out
              rw [show (n - k) * 1 = 0 by omega] at h
              rw [List.eq_nil_of_length_eq_zero h]; exact Row.nil _ _ _)
            have LZ0 : Hid ((i64s (Q.drop (k + 1))).length = 0 * 1) := Lib.hid (by rw [LZ2.out]; omega)
            clear Z hkl
            go_upto_region 15 with fail
            refine region_laneP [] [0, 1, 2, 3, 4, 5, 6] [8, 9, 10, 12, 13, 14, 15, 17] [7, 11, 16, 18, 19, 20, 21, 22, 23] (by kernel_rfl) (by kernel_rfl) (by intro _ _ _ _ _ h; exact h) ?_
            simp only [pick, List.map_cons, List.map_nil, List.getD_cons_zero, List.getD_cons_succ, List.drop_succ_cons, List.drop_zero]
            refine wpQuiet_nil ⟨rfl, ?_⟩
            refine laneO_run 7 (by kernel_rfl) ?_
            simp only [List.take_succ_cons, List.take_zero, List.drop_succ_cons, List.drop_zero]
            repeat (go_big_quiet_step (fail))
            refine wpQuiet_nil ?_
            refine laneP_end0 rfl rfl fun w4 hb4 => ?_
            repeat (go_big_quiet_step (fail))
            refine wpQuiet_nil ?_
            have E0 := Lib.hid (own_none (size := 1) (Whole.mk w4 2 #[]) (Nat.le_refl _))
            have B4 := Lib.hid ((show Below w3.heap.size w3 w4 from hb4).alloc hb4.size (.cells #[] 2))
            have z4 : w4.heap.size ≤ (w4.alloc (.cells #[] 2)).heap.size := by simp
            clear d0
            go_wp2_with (first
              | (at_builtin; refine wpList_push_all (by rfl) (.tmp 104) (.tmp 107) _ rfl w4.heap.size 2 1 8 (.int .i64 0) Try.underlying22 i64b_info rfl (by decide) 0 0 (some ⟨w4.heap.size, 0, none⟩) [] rfl E0.out _ k _ (some ⟨gz, 0, none⟩) (i64s (Q.take k)) rfl (fun h => by cases h) LZ1.out (TK.out _ B4.out) (i64s_one _) (by unfold maxLen; omega) (by omega) z4 ?_; rw [Nat.zero_add, List.nil_append]; intro A9 c9 w5 o5 hb5; have O5 := Lib.hid o5; have B5 := Lib.hid (B4.out.trans (hb5.mono hb4.size)); have z5 := Nat.le_trans z4 hb5.size; clear o5 hb5 B4 E0 TK)
              | (at_builtin; refine wpList_push_all (by rfl) (.tmp 108) (.tmp 112) _ rfl w4.heap.size 2 1 8 (.int .i64 0) Try.underlying22 i64b_info rfl (by decide) k c9 A9 _ rfl O5.out _ 0 _ (some ⟨gz, 0, none⟩) (i64s (Q.drop (k + 1))) rfl (fun h => by cases h) LZ0.out (DR.out _ B5.out) (i64s_one _) (by unfold maxLen; omega) (by omega) z5 ?_; rw [EQ.out, show k + 0 = n by omega]; intro A10 c10 w6 o6 hb6; have O6 := Lib.hid o6; have B6 := Lib.hid (B5.out.trans (hb6.mono (by have := hb4.size; omega))); clear o6 hb6 B5 DR O5))
            refine (ksame_any _ _ _ _ n P _ _ _ (row_of_own O6.out) (PP.out _ B6.out) LP.out (by omega)).mono ?_
            rintro e w7 ⟨rfl, q, rfl⟩
            have B7 := Lib.hid (B3.out.trans ((Below.drewN' B6.out q).mono B3.out.size))
            clear O6 B6
            generalize w6.drewN q = w8 at *
            go_wp2_with fail
            refine (AW.out _).mono ?_
            rintro e w9 ⟨rfl, hb9⟩
            have B9 := Lib.hid (B7.out.trans (hb9.mono B7.out.size))
            clear hb9
            go_wp2_with fail
            go_ret
            exact ⟨rfl, B9.out⟩
          · have DR : Hid (∀ (w : World), Below w3.heap.size w3 w → Row w w3.heap.size (some ⟨gz, k + 1, none⟩) (i64s (Q.drop (k + 1)))) := Lib.hid (fun w hw => by
              have h := (Z.out.below hw).drop (k + 1)
              rw [head_add] at h
              rwa [i64s_drop] at h)
            clear Z
            go_upto_region 15 with fail
            refine region_laneP [] [0, 1, 2, 3, 4, 5, 6] [8, 9, 10, 12, 13, 14, 15, 17] [7, 11, 16, 18, 19, 20, 21, 22, 23] (by kernel_rfl) (by kernel_rfl) (by intro _ _ _ _ _ h; exact h) ?_
            simp only [pick, List.map_cons, List.map_nil, List.getD_cons_zero, List.getD_cons_succ, List.drop_succ_cons, List.drop_zero]
            refine wpQuiet_nil ⟨rfl, ?_⟩
            refine laneO_run 7 (by kernel_rfl) ?_
            simp only [List.take_succ_cons, List.take_zero, List.drop_succ_cons, List.drop_zero]
            repeat (go_big_quiet_step (fail))
            refine wpQuiet_nil ?_
            refine laneP_end0 rfl rfl fun w4 hb4 => ?_
            repeat (go_big_quiet_step (fail))
            refine wpQuiet_nil ?_
            have E0 := Lib.hid (own_none (size := 1) (Whole.mk w4 2 #[]) (Nat.le_refl _))
            have B4 := Lib.hid ((show Below w3.heap.size w3 w4 from hb4).alloc hb4.size (.cells #[] 2))
            have z4 : w4.heap.size ≤ (w4.alloc (.cells #[] 2)).heap.size := by simp
            clear d0
            go_wp2_with (first
              | (at_builtin; refine wpList_push_all (by rfl) (.tmp 104) (.tmp 107) _ rfl w4.heap.size 2 1 8 (.int .i64 0) Try.underlying22 i64b_info rfl (by decide) 0 0 (some ⟨w4.heap.size, 0, none⟩) [] rfl E0.out _ k _ (some ⟨gz, 0, none⟩) (i64s (Q.take k)) rfl (fun h => by cases h) LZ1.out (TK.out _ B4.out) (i64s_one _) (by unfold maxLen; omega) (by omega) z4 ?_; rw [Nat.zero_add, List.nil_append]; intro A9 c9 w5 o5 hb5; have O5 := Lib.hid o5; have B5 := Lib.hid (B4.out.trans (hb5.mono hb4.size)); have z5 := Nat.le_trans z4 hb5.size; clear o5 hb5 B4 E0 TK)
              | (at_builtin; refine wpList_push_all (by rfl) (.tmp 108) (.tmp 112) _ rfl w4.heap.size 2 1 8 (.int .i64 0) Try.underlying22 i64b_info rfl (by decide) k c9 A9 _ rfl O5.out _ (n - k) _ (some ⟨gz, k + 1, none⟩) (i64s (Q.drop (k + 1))) rfl (fun h => by cases h) LZ2.out (DR.out _ B5.out) (i64s_one _) (by unfold maxLen; omega) (by omega) z5 ?_; rw [EQ.out, show k + (n - k) = n by omega]; intro A10 c10 w6 o6 hb6; have O6 := Lib.hid o6; have B6 := Lib.hid (B5.out.trans (hb6.mono (by have := hb4.size; omega))); clear o6 hb6 B5 DR O5))
            refine (ksame_any _ _ _ _ n P _ _ _ (row_of_own O6.out) (PP.out _ B6.out) LP.out (by omega)).mono ?_
            rintro e w7 ⟨rfl, q, rfl⟩
            have B7 := Lib.hid (B3.out.trans ((Below.drewN' B6.out q).mono B3.out.size))
            clear O6 B6
            generalize w6.drewN q = w8 at *
            go_wp2_with fail
            refine (AW.out _).mono ?_
            rintro e w9 ⟨rfl, hb9⟩
            have B9 := Lib.hid (B7.out.trans (hb9.mono B7.out.size))
            clear hb9
            go_wp2_with fail
            go_ret
            exact ⟨rfl, B9.out⟩

end Go.Proofs.Ytodnplllkpgfaaa
