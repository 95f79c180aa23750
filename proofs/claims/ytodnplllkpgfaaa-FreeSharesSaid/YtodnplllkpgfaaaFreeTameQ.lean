import Derived.Test.YtodnplllkpgfaaaFlexInfoQ
import Derived.Test.YtodnplllkpgfaaaZQ
import Derived.Test.YtodnplllkpgfaaaConvQ
import Derived.BigRegion
/- quoinlaw18.Tame. -/
namespace Go.Proofs.Ytodnplllkpgfaaa
open Go Go.RowKit
set_option linter.unusedVariables false
set_option linter.unusedSimpArgs false
set_option maxRecDepth 20000
set_option maxHeartbeats 8000000

theorem tmod_bdF (z m : Int) (hm : 0 < m) : -m < z.tmod m ∧ z.tmod m < m := ⟨Int.lt_tmod_of_pos z hm, Int.tmod_lt_of_pos z hm⟩
theorem ftame_any (l : List Fx) (hl : l.length ≤ 9223372036854775807) (A : Option Addr) (c : Nat) (small : Bool) (W : World) (hR : Row W W.heap.size A (l.flatMap fxC)) :
    Calls Try.prog 16 #[.slice A l.length c, .bool small] W fun e w' => ∃ L A' c', e = .returned (.slice A' (List.length L) c') ∧ w'.ownsRow W.heap.size 26 6 (.slice A' (List.length L) c') (List.length L) (L.flatMap fxC) ∧ (List.length L ≤ 12) ∧ (∀ x ∈ L, FxOk x) ∧ Below W.heap.size W w' := by
  have HR := Lib.hid hR
  clear hR
  go_enter Try.func16, Try.ntmps16
  go_wp2_with fail
  go_loopw [5, 6] (fun v5 v6 wr => ∃ (k : Nat) (A' : Option Addr) (c' : Nat) (L : List Fx), v5 = .slice A' k c' ∧ v6 = .int .i64 k ∧ k ≤ l.length ∧ k ≤ 12 ∧ Hid (L.length = k) ∧ Hid (∀ x ∈ L, FxOk x) ∧ Hid (wr.ownsRow W.heap.size 26 6 (.slice A' k c') k (L.flatMap fxC)) ∧ Hid (Below W.heap.size W wr)) (fun _ v6 _ => l.length - (intOf v6).toNat)
  case atStart => exact ⟨0, none, 0, [], rfl, rfl, Nat.zero_le _, by omega, Lib.hid rfl, Lib.hid (by simp), Lib.hid ⟨rfl, .inl ⟨rfl, rfl⟩⟩, Lib.hid (Below.refl _ _)⟩
  case round =>
    obtain ⟨k, A', c', L, rfl, rfl, hk, hk2, HL, HO, O, B⟩ := hrel
    by_cases hlt : k < l.length ∧ k < 12
    · have hki : (k : Int) < l.length := by omega
      have hkj : (k : Int) < 12 := by omega
      have z1 : decide ((k : Int) < l.length) = true := decide_eq_true hki
      have z2 : decide ((k : Int) < 12) = true := decide_eq_true hkj
      obtain ⟨ad, rfl, hb, d0, d1, d2, d3, d4, d5⟩ := Row.flex (HR.out.below B.out) hlt.1
      generalize l[k] = x at *
      have X0 := Lib.hid (Whole.mk wr 26 #[.int .i64 x.base, .int .i64 x.mn, .int .i64 x.mx, .int .i64 x.grow, .int .i64 x.shrink, .int .i64 x.around])
      have O1 := Lib.hid (own_below O.out ((Below.refl _ wr).alloc (Nat.le_refl _) (.cells #[.int .i64 x.base, .int .i64 x.mn, .int .i64 x.mx, .int .i64 x.grow, .int .i64 x.shrink, .int .i64 x.around] 26)) (Nat.le_refl _))
      have B1 := Lib.hid (B.out.alloc B.out.size (.cells #[.int .i64 x.base, .int .i64 x.mn, .int .i64 x.mx, .int .i64 x.grow, .int .i64 x.shrink, .int .i64 x.around] 26))
      have NB : Hid (∀ g, (Value.slice A' k c').ownBlock = some g → g ≠ wr.heap.size) := Lib.hid (fun g hg => by have := owns_lt O.out hg; omega)
      have hbs := B.out.size
      go_upto_region 6 with fail
      clear O B d0 d1 d2 d3 d4 d5 z1 z2
      generalize wr.alloc _ = w1 at *
      obtain ⟨g, hg⟩ : ∃ g, wr.heap.size = g := ⟨_, rfl⟩
      rw [hg] at X0 NB hbs ⊢
      clear hg
      have O := O1
      have B := B1
      clear O1 B1
      cases small with
      | true =>
        have A1 := Lib.hid O.out
        have k3 : ∀ x : Int, bits .and .i64 x 3 = x % 4 := fun x => and_mask_i64 x 2 (by decide)
        have k1 : ∀ x : Int, bits .and .i64 x 1 = x % 2 := fun x => and_mask_i64 x 1 (by decide)
        obtain ⟨v0, u0, i0, j0⟩ := conv_lt x.base 200 (by decide) (by decide)
        obtain ⟨v1, u1, i1, j1⟩ := conv_lt x.mn 200 (by decide) (by decide)
        obtain ⟨v2, u2, i2, j2⟩ := conv_lt x.mx 200 (by decide) (by decide)
        obtain ⟨i5, j5⟩ := tmod_bdF x.around 50 (by decide)
        obtain ⟨v5, u5⟩ : ∃ v, x.around.tmod 50 = v := ⟨_, rfl⟩
        rw [u5] at i5 j5
        have i3 := Int.emod_nonneg x.grow (show (4 : Int) ≠ 0 by decide)
        have j3 := Int.emod_lt_of_pos x.grow (show (0 : Int) < 4 by decide)
        have i4 := Int.emod_nonneg x.shrink (show (4 : Int) ≠ 0 by decide)
        have j4 := Int.emod_lt_of_pos x.shrink (show (0 : Int) < 4 by decide)
        obtain ⟨v3, u3⟩ : ∃ v, x.grow % 4 = v := ⟨_, rfl⟩
        obtain ⟨v4, u4⟩ : ∃ v, x.shrink % 4 = v := ⟨_, rfl⟩
        rw [u3] at i3 j3
        rw [u4] at i4 j4
        go_upto_region 9 with fail
        have n0 : (Value.slice A' k c').ownBlock ≠ some g := fun e => NB.out g e rfl
        have c0 : w1.cell? ⟨g, 0, none⟩ = some (.int .i64 x.base) := X0.out.cell 0
        have c1 : w1.cell? ⟨g, 1, none⟩ = some (.int .i64 x.mn) := X0.out.cell 1
        have c3 : w1.cell? ⟨g, 3, none⟩ = some (.int .i64 x.grow) := X0.out.cell 3
        have c4 : w1.cell? ⟨g, 4, none⟩ = some (.int .i64 x.shrink) := X0.out.cell 4
        have f0 := X0.out.free 0
        have f1 := X0.out.free 1
        have f3 := X0.out.free 3
        have f4 := X0.out.free 4
        go_region
        obtain ⟨w3, hX, hO, hB, hw3⟩ : ∃ w3, Whole w3 g 26 [.int .i64 v0, .int .i64 v1, .int .i64 x.mx, .int .i64 v3, .int .i64 v4, .int .i64 x.around] ∧ w3.ownsRow W.heap.size 26 6 (.slice A' k c') k (L.flatMap fxC) ∧ Below W.heap.size W w3 ∧
            w3 = ((((w1.setCell ⟨g, 0, none⟩ (.int .i64 v0)).setCell ⟨g, 1, none⟩ (.int .i64 v1)).setCell ⟨g, 3, none⟩ (.int .i64 v3)).setCell ⟨g, 4, none⟩ (.int .i64 v4)).drew :=
          ⟨((((w1.setCell ⟨g, 0, none⟩ (.int .i64 v0)).setCell ⟨g, 1, none⟩ (.int .i64 v1)).setCell ⟨g, 3, none⟩ (.int .i64 v3)).setCell ⟨g, 4, none⟩ (.int .i64 v4)).drew, (((X0.out.put 0 (.int .i64 v0)).put 1 (.int .i64 v1)).put 3 (.int .i64 v3)).put 4 (.int .i64 v4),
            own_below (ownsRow_setCell_other (ownsRow_setCell_other (ownsRow_setCell_other (ownsRow_setCell_other O.out (a := ⟨g, 0, none⟩) n0 (.int .i64 v0)) (a := ⟨g, 1, none⟩) n0 (.int .i64 v1)) (a := ⟨g, 3, none⟩) n0 (.int .i64 v3)) (a := ⟨g, 4, none⟩) n0 (.int .i64 v4)) (Below.drewN' (Below.refl _ _) 1) (Nat.le_refl _),
            Below.drewN' ((((B.out.setCell (p := ⟨g, 0, none⟩) hbs (.int .i64 v0)).setCell (p := ⟨g, 1, none⟩) hbs (.int .i64 v1)).setCell (p := ⟨g, 3, none⟩) hbs (.int .i64 v3)).setCell (p := ⟨g, 4, none⟩) hbs (.int .i64 v4)) 1, rfl⟩
        rw [← hw3]
        have X3 := Lib.hid hX
        have O3 := Lib.hid hO
        have B3 := Lib.hid hB
        clear c0 c1 c3 c4 f0 f1 f3 f4 hX hO hB hw3 X0 O B A1 u0 u1 u3 u4 k3
        go_upto_region 10 with fail
        have c2 : w3.cell? ⟨g, 2, none⟩ = some (.int .i64 x.mx) := X3.out.cell 2
        have c5 : w3.cell? ⟨g, 5, none⟩ = some (.int .i64 x.around) := X3.out.cell 5
        have f2 := X3.out.free 2
        have f5 := X3.out.free 5
        go_region
        obtain ⟨w4, hX, hO, hB, hw4⟩ : ∃ w4, Whole w4 g 26 [.int .i64 v0, .int .i64 v1, .int .i64 v2, .int .i64 v3, .int .i64 v4, .int .i64 v5] ∧ w4.ownsRow W.heap.size 26 6 (.slice A' k c') k (L.flatMap fxC) ∧ Below W.heap.size W w4 ∧
            w4 = ((w3.setCell ⟨g, 2, none⟩ (.int .i64 v2)).setCell ⟨g, 5, none⟩ (.int .i64 v5)).drew :=
          ⟨((w3.setCell ⟨g, 2, none⟩ (.int .i64 v2)).setCell ⟨g, 5, none⟩ (.int .i64 v5)).drew, (X3.out.put 2 (.int .i64 v2)).put 5 (.int .i64 v5),
            own_below (ownsRow_setCell_other (ownsRow_setCell_other O3.out (a := ⟨g, 2, none⟩) n0 (.int .i64 v2)) (a := ⟨g, 5, none⟩) n0 (.int .i64 v5)) (Below.drewN' (Below.refl _ _) 1) (Nat.le_refl _),
            Below.drewN' ((B3.out.setCell (p := ⟨g, 2, none⟩) hbs (.int .i64 v2)).setCell (p := ⟨g, 5, none⟩) hbs (.int .i64 v5)) 1, rfl⟩
        rw [← hw4]
        have X4 := Lib.hid hX
        have O4 := Lib.hid hO
        have B4 := Lib.hid hB
        clear c2 c5 f2 f5 hX hO hB hw4 X3 O3 B3 u2 u5
        have b0 : v0 ≤ 8796093022208 := by omega
        have b1 : v1 ≤ 8796093022208 := by omega
        have b2 : v2 ≤ 8796093022208 := by omega
        have b5 : v5 ≤ 8796093022208 := by omega
        have b6 : -8796093022208 ≤ v5 := by omega
        clear j0 j1 j2 j5 i5
        have k3 : ∀ x : Int, bits .and .i64 x 3 = x % 4 := fun x => and_mask_i64 x 2 (by decide)
        have c1 : w4.cell? ⟨g, 1, none⟩ = some (.int .i64 v1) := X4.out.cell 1
        have f1 := X4.out.free 1
        go_upto_if 63 with fail
        go_cut [] from 9 to 73 (fun wx => ∃ m : Int, 0 ≤ m ∧ m ≤ 8796093022208 ∧ Hid (Whole wx g 26 [.int .i64 v0, .int .i64 m, .int .i64 v2, .int .i64 v3, .int .i64 v4, .int .i64 v5]) ∧ Hid (wx.ownsRow W.heap.size 26 6 (.slice A' k c') k (L.flatMap fxC)) ∧ Hid (Below W.heap.size W wx))
        case first =>
          by_cases m1 : v1 % 2 = 1
          · have zb : (v1 % 2 == 1) = true := by rw [beq_iff_eq]; exact m1
            have M1 := Lib.hid m1
            clear m1
            have X5 := Lib.hid (X4.out.put 1 (.int .i64 0))
            have O5 := Lib.hid (ownsRow_setCell_other O4.out (a := ⟨g, 1, none⟩) n0 (.int .i64 0))
            have B5 := Lib.hid (B4.out.setCell (p := ⟨g, 1, none⟩) hbs (.int .i64 0))
            go_wp2_with fail
            go_meet
            exact ⟨0, by omega, by omega, X5, O5, B5⟩
          · have zb : (v1 % 2 == 1) = false := by rw [beq_eq_false_iff_ne]; exact m1
            go_wp2_with fail
            go_meet
            exact ⟨v1, i1, b1, X4, O4, B4⟩
        case rest =>
          clear c1 f1 X4 O4 B4 i1 b1
          obtain ⟨mn, mn0, mn1, X4, O4, B4⟩ := hcut
          generalize wc = w5 at *
          have c2 : w5.cell? ⟨g, 2, none⟩ = some (.int .i64 v2) := X4.out.cell 2
          have f2 := X4.out.free 2
          go_upto_if 68 with fail
          go_cut [] from 9 to 73 (fun wx => ∃ m : Int, -1 ≤ m ∧ m ≤ 8796093022208 ∧ Hid (Whole wx g 26 [.int .i64 v0, .int .i64 mn, .int .i64 m, .int .i64 v3, .int .i64 v4, .int .i64 v5]) ∧ Hid (wx.ownsRow W.heap.size 26 6 (.slice A' k c') k (L.flatMap fxC)) ∧ Hid (Below W.heap.size W wx))
          case first =>
            by_cases m1 : v2 % 4 > 0
            · have zb : decide (v2 % 4 > 0) = true := decide_eq_true m1
              have X5 := Lib.hid (X4.out.put 2 (.int .i64 (-1)))
              have O5 := Lib.hid (ownsRow_setCell_other O4.out (a := ⟨g, 2, none⟩) n0 (.int .i64 (-1)))
              have B5 := Lib.hid (B4.out.setCell (p := ⟨g, 2, none⟩) hbs (.int .i64 (-1)))
              go_wp2_with fail
              go_meet
              exact ⟨-1, by omega, by omega, X5, O5, B5⟩
            · have zb : decide (v2 % 4 > 0) = false := decide_eq_false m1
              go_wp2_with fail
              go_meet
              exact ⟨v2, by omega, b2, X4, O4, B4⟩
          case rest =>
            clear c2 f2 X4 O4 B4 i2 b2
            obtain ⟨mx, mx0, mx1, X4, O4, B4⟩ := hcut
            generalize wc = w6 at *
            have FO : Hid (FxOk ⟨v0, mn, mx, v3, v4, v5⟩) := Lib.hid ⟨i0, b0, mn0, mn1, mx0, mx1, i3, by show v3 ≤ 100; omega, i4, by show v4 ≤ 100; omega, b6, b5⟩
            have x0 := X4.out.cell 0
            have x1 := X4.out.cell 1
            have x2 := X4.out.cell 2
            have x3 := X4.out.cell 3
            have x4 := X4.out.cell 4
            have x5 := X4.out.cell 5
            simp only [List.getElem?_cons_zero, List.getElem?_cons_succ] at x0 x1 x2 x3 x4 x5
            have O5 := Lib.hid (own_below O4.out ((Below.refl _ w6).alloc (Nat.le_refl _) (.cells #[.int .i64 v0, .int .i64 mn, .int .i64 mx, .int .i64 v3, .int .i64 v4, .int .i64 v5] 26)) (Nat.le_refl _))
            have B5 := Lib.hid (B4.out.alloc B4.out.size (.cells #[.int .i64 v0, .int .i64 mn, .int .i64 mx, .int .i64 v3, .int .i64 v4, .int .i64 v5] 26))
            have W5 := Lib.hid (Whole.mk w6 26 #[.int .i64 v0, .int .i64 mn, .int .i64 mx, .int .i64 v3, .int .i64 v4, .int .i64 v5])
            go_upto_region 4 with (at_builtin; refine wpList_pushOne rfl (.tmp 70) (.tmp 72) _ rfl W.heap.size 26 6 48 fxV0 Try.underlying23 fx_info rfl (by decide) k (.slice A' k c') _ rfl O5.out B5.out.size w6.heap.size [.int .i64 v0, .int .i64 mn, .int .i64 mx, .int .i64 v3, .int .i64 v4, .int .i64 v5] rfl W5.out rfl (by simp [Value.oneCell']) (by unfold maxLen; omega) (by omega) ?_; intro A6 c6 w7 h5 ho5 hk5)
            have O7 : Hid (w7.ownsRow W.heap.size 26 6 (.slice A6 (k + 1) c6) (k + 1) ((L ++ [(⟨v0, mn, mx, v3, v4, v5⟩ : Fx)]).flatMap fxC)) := Lib.hid (by
              rw [List.flatMap_append]; exact h5)
            have HO7 : Hid (∀ y ∈ L ++ [(⟨v0, mn, mx, v3, v4, v5⟩ : Fx)], FxOk y) := Lib.hid (fun y hy => by
              rcases List.mem_append.1 hy with hy | hy
              · exact HO.out y hy
              · rw [List.mem_singleton] at hy; subst hy; exact FO.out)
            have B7 := Lib.hid (own_push O5.out B5.out B5.out.size ho5)
            clear h5 ho5 hk5 O5 B5 W5 x0 x1 x2 x3 x4 x5
            go_wp2_with fail
            go_roundw
            case rel => exact ⟨k + 1, A6, c6, L ++ [(⟨v0, mn, mx, v3, v4, v5⟩ : Fx)], by go_num, by go_num, by omega, by omega, Lib.hid (by rw [List.length_append, HL.out]; rfl), HO7, O7, B7⟩
            case measure => simp [intOf] <;> omega
      | false =>
        have A1 := Lib.hid O.out
        have k3 : ∀ x : Int, bits .and .i64 x 3 = x % 4 := fun x => and_mask_i64 x 2 (by decide)
        have k1 : ∀ x : Int, bits .and .i64 x 1 = x % 2 := fun x => and_mask_i64 x 1 (by decide)
        obtain ⟨v0, u0, i0, j0⟩ := conv_lt x.base 8796093022208 (by decide) (by decide)
        obtain ⟨v1, u1, i1, j1⟩ := conv_lt x.mn 8796093022208 (by decide) (by decide)
        obtain ⟨v2, u2, i2, j2⟩ := conv_lt x.mx 8796093022208 (by decide) (by decide)
        obtain ⟨i5, j5⟩ := tmod_bdF x.around 2199023255552 (by decide)
        obtain ⟨v5, u5⟩ : ∃ v, x.around.tmod 2199023255552 = v := ⟨_, rfl⟩
        rw [u5] at i5 j5
        have i3 := Int.emod_nonneg x.grow (show (4 : Int) ≠ 0 by decide)
        have j3 := Int.emod_lt_of_pos x.grow (show (0 : Int) < 4 by decide)
        have i4 := Int.emod_nonneg x.shrink (show (4 : Int) ≠ 0 by decide)
        have j4 := Int.emod_lt_of_pos x.shrink (show (0 : Int) < 4 by decide)
        obtain ⟨v3, u3⟩ : ∃ v, x.grow % 4 = v := ⟨_, rfl⟩
        obtain ⟨v4, u4⟩ : ∃ v, x.shrink % 4 = v := ⟨_, rfl⟩
        rw [u3] at i3 j3
        rw [u4] at i4 j4
        go_upto_region 9 with fail
        have n0 : (Value.slice A' k c').ownBlock ≠ some g := fun e => NB.out g e rfl
        have c0 : w1.cell? ⟨g, 0, none⟩ = some (.int .i64 x.base) := X0.out.cell 0
        have c1 : w1.cell? ⟨g, 1, none⟩ = some (.int .i64 x.mn) := X0.out.cell 1
        have c3 : w1.cell? ⟨g, 3, none⟩ = some (.int .i64 x.grow) := X0.out.cell 3
        have c4 : w1.cell? ⟨g, 4, none⟩ = some (.int .i64 x.shrink) := X0.out.cell 4
        have f0 := X0.out.free 0
        have f1 := X0.out.free 1
        have f3 := X0.out.free 3
        have f4 := X0.out.free 4
        go_region
        obtain ⟨w3, hX, hO, hB, hw3⟩ : ∃ w3, Whole w3 g 26 [.int .i64 v0, .int .i64 v1, .int .i64 x.mx, .int .i64 v3, .int .i64 v4, .int .i64 x.around] ∧ w3.ownsRow W.heap.size 26 6 (.slice A' k c') k (L.flatMap fxC) ∧ Below W.heap.size W w3 ∧
            w3 = ((((w1.setCell ⟨g, 0, none⟩ (.int .i64 v0)).setCell ⟨g, 1, none⟩ (.int .i64 v1)).setCell ⟨g, 3, none⟩ (.int .i64 v3)).setCell ⟨g, 4, none⟩ (.int .i64 v4)).drew :=
          ⟨((((w1.setCell ⟨g, 0, none⟩ (.int .i64 v0)).setCell ⟨g, 1, none⟩ (.int .i64 v1)).setCell ⟨g, 3, none⟩ (.int .i64 v3)).setCell ⟨g, 4, none⟩ (.int .i64 v4)).drew, (((X0.out.put 0 (.int .i64 v0)).put 1 (.int .i64 v1)).put 3 (.int .i64 v3)).put 4 (.int .i64 v4),
            own_below (ownsRow_setCell_other (ownsRow_setCell_other (ownsRow_setCell_other (ownsRow_setCell_other O.out (a := ⟨g, 0, none⟩) n0 (.int .i64 v0)) (a := ⟨g, 1, none⟩) n0 (.int .i64 v1)) (a := ⟨g, 3, none⟩) n0 (.int .i64 v3)) (a := ⟨g, 4, none⟩) n0 (.int .i64 v4)) (Below.drewN' (Below.refl _ _) 1) (Nat.le_refl _),
            Below.drewN' ((((B.out.setCell (p := ⟨g, 0, none⟩) hbs (.int .i64 v0)).setCell (p := ⟨g, 1, none⟩) hbs (.int .i64 v1)).setCell (p := ⟨g, 3, none⟩) hbs (.int .i64 v3)).setCell (p := ⟨g, 4, none⟩) hbs (.int .i64 v4)) 1, rfl⟩
        rw [← hw3]
        have X3 := Lib.hid hX
        have O3 := Lib.hid hO
        have B3 := Lib.hid hB
        clear c0 c1 c3 c4 f0 f1 f3 f4 hX hO hB hw3 X0 O B A1 u0 u1 u3 u4 k3
        go_upto_region 10 with fail
        have c2 : w3.cell? ⟨g, 2, none⟩ = some (.int .i64 x.mx) := X3.out.cell 2
        have c5 : w3.cell? ⟨g, 5, none⟩ = some (.int .i64 x.around) := X3.out.cell 5
        have f2 := X3.out.free 2
        have f5 := X3.out.free 5
        go_region
        obtain ⟨w4, hX, hO, hB, hw4⟩ : ∃ w4, Whole w4 g 26 [.int .i64 v0, .int .i64 v1, .int .i64 v2, .int .i64 v3, .int .i64 v4, .int .i64 v5] ∧ w4.ownsRow W.heap.size 26 6 (.slice A' k c') k (L.flatMap fxC) ∧ Below W.heap.size W w4 ∧
            w4 = ((w3.setCell ⟨g, 2, none⟩ (.int .i64 v2)).setCell ⟨g, 5, none⟩ (.int .i64 v5)).drew :=
          ⟨((w3.setCell ⟨g, 2, none⟩ (.int .i64 v2)).setCell ⟨g, 5, none⟩ (.int .i64 v5)).drew, (X3.out.put 2 (.int .i64 v2)).put 5 (.int .i64 v5),
            own_below (ownsRow_setCell_other (ownsRow_setCell_other O3.out (a := ⟨g, 2, none⟩) n0 (.int .i64 v2)) (a := ⟨g, 5, none⟩) n0 (.int .i64 v5)) (Below.drewN' (Below.refl _ _) 1) (Nat.le_refl _),
            Below.drewN' ((B3.out.setCell (p := ⟨g, 2, none⟩) hbs (.int .i64 v2)).setCell (p := ⟨g, 5, none⟩) hbs (.int .i64 v5)) 1, rfl⟩
        rw [← hw4]
        have X4 := Lib.hid hX
        have O4 := Lib.hid hO
        have B4 := Lib.hid hB
        clear c2 c5 f2 f5 hX hO hB hw4 X3 O3 B3 u2 u5
        have b0 : v0 ≤ 8796093022208 := by omega
        have b1 : v1 ≤ 8796093022208 := by omega
        have b2 : v2 ≤ 8796093022208 := by omega
        have b5 : v5 ≤ 8796093022208 := by omega
        have b6 : -8796093022208 ≤ v5 := by omega
        clear j0 j1 j2 j5 i5
        have k3 : ∀ x : Int, bits .and .i64 x 3 = x % 4 := fun x => and_mask_i64 x 2 (by decide)
        have c1 : w4.cell? ⟨g, 1, none⟩ = some (.int .i64 v1) := X4.out.cell 1
        have f1 := X4.out.free 1
        go_upto_if 63 with fail
        go_cut [] from 9 to 73 (fun wx => ∃ m : Int, 0 ≤ m ∧ m ≤ 8796093022208 ∧ Hid (Whole wx g 26 [.int .i64 v0, .int .i64 m, .int .i64 v2, .int .i64 v3, .int .i64 v4, .int .i64 v5]) ∧ Hid (wx.ownsRow W.heap.size 26 6 (.slice A' k c') k (L.flatMap fxC)) ∧ Hid (Below W.heap.size W wx))
        case first =>
          by_cases m1 : v1 % 2 = 1
          · have zb : (v1 % 2 == 1) = true := by rw [beq_iff_eq]; exact m1
            have M1 := Lib.hid m1
            clear m1
            have X5 := Lib.hid (X4.out.put 1 (.int .i64 0))
            have O5 := Lib.hid (ownsRow_setCell_other O4.out (a := ⟨g, 1, none⟩) n0 (.int .i64 0))
            have B5 := Lib.hid (B4.out.setCell (p := ⟨g, 1, none⟩) hbs (.int .i64 0))
            go_wp2_with fail
            go_meet
            exact ⟨0, by omega, by omega, X5, O5, B5⟩
          · have zb : (v1 % 2 == 1) = false := by rw [beq_eq_false_iff_ne]; exact m1
            go_wp2_with fail
            go_meet
            exact ⟨v1, i1, b1, X4, O4, B4⟩
        case rest =>
          clear c1 f1 X4 O4 B4 i1 b1
          obtain ⟨mn, mn0, mn1, X4, O4, B4⟩ := hcut
          generalize wc = w5 at *
          have c2 : w5.cell? ⟨g, 2, none⟩ = some (.int .i64 v2) := X4.out.cell 2
          have f2 := X4.out.free 2
          go_upto_if 68 with fail
          go_cut [] from 9 to 73 (fun wx => ∃ m : Int, -1 ≤ m ∧ m ≤ 8796093022208 ∧ Hid (Whole wx g 26 [.int .i64 v0, .int .i64 mn, .int .i64 m, .int .i64 v3, .int .i64 v4, .int .i64 v5]) ∧ Hid (wx.ownsRow W.heap.size 26 6 (.slice A' k c') k (L.flatMap fxC)) ∧ Hid (Below W.heap.size W wx))
          case first =>
            by_cases m1 : v2 % 4 > 0
            · have zb : decide (v2 % 4 > 0) = true := decide_eq_true m1
              have X5 := Lib.hid (X4.out.put 2 (.int .i64 (-1)))
              have O5 := Lib.hid (ownsRow_setCell_other O4.out (a := ⟨g, 2, none⟩) n0 (.int .i64 (-1)))
              have B5 := Lib.hid (B4.out.setCell (p := ⟨g, 2, none⟩) hbs (.int .i64 (-1)))
              go_wp2_with fail
              go_meet
              exact ⟨-1, by omega, by omega, X5, O5, B5⟩
            · have zb : decide (v2 % 4 > 0) = false := decide_eq_false m1
              go_wp2_with fail
              go_meet
              exact ⟨v2, by omega, b2, X4, O4, B4⟩
          case rest =>
            clear c2 f2 X4 O4 B4 i2 b2
            obtain ⟨mx, mx0, mx1, X4, O4, B4⟩ := hcut
            generalize wc = w6 at *
            have FO : Hid (FxOk ⟨v0, mn, mx, v3, v4, v5⟩) := Lib.hid ⟨i0, b0, mn0, mn1, mx0, mx1, i3, by show v3 ≤ 100; omega, i4, by show v4 ≤ 100; omega, b6, b5⟩
            have x0 := X4.out.cell 0
            have x1 := X4.out.cell 1
            have x2 := X4.out.cell 2
            have x3 := X4.out.cell 3
            have x4 := X4.out.cell 4
            have x5 := X4.out.cell 5
            simp only [List.getElem?_cons_zero, List.getElem?_cons_succ] at x0 x1 x2 x3 x4 x5
            have O5 := Lib.hid (own_below O4.out ((Below.refl _ w6).alloc (Nat.le_refl _) (.cells #[.int .i64 v0, .int .i64 mn, .int .i64 mx, .int .i64 v3, .int .i64 v4, .int .i64 v5] 26)) (Nat.le_refl _))
            have B5 := Lib.hid (B4.out.alloc B4.out.size (.cells #[.int .i64 v0, .int .i64 mn, .int .i64 mx, .int .i64 v3, .int .i64 v4, .int .i64 v5] 26))
            have W5 := Lib.hid (Whole.mk w6 26 #[.int .i64 v0, .int .i64 mn, .int .i64 mx, .int .i64 v3, .int .i64 v4, .int .i64 v5])
            go_upto_region 4 with (at_builtin; refine wpList_pushOne rfl (.tmp 70) (.tmp 72) _ rfl W.heap.size 26 6 48 fxV0 Try.underlying23 fx_info rfl (by decide) k (.slice A' k c') _ rfl O5.out B5.out.size w6.heap.size [.int .i64 v0, .int .i64 mn, .int .i64 mx, .int .i64 v3, .int .i64 v4, .int .i64 v5] rfl W5.out rfl (by simp [Value.oneCell']) (by unfold maxLen; omega) (by omega) ?_; intro A6 c6 w7 h5 ho5 hk5)
            have O7 : Hid (w7.ownsRow W.heap.size 26 6 (.slice A6 (k + 1) c6) (k + 1) ((L ++ [(⟨v0, mn, mx, v3, v4, v5⟩ : Fx)]).flatMap fxC)) := Lib.hid (by
              rw [List.flatMap_append]; exact h5)
            have HO7 : Hid (∀ y ∈ L ++ [(⟨v0, mn, mx, v3, v4, v5⟩ : Fx)], FxOk y) := Lib.hid (fun y hy => by
              rcases List.mem_append.1 hy with hy | hy
              · exact HO.out y hy
              · rw [List.mem_singleton] at hy; subst hy; exact FO.out)
            have B7 := Lib.hid (own_push O5.out B5.out B5.out.size ho5)
            clear h5 ho5 hk5 O5 B5 W5 x0 x1 x2 x3 x4 x5
            go_wp2_with fail
            go_roundw
            case rel => exact ⟨k + 1, A6, c6, L ++ [(⟨v0, mn, mx, v3, v4, v5⟩ : Fx)], by go_num, by go_num, by omega, by omega, Lib.hid (by rw [List.length_append, HL.out]; rfl), HO7, O7, B7⟩
            case measure => simp [intOf] <;> omega
    · have z1 : decide ((k : Int) < l.length) = false ∨ decide ((k : Int) < l.length) = true ∧ decide ((k : Int) < 12) = false := by
        by_cases h1 : k < l.length
        · exact .inr ⟨decide_eq_true (by omega), decide_eq_false (by omega)⟩
        · exact .inl (decide_eq_false (by omega))
      have Z1 := Lib.hid z1
      clear z1
      rcases Z1.out with z1 | ⟨z1, z2⟩
      · have hki : ¬ (k : Int) < l.length := of_decide_eq_false z1
        go_wp2_with fail
        go_ret
        exact ⟨L, A', c', by rw [HL.out]; rfl, by rw [HL.out]; exact O.out, by rw [HL.out]; exact hk2, HO.out, B.out⟩
      · have hki : (k : Int) < l.length := of_decide_eq_true z1
        have hkj : ¬ (k : Int) < 12 := of_decide_eq_false z2
        go_wp2_with fail
        go_ret
        exact ⟨L, A', c', by rw [HL.out]; rfl, by rw [HL.out]; exact O.out, by rw [HL.out]; exact hk2, HO.out, B.out⟩
end Go.Proofs.Ytodnplllkpgfaaa
