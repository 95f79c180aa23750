import Derived.Test.YteaenomfighaoaaZQ
/- quoinlaw19.Tame. -/
namespace Go.Proofs.Yteaenomfighaoaa
open Go Go.RowKit
set_option linter.unusedVariables false
set_option linter.unusedSimpArgs false
set_option maxRecDepth 20000
set_option maxHeartbeats 8000000

/-- No further than 50. -/
structure AlSm (x : Al) : Prop where
  b0 : -50 ≤ x.b
  b1 : x.b ≤ 50
  a0 : -50 ≤ x.a
  a1 : x.a ≤ 50
  s0 : 0 ≤ x.s
  s1 : x.s ≤ 50
  zb : x.ab = true → x.b = 0
  za : x.aa = true → x.a = 0
def AlTm (small : Bool) (x : Al) : Prop := AlOk x ∧ (small = true → AlSm x)
theorem tmod_bdA (z m : Int) (hm : 0 < m) : -m < z.tmod m ∧ z.tmod m < m := ⟨Int.lt_tmod_of_pos z hm, Int.tmod_lt_of_pos z hm⟩
theorem altame_any (l : List Al) (hl : l.length ≤ 9223372036854775807) (A : Option Addr) (c : Nat) (small : Bool) (W : World) (hR : Row W W.heap.size A (l.flatMap alC)) :
    Calls Try.prog 7 #[.slice A l.length c, .bool small] W fun e w' => ∃ L A' c', e = .returned (.slice A' (List.length L) c') ∧ w'.ownsRow W.heap.size 27 5 (.slice A' (List.length L) c') (List.length L) (L.flatMap alC) ∧ (List.length L ≤ 20) ∧ (∀ x ∈ L, AlTm small x) ∧ Below W.heap.size W w' := by
  have HR := Lib.hid hR
  clear hR
  go_enter Try.func7, Try.ntmps7
  go_wp2_with fail
  go_loopw [5, 6] (fun v5 v6 wr => ∃ (k : Nat) (A' : Option Addr) (c' : Nat) (L : List Al), v5 = .slice A' k c' ∧ v6 = .int .i64 k ∧ k ≤ l.length ∧ k ≤ 20 ∧ Hid (L.length = k) ∧ Hid (∀ x ∈ L, AlTm small x) ∧ Hid (wr.ownsRow W.heap.size 27 5 (.slice A' k c') k (L.flatMap alC)) ∧ Hid (Below W.heap.size W wr)) (fun _ v6 _ => l.length - (intOf v6).toNat)
  case atStart => exact ⟨0, none, 0, [], rfl, rfl, Nat.zero_le _, by omega, Lib.hid rfl, Lib.hid (by simp), Lib.hid ⟨rfl, .inl ⟨rfl, rfl⟩⟩, Lib.hid (Below.refl _ _)⟩
  case round =>
    obtain ⟨k, A', c', L, rfl, rfl, hk, hk2, HL, HO, O, B⟩ := hrel
    by_cases hlt : k < l.length ∧ k < 20
    · have hki : (k : Int) < l.length := by omega
      have hkj : (k : Int) < 20 := by omega
      have z1 : decide ((k : Int) < l.length) = true := decide_eq_true hki
      have z2 : decide ((k : Int) < 20) = true := decide_eq_true hkj
      obtain ⟨ad, rfl, hb, d0, d1, d2, d3, d4⟩ := Row.al (HR.out.below B.out) hlt.1
      generalize l[k] = x at *
      have X0 := Lib.hid (Whole.mk wr 27 #[.int .i64 x.b, .int .i64 x.a, .int .i64 x.s, .bool x.ab, .bool x.aa])
      have O1 := Lib.hid (own_below O.out ((Below.refl _ wr).alloc (Nat.le_refl _) (.cells #[.int .i64 x.b, .int .i64 x.a, .int .i64 x.s, .bool x.ab, .bool x.aa] 27)) (Nat.le_refl _))
      have B1 := Lib.hid (B.out.alloc B.out.size (.cells #[.int .i64 x.b, .int .i64 x.a, .int .i64 x.s, .bool x.ab, .bool x.aa] 27))
      have NB : Hid (∀ g, (Value.slice A' k c').ownBlock = some g → g ≠ wr.heap.size) := Lib.hid (fun g hg => by have := owns_lt O.out hg; omega)
      have hbs := B.out.size
      go_upto_region 6 with fail
      clear O B d0 d1 d2 d3 d4 z1 z2
      generalize wr.alloc _ = w1 at *
      obtain ⟨g, hg⟩ : ∃ g, wr.heap.size = g := ⟨_, rfl⟩
      rw [hg] at X0 NB hbs ⊢
      clear hg
      have n0 : (Value.slice A' k c').ownBlock ≠ some g := fun e => NB.out g e rfl
      have N0 := Lib.hid n0
      clear n0
      obtain ⟨most, hmost⟩ : ∃ m : Int, m = (if small then 50 else 1099511627776) := ⟨_, rfl⟩
      have HMO := Lib.hid hmost
      have hm0 : 50 ≤ most ∧ most ≤ 1099511627776 := by rw [hmost]; split <;> omega
      clear hmost
      go_upto_region 7 with fail
      go_upto_if 23 with fail
      go_cut [8] from 9 to 23 (fun v wx => v = .int .i64 most ∧ wx = w1)
      case first =>
        cases small
        · go_wp2_with fail
          go_meet
          exact ⟨by rw [HMO.out]; rfl, rfl⟩
        · go_wp2_with fail
          go_meet
          exact ⟨by rw [HMO.out]; rfl, rfl⟩
      case rest =>
        obtain ⟨rfl, rfl⟩ := hcut
        generalize wc = w2 at *
        have M0 : (most == 0) = false := by rw [beq_eq_false_iff_ne]; omega
        have M1 : IntKind.u64.wrap most = most := by rw [IntKind.wrap_u64]; omega
        obtain ⟨v2, u2, i2, j2⟩ := conv_lt x.s most (by omega) (by omega)
        obtain ⟨i0, j0⟩ := tmod_bdA x.b most (by omega)
        obtain ⟨i1, j1⟩ := tmod_bdA x.a most (by omega)
        obtain ⟨v0, u0⟩ : ∃ v, x.b.tmod most = v := ⟨_, rfl⟩
        obtain ⟨v1, u1⟩ : ∃ v, x.a.tmod most = v := ⟨_, rfl⟩
        rw [u0] at i0 j0
        rw [u1] at i1 j1
        have A1 := Lib.hid O1.out
        go_upto_region 9 with fail
        have n0 := N0.out
        have c0 : w2.cell? ⟨g, 0, none⟩ = some (.int .i64 x.b) := X0.out.cell 0
        have c1 : w2.cell? ⟨g, 1, none⟩ = some (.int .i64 x.a) := X0.out.cell 1
        have c2 : w2.cell? ⟨g, 2, none⟩ = some (.int .i64 x.s) := X0.out.cell 2
        have f0 := X0.out.free 0
        have f1 := X0.out.free 1
        have f2 := X0.out.free 2
        go_region
        obtain ⟨w3, hX, hO, hB, hw3⟩ : ∃ w3, Whole w3 g 27 [.int .i64 v0, .int .i64 v1, .int .i64 v2, .bool x.ab, .bool x.aa] ∧ w3.ownsRow W.heap.size 27 5 (.slice A' k c') k (L.flatMap alC) ∧ Below W.heap.size W w3 ∧
            w3 = (((w2.setCell ⟨g, 0, none⟩ (.int .i64 v0)).setCell ⟨g, 1, none⟩ (.int .i64 v1)).setCell ⟨g, 2, none⟩ (.int .i64 v2)).drew :=
          ⟨(((w2.setCell ⟨g, 0, none⟩ (.int .i64 v0)).setCell ⟨g, 1, none⟩ (.int .i64 v1)).setCell ⟨g, 2, none⟩ (.int .i64 v2)).drew, ((X0.out.put 0 (.int .i64 v0)).put 1 (.int .i64 v1)).put 2 (.int .i64 v2),
            own_below (ownsRow_setCell_other (ownsRow_setCell_other (ownsRow_setCell_other O1.out (a := ⟨g, 0, none⟩) n0 (.int .i64 v0)) (a := ⟨g, 1, none⟩) n0 (.int .i64 v1)) (a := ⟨g, 2, none⟩) n0 (.int .i64 v2)) (Below.drewN' (Below.refl _ _) 1) (Nat.le_refl _),
            Below.drewN' (((B1.out.setCell (p := ⟨g, 0, none⟩) hbs (.int .i64 v0)).setCell (p := ⟨g, 1, none⟩) hbs (.int .i64 v1)).setCell (p := ⟨g, 2, none⟩) hbs (.int .i64 v2)) 1, rfl⟩
        rw [← hw3]
        have X4 := Lib.hid hX
        have O4 := Lib.hid hO
        have B4 := Lib.hid hB
        clear c0 c1 c2 f0 f1 f2 hX hO hB hw3 X0 O1 B1 A1 u0 u1 u2 M0 M1
        have SM : Hid (small = true → most = 50) := Lib.hid (fun h => by rw [HMO.out, h]; rfl)
        clear HMO
        obtain ⟨ab, hab⟩ : ∃ b, x.ab = b := ⟨_, rfl⟩
        obtain ⟨aa, haa⟩ : ∃ b, x.aa = b := ⟨_, rfl⟩
        rw [hab, haa] at X4
        clear hab haa
        have c3 : w3.cell? ⟨g, 3, none⟩ = some (.bool ab) := X4.out.cell 3
        have c0 : w3.cell? ⟨g, 0, none⟩ = some (.int .i64 v0) := X4.out.cell 0
        have f0 := X4.out.free 0
        go_upto_if 43 with fail
        go_cut [] from 9 to 51 (fun wx => ∃ m : Int, -most ≤ m ∧ m ≤ most ∧ Hid (ab = true → m = 0) ∧ Hid (Whole wx g 27 [.int .i64 m, .int .i64 v1, .int .i64 v2, .bool ab, .bool aa]) ∧ Hid (wx.ownsRow W.heap.size 27 5 (.slice A' k c') k (L.flatMap alC)) ∧ Hid (Below W.heap.size W wx))
        case first =>
          cases ab
          · go_wp2_with fail
            go_meet
            exact ⟨v0, by omega, by omega, Lib.hid (fun h => by simp at h), X4, O4, B4⟩
          · have X5 := Lib.hid (X4.out.put 0 (.int .i64 0))
            have O5 := Lib.hid (ownsRow_setCell_other O4.out (a := ⟨g, 0, none⟩) n0 (.int .i64 0))
            have B5 := Lib.hid (B4.out.setCell (p := ⟨g, 0, none⟩) hbs (.int .i64 0))
            go_wp2_with fail
            go_meet
            exact ⟨0, by omega, by omega, Lib.hid (fun _ => rfl), X5, O5, B5⟩
        case rest =>
          clear c0 c3 f0 X4 O4 B4 i0 j0
          obtain ⟨b, b0, b1, ZB, X4, O4, B4⟩ := hcut
          generalize wc = w5 at *
          have c4 : w5.cell? ⟨g, 4, none⟩ = some (.bool aa) := X4.out.cell 4
          have c1 : w5.cell? ⟨g, 1, none⟩ = some (.int .i64 v1) := X4.out.cell 1
          have f1 := X4.out.free 1
          go_upto_if 46 with fail
          go_cut [] from 9 to 51 (fun wx => ∃ m : Int, -most ≤ m ∧ m ≤ most ∧ Hid (aa = true → m = 0) ∧ Hid (Whole wx g 27 [.int .i64 b, .int .i64 m, .int .i64 v2, .bool ab, .bool aa]) ∧ Hid (wx.ownsRow W.heap.size 27 5 (.slice A' k c') k (L.flatMap alC)) ∧ Hid (Below W.heap.size W wx))
          case first =>
            cases aa
            · go_wp2_with fail
              go_meet
              exact ⟨v1, by omega, by omega, Lib.hid (fun h => by simp at h), X4, O4, B4⟩
            · have X5 := Lib.hid (X4.out.put 1 (.int .i64 0))
              have O5 := Lib.hid (ownsRow_setCell_other O4.out (a := ⟨g, 1, none⟩) n0 (.int .i64 0))
              have B5 := Lib.hid (B4.out.setCell (p := ⟨g, 1, none⟩) hbs (.int .i64 0))
              go_wp2_with fail
              go_meet
              exact ⟨0, by omega, by omega, Lib.hid (fun _ => rfl), X5, O5, B5⟩
          case rest =>
            clear c1 c4 f1 X4 O4 B4 i1 j1
            obtain ⟨a, a0, a1, ZA, X4, O4, B4⟩ := hcut
            generalize wc = w6 at *
            have FO : Hid (AlTm small ⟨b, a, ab, aa, v2⟩) := Lib.hid ⟨⟨by show -1099511627776 ≤ b; omega, by show b ≤ 1099511627776; omega, by show -1099511627776 ≤ a; omega, by show a ≤ 1099511627776; omega, i2, by show v2 ≤ 1099511627776; omega, ZB.out, ZA.out⟩,
              fun hs => by have := SM.out hs; exact ⟨by show -50 ≤ b; omega, by show b ≤ 50; omega, by show -50 ≤ a; omega, by show a ≤ 50; omega, i2, by show v2 ≤ 50; omega, ZB.out, ZA.out⟩⟩
            have x0 := X4.out.cell 0
            have x1 := X4.out.cell 1
            have x2 := X4.out.cell 2
            have x3 := X4.out.cell 3
            have x4 := X4.out.cell 4
            simp only [List.getElem?_cons_zero, List.getElem?_cons_succ] at x0 x1 x2 x3 x4
            have O5 := Lib.hid (own_below O4.out ((Below.refl _ w6).alloc (Nat.le_refl _) (.cells #[.int .i64 b, .int .i64 a, .int .i64 v2, .bool ab, .bool aa] 27)) (Nat.le_refl _))
            have B5 := Lib.hid (B4.out.alloc B4.out.size (.cells #[.int .i64 b, .int .i64 a, .int .i64 v2, .bool ab, .bool aa] 27))
            have W5 := Lib.hid (Whole.mk w6 27 #[.int .i64 b, .int .i64 a, .int .i64 v2, .bool ab, .bool aa])
            go_upto_region 4 with (at_builtin; refine wpList_pushOne rfl (.tmp 48) (.tmp 50) _ rfl W.heap.size 27 5 32 alV0 Try.underlying22 al_info rfl (by decide) k (.slice A' k c') _ rfl O5.out B5.out.size w6.heap.size [.int .i64 b, .int .i64 a, .int .i64 v2, .bool ab, .bool aa] rfl W5.out rfl (by simp [Value.oneCell']) (by unfold maxLen; omega) (by omega) ?_; intro A6 c6 w7 h5 ho5 hk5)
            have O7 : Hid (w7.ownsRow W.heap.size 27 5 (.slice A6 (k + 1) c6) (k + 1) ((L ++ [(⟨b, a, ab, aa, v2⟩ : Al)]).flatMap alC)) := Lib.hid (by
              rw [List.flatMap_append]; exact h5)
            have HO7 : Hid (∀ y ∈ L ++ [(⟨b, a, ab, aa, v2⟩ : Al)], AlTm small y) := Lib.hid (fun y hy => by
              rcases List.mem_append.1 hy with hy | hy
              · exact HO.out y hy
              · rw [List.mem_singleton] at hy; subst hy; exact FO.out)
            have B7 := Lib.hid (own_push O5.out B5.out B5.out.size ho5)
            clear h5 ho5 hk5 O5 B5 W5 x0 x1 x2 x3 x4
            go_wp2_with fail
            go_roundw
            case rel => exact ⟨k + 1, A6, c6, L ++ [(⟨b, a, ab, aa, v2⟩ : Al)], by go_num, by go_num, by omega, by omega, Lib.hid (by rw [List.length_append, HL.out]; rfl), HO7, O7, B7⟩
            case measure => simp [intOf] <;> omega
    · have z1 : decide ((k : Int) < l.length) = false ∨ decide ((k : Int) < l.length) = true ∧ decide ((k : Int) < 20) = false := by
        by_cases h1 : k < l.length
        · exact .inr ⟨decide_eq_true (by omega), decide_eq_false (by omega)⟩
        · exact .inl (decide_eq_false (by omega))
      have hL := HL.out
      subst hL
      rcases z1 with z1 | ⟨z1, z2⟩
      · have hki : ¬ (L.length : Int) < l.length := of_decide_eq_false z1
        go_wp2_with fail
        go_ret
        exact ⟨L, A', c', rfl, O.out, by omega, HO.out, B.out⟩
      · have hki : (L.length : Int) < l.length := of_decide_eq_true z1
        have hkj : ¬ (L.length : Int) < 20 := of_decide_eq_false z2
        go_wp2_with fail
        go_ret
        exact ⟨L, A', c', rfl, O.out, by omega, HO.out, B.out⟩
end Go.Proofs.Yteaenomfighaoaa
