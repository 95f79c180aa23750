import Derived.Test.YteaenomfighaoaaAlPartQ
import Derived.Test.YteaenomfighaoaaExactOfQ
/- along.justified. -/
namespace Go.Proofs.Yteaenomfighaoaa
open Go Go.RowKit
set_option linter.unusedVariables false
set_option linter.unusedSimpArgs false
set_option maxRecDepth 20000
set_option maxHeartbeats 4000000

def justS (f j : Int) : Int := if j = 1 then f else if j = 2 then f / 2 else 0
/-- The variable's box and the lead's, and what lies behind. -/
structure JS (W w : World) (a b : Int) : Prop where
  v : SumV w W.heap.size a
  r : SumV w (W.heap.size + 1) b
  low : Below W.heap.size W w
theorem JS.under {W w w' : World} {a b : Int} (h : JS W w a b) (hb : Below w.heap.size w w') : JS W w' a b :=
  ⟨h.v.under hb h.v.size, h.r.under hb h.r.size, h.low.trans (hb.mono h.low.size)⟩
theorem JS.push {W w w' : World} {a b : Int} {v : Value} {n : Nat} {xs : List Value} (h : JS W w a b) (ho : w.ownsRow (W.heap.size + 2) 3 1 v n xs) (hn : Only v.ownBlock.toList w w') : JS W w' a b := by
  have h1 := hn.below (B := W.heap.size + 2) (fun g hg => own_low ho g (by simpa using hg)) (by have := h.r.size; omega)
  exact ⟨h.v.under h1 (by omega), h.r.under h1 (by omega), h.low.trans (h1.mono (by omega))⟩
theorem JS.setR {W w : World} {a b : Int} (h : JS W w a b) (c : Int) : JS W ((w.setCell ⟨W.heap.size + 1, 0, none⟩ (.int .i64 (tH c))).setCell ⟨W.heap.size + 1, 1, none⟩ (.int .u64 (tL c))) a c :=
  ⟨(h.v.other (p := ⟨W.heap.size + 1, 0, none⟩) (by simp) _).other (p := ⟨W.heap.size + 1, 1, none⟩) (by simp) _, (h.r.put 0 _).put 1 _, (h.low.setCell (p := ⟨W.heap.size + 1, 0, none⟩) (by simp) _).setCell (p := ⟨W.heap.size + 1, 1, none⟩) (by simp) _⟩
theorem JS.setV {W w : World} {a b : Int} (h : JS W w a b) (c : Int) : JS W ((w.setCell ⟨W.heap.size, 0, none⟩ (.int .i64 (tH c))).setCell ⟨W.heap.size, 1, none⟩ (.int .u64 (tL c))) c b :=
  ⟨(h.v.put 0 _).put 1 _, (h.r.other (p := ⟨W.heap.size, 0, none⟩) (by simp) _).other (p := ⟨W.heap.size, 1, none⟩) (by simp) _, (h.low.setCell (p := ⟨W.heap.size, 0, none⟩) (by simp) _).setCell (p := ⟨W.heap.size, 1, none⟩) (by simp) _⟩
theorem justified_any (f : Int) (n : Nat) (j : Int) (hf : -1100000000000000 ≤ f ∧ f ≤ 1100000000000000) (hn : n ≤ 100) (W : World) :
    Calls Try.prog 26 #[totV f, .int .i64 n, .int .i64 j] W fun e w' => ∃ A c, e = .returned (.tuple #[totV (justS f j), .slice A (justT n j).length c]) ∧ w'.ownsRow W.heap.size 3 1 (.slice A (justT n j).length c) (justT n j).length (natV (justT n j)) ∧ Below W.heap.size W w' := by
  have HH := Lib.hid (fun w => half_any f (tot_sm (by omega) (by omega)) w)
  have J0 : Hid (JS W ((W.alloc (.cells #[.int .i64 (tH f), .int .u64 (tL f)] 36)).alloc (.cells #[.int .i64 0, .int .u64 0] 36)) f 0) := Lib.hid
    ⟨(Whole.mk W 36 #[.int .i64 (tH f), .int .u64 (tL f)]).made _, by have h := Whole.mk (W.alloc (.cells #[.int .i64 (tH f), .int .u64 (tL f)] 36)) 36 #[.int .i64 0, .int .u64 0]; rw [World.size_alloc] at h; exact h, ((Below.refl _ _).alloc (Nat.le_refl _) _).alloc (by simp) _⟩
  have HJ := Lib.hid (show justS f j = if j = 1 then f else if j = 2 then f / 2 else 0 from rfl)
  have HT := Lib.hid (show justT n j = if j = 3 then betwT (n - 1) else if j = 4 then bothT n else [] from rfl)
  clear hf
  go_enter Try.func26, Try.ntmps26
  go_upto_region 2 with fail
  unfold totV
  generalize (W.alloc _).alloc _ = w1 at *
  by_cases h2 : j = 2
  · subst h2
    have EJ := Lib.hid (show justS f 2 = f / 2 by rw [HJ.out, if_neg (by decide), if_pos rfl])
    have ET := Lib.hid (show justT n 2 = [] by rw [HT.out, if_neg (by decide), if_neg (by decide)])
    clear HJ HT
    have v0 := J0.out.v.cell 0
    have v1 := J0.out.v.cell 1
    simp only [List.getElem?_cons_zero, List.getElem?_cons_succ] at v0 v1
    go_wp2_with fail
    refine (HH.out _).mono ?_
    rintro e w2 ⟨rfl, hb⟩
    have J1 := Lib.hid (J0.out.under hb)
    clear hb J0 v0 v1 HH
    have v0 := J1.out.v.cell 0
    have v1 := J1.out.v.cell 1
    have f0 := J1.out.v.free 0
    have f1 := J1.out.v.free 1
    simp only [List.getElem?_cons_zero, List.getElem?_cons_succ] at v0 v1
    have J2 := Lib.hid (J1.out.setV (f / 2))
    go_upto_region 7 with fail
    clear J1 v0 v1 f0 f1
    generalize (w2.setCell _ _).setCell _ _ = w3 at *
    have v0 := J2.out.v.cell 0
    have v1 := J2.out.v.cell 1
    have q0 := J2.out.r.cell 0
    have q1 := J2.out.r.cell 1
    have g0 := J2.out.r.free 0
    have g1 := J2.out.r.free 1
    simp only [List.getElem?_cons_zero, List.getElem?_cons_succ] at v0 v1 q0 q1
    have J3 := Lib.hid (J2.out.setR (f / 2))
    go_upto_region 18 with fail
    clear J2 v0 v1 q0 q1 g0 g1
    generalize (w3.setCell _ _).setCell _ _ = w4 at *
    have O1 : Hid (w4.ownsRow (W.heap.size + 2) 3 1 (.slice none 0 0) 0 (natV [])) := Lib.hid ⟨rfl, .inl ⟨rfl, rfl⟩⟩
    have q0 := J3.out.r.cell 0
    have q1 := J3.out.r.cell 1
    have g0 := J3.out.r.free 0
    have g1 := J3.out.r.free 1
    simp only [List.getElem?_cons_zero, List.getElem?_cons_succ] at q0 q1
    have J9 := Lib.hid (J3.out.setR (f / 2))
    have O9 := Lib.hid (own_raise (b' := W.heap.size) (ownsRow_setCell_below (ownsRow_setCell_below O1.out (a := ⟨W.heap.size + 1, 0, none⟩) (by simp) (.int .i64 (tH (f / 2)))) (a := ⟨W.heap.size + 1, 1, none⟩) (by simp) (.int .u64 (tL (f / 2)))) (fun g hg => by have := own_low O1.out g hg; omega))
    go_wp2_with fail
    refine cells_end2 (n := 2) sum_flatA rfl (W.heap.size + 1) rfl (SumC (f / 2)) rfl 36 J9.out.r rfl ?_
    rw [EJ.out, ET.out]
    exact ⟨none, 0, rfl, O9.out, J9.out.low⟩
  · have z2 : (j == 2) = false := by rw [beq_eq_false_iff_ne]; exact h2
    by_cases h1 : j = 1
    · subst h1
      have EJ := Lib.hid (show justS f 1 = f by rw [HJ.out, if_pos rfl])
      have ET := Lib.hid (show justT n 1 = [] by rw [HT.out, if_neg (by decide), if_neg (by decide)])
      clear HJ HT HH
      have v0 := J0.out.v.cell 0
      have v1 := J0.out.v.cell 1
      have q0 := J0.out.r.cell 0
      have q1 := J0.out.r.cell 1
      have g0 := J0.out.r.free 0
      have g1 := J0.out.r.free 1
      simp only [List.getElem?_cons_zero, List.getElem?_cons_succ] at v0 v1 q0 q1
      have J3 := Lib.hid (J0.out.setR f)
      go_upto_region 18 with fail
      clear J0 v0 v1 q0 q1 g0 g1
      generalize (w1.setCell _ _).setCell _ _ = w4 at *
      have O1 : Hid (w4.ownsRow (W.heap.size + 2) 3 1 (.slice none 0 0) 0 (natV [])) := Lib.hid ⟨rfl, .inl ⟨rfl, rfl⟩⟩
      have q0 := J3.out.r.cell 0
      have q1 := J3.out.r.cell 1
      have g0 := J3.out.r.free 0
      have g1 := J3.out.r.free 1
      simp only [List.getElem?_cons_zero, List.getElem?_cons_succ] at q0 q1
      have J9 := Lib.hid (J3.out.setR (f))
      have O9 := Lib.hid (own_raise (b' := W.heap.size) (ownsRow_setCell_below (ownsRow_setCell_below O1.out (a := ⟨W.heap.size + 1, 0, none⟩) (by simp) (.int .i64 (tH (f)))) (a := ⟨W.heap.size + 1, 1, none⟩) (by simp) (.int .u64 (tL (f)))) (fun g hg => by have := own_low O1.out g hg; omega))
      go_wp2_with fail
      refine cells_end2 (n := 2) sum_flatA rfl (W.heap.size + 1) rfl (SumC (f)) rfl 36 J9.out.r rfl ?_
      rw [EJ.out, ET.out]
      exact ⟨none, 0, rfl, O9.out, J9.out.low⟩
    · have z1 : (j == 1) = false := by rw [beq_eq_false_iff_ne]; exact h1
      have EJ := Lib.hid (show justS f j = 0 by rw [HJ.out, if_neg h1, if_neg h2])
      clear HJ HH
      by_cases h3 : j = 3
      · have z3 : (j == 3) = true := by rw [beq_iff_eq]; exact h3
        have ET := Lib.hid (show justT n j = betwT (n - 1) by rw [HT.out, if_pos h3])
        clear HT h1 h2 h3
        go_wp2_with fail
        go_loopw [7, 24] (fun v7 v24 wr => ∃ (k : Nat) (A1 : Option Addr) (c1 : Nat), v7 = .slice A1 k c1 ∧ v24 = .int .i64 k ∧ k ≤ n - 1 ∧ Hid (wr.ownsRow (W.heap.size + 2) 3 1 (.slice A1 k c1) k (natV (betwT k))) ∧ Hid (JS W wr f 0)) (fun _ v24 _ => n - (intOf v24).toNat)
        case atStart => exact ⟨0, none, 0, rfl, rfl, Nat.zero_le _, Lib.hid ⟨rfl, .inl ⟨rfl, rfl⟩⟩, J0⟩
        case round =>
          clear J0
          generalize wr = w2 at *
          obtain ⟨k, A1, c1, rfl, rfl, hk, O1, J1⟩ := hrel
          by_cases hlt : k < n - 1
          · have hltz : (k : Int) < (n : Int) - 1 := by omega
            have hlow : W.heap.size + 2 ≤ w2.heap.size := by have := J1.out.r.size; omega
            go_wp2_with fail
            refine (behind_any k (by omega) _).mono ?_
            rintro e w3 ⟨rfl, rfl⟩
            have O2 := Lib.hid (own_below O1.out ((Below.refl _ w2).alloc (Nat.le_refl _) (.cells #[.int .i64 ((2 * k + 1 : Nat) : Int)] 3)) (Nat.le_refl _))
            have J2 := Lib.hid (J1.out.under ((Below.refl _ w2).alloc (Nat.le_refl _) (.cells #[.int .i64 ((2 * k + 1 : Nat) : Int)] 3)))
            clear O1 J1
            go_upto_region 12 with (at_builtin; refine wpList_pushOne rfl (.tmp 27) (.tmp 30) _ rfl (W.heap.size + 2) 3 1 8 (.int .i64 0) Try.underlying52 intA_info rfl (by decide) k (.slice A1 k c1) _ rfl O2.out (by rw [World.size_alloc]; omega) w2.heap.size [.int .i64 ((2 * k + 1 : Nat) : Int)] rfl (Whole.mk w2 3 #[.int .i64 ((2 * k + 1 : Nat) : Int)]) rfl (by simp [Value.oneCell']) (by unfold maxLen; omega) (by omega) ?_; intro A5 c5 w5 h5 ho5 hk5)
            have O5 : Hid (w5.ownsRow (W.heap.size + 2) 3 1 (.slice A5 (k + 1) c5) (k + 1) (natV (betwT (k + 1)))) := Lib.hid (by rw [betwT_succ, natV_app]; exact h5)
            have J5 := Lib.hid (J2.out.push O2.out ho5)
            clear h5 ho5 hk5 O2 J2
            go_wp2_with fail
            go_roundw
            case rel => exact ⟨k + 1, A5, c5, by go_num, by go_num, by omega, O5, J5⟩
            case measure => simp [intOf] <;> omega
          · have hltz : ¬ (k : Int) < (n : Int) - 1 := by omega
            have hkn : k = n - 1 := by omega
            have ET2 : Hid (justT n j = betwT k ∧ (justT n j).length = k) := Lib.hid (by rw [ET.out, hkn, betwT_len]; exact ⟨rfl, rfl⟩)
            clear ET hkn
            have J3 := J1
            clear J1
            have q0 := J3.out.r.cell 0
            have q1 := J3.out.r.cell 1
            have g0 := J3.out.r.free 0
            have g1 := J3.out.r.free 1
            simp only [List.getElem?_cons_zero, List.getElem?_cons_succ] at q0 q1
            have J9 := Lib.hid (J3.out.setR 0)
            have O9 := Lib.hid (own_raise (b' := W.heap.size) (ownsRow_setCell_below (ownsRow_setCell_below O1.out (a := ⟨W.heap.size + 1, 0, none⟩) (by simp) (.int .i64 (tH 0))) (a := ⟨W.heap.size + 1, 1, none⟩) (by simp) (.int .u64 (tL 0))) (fun g hg => by have := own_low O1.out g hg; omega))
            go_wp2_with fail
            refine cells_end2 (n := 2) sum_flatA rfl (W.heap.size + 1) rfl (SumC 0) rfl 36 J9.out.r rfl ?_
            rw [EJ.out, ET2.out.2, ET2.out.1]
            exact ⟨A1, c1, rfl, O9.out, J9.out.low⟩
      · have z3 : (j == 3) = false := by rw [beq_eq_false_iff_ne]; exact h3
        by_cases h4 : j = 4
        · have z4 : (j == 4) = true := by rw [beq_iff_eq]; exact h4
          have ET := Lib.hid (show justT n j = bothT n by rw [HT.out, if_neg h3, if_pos h4])
          clear HT h1 h2 h3 h4
          go_wp2_with fail
          go_loopw [7, 34] (fun v7 v34 wr => ∃ (k m : Nat) (A1 : Option Addr) (c1 : Nat), v7 = .slice A1 m c1 ∧ v34 = .int .i64 k ∧ k ≤ n ∧ m ≤ 2 * k ∧ 2 * k ≤ m ∧ Hid (m = 2 * k) ∧ Hid (wr.ownsRow (W.heap.size + 2) 3 1 (.slice A1 m c1) m (natV (bothT k))) ∧ Hid (JS W wr f 0)) (fun _ v34 _ => n - (intOf v34).toNat)
          case atStart => exact ⟨0, 0, none, 0, rfl, rfl, Nat.zero_le _, by omega, by omega, Lib.hid rfl, Lib.hid ⟨rfl, .inl ⟨rfl, rfl⟩⟩, J0⟩
          case round =>
            clear J0
            generalize wr = w2 at *
            obtain ⟨k, m, A1, c1, rfl, rfl, hk, hm, hm2, HM, O1, J1⟩ := hrel
            by_cases hlt : k < n
            · have hltz : (k : Int) < (n : Int) := by omega
              have hlow : W.heap.size + 2 ≤ w2.heap.size := by have := J1.out.r.size; omega
              go_wp2_with fail
              refine (ahead_any k (by omega) _).mono ?_
              rintro e w3 ⟨rfl, rfl⟩
              go_wp2_with fail
              refine (behind_any k (by omega) _).mono ?_
              rintro e w3 ⟨rfl, rfl⟩
              have O2 := Lib.hid (own_below O1.out ((Below.refl _ w2).alloc (Nat.le_refl _) (.cells #[.int .i64 ((2 * k : Nat) : Int), .int .i64 ((2 * k + 1 : Nat) : Int)] 3)) (Nat.le_refl _))
              have J2 := Lib.hid (J1.out.under ((Below.refl _ w2).alloc (Nat.le_refl _) (.cells #[.int .i64 ((2 * k : Nat) : Int), .int .i64 ((2 * k + 1 : Nat) : Int)] 3)))
              have RX : Hid (∀ j u, [Value.int .i64 ((2 * k : Nat) : Int), Value.int .i64 ((2 * k + 1 : Nat) : Int)][j]? = some u → (w2.alloc (.cells #[.int .i64 ((2 * k : Nat) : Int), .int .i64 ((2 * k + 1 : Nat) : Int)] 3)).cell? ((⟨w2.heap.size, 0, none⟩ : Addr).add j) = some u) := Lib.hid (fun j u hu => by rw [head_add]; exact ((Whole.mk w2 3 #[.int .i64 ((2 * k : Nat) : Int), .int .i64 ((2 * k + 1 : Nat) : Int)]).cell j).trans hu)
              clear O1 J1
              go_upto_region 17 with (at_builtin; refine wpList_pushB rfl (.tmp 37) (.tmp 42) _ rfl (W.heap.size + 2) 3 1 8 (.int .i64 0) Try.underlying52 intA_info rfl (by decide) m (.slice A1 m c1) _ rfl O2.out (by rw [World.size_alloc]; omega) ⟨w2.heap.size, 0, none⟩ 2 2 [.int .i64 ((2 * k : Nat) : Int), .int .i64 ((2 * k + 1 : Nat) : Int)] rfl rfl (by decide) RX.out (by simp [Value.oneCell']) (by unfold maxLen; omega) (by omega) ?_; intro A5 c5 w5 h5 ho5 hk5)
              have O5 : Hid (w5.ownsRow (W.heap.size + 2) 3 1 (.slice A5 (m + 2) c5) (m + 2) (natV (bothT (k + 1)))) := Lib.hid (by rw [bothT_succ, natV_app]; exact h5)
              have J5 := Lib.hid (J2.out.push O2.out ho5)
              have HM5 : Hid (m + 2 = 2 * (k + 1)) := Lib.hid (by rw [HM.out]; omega)
              clear h5 ho5 hk5 O2 J2 HM RX
              go_wp2_with fail
              go_roundw
              case rel => exact ⟨k + 1, m + 2, A5, c5, by go_num, by go_num, by omega, by omega, by omega, HM5, O5, J5⟩
              case measure => simp [intOf] <;> omega
            · have hltz : ¬ (k : Int) < (n : Int) := by omega
              have hkn : k = n := by omega
              have ET2 : Hid (justT n j = bothT k ∧ (justT n j).length = m) := Lib.hid (by rw [ET.out, hkn, bothT_len, HM.out, hkn]; exact ⟨rfl, rfl⟩)
              clear ET hkn HM
              have J3 := J1
              clear J1
              have q0 := J3.out.r.cell 0
              have q1 := J3.out.r.cell 1
              have g0 := J3.out.r.free 0
              have g1 := J3.out.r.free 1
              simp only [List.getElem?_cons_zero, List.getElem?_cons_succ] at q0 q1
              have J9 := Lib.hid (J3.out.setR 0)
              have O9 := Lib.hid (own_raise (b' := W.heap.size) (ownsRow_setCell_below (ownsRow_setCell_below O1.out (a := ⟨W.heap.size + 1, 0, none⟩) (by simp) (.int .i64 (tH 0))) (a := ⟨W.heap.size + 1, 1, none⟩) (by simp) (.int .u64 (tL 0))) (fun g hg => by have := own_low O1.out g hg; omega))
              go_wp2_with fail
              refine cells_end2 (n := 2) sum_flatA rfl (W.heap.size + 1) rfl (SumC 0) rfl 36 J9.out.r rfl ?_
              rw [EJ.out, ET2.out.2, ET2.out.1]
              exact ⟨A1, c1, rfl, O9.out, J9.out.low⟩
        · have z4 : (j == 4) = false := by rw [beq_eq_false_iff_ne]; exact h4
          have ET := Lib.hid (show justT n j = [] by rw [HT.out, if_neg h3, if_neg h4])
          clear HT h1 h2 h3 h4
          have J3 := J0
          have O1 : Hid (w1.ownsRow (W.heap.size + 2) 3 1 (.slice none 0 0) 0 (natV [])) := Lib.hid ⟨rfl, .inl ⟨rfl, rfl⟩⟩
          have q0 := J3.out.r.cell 0
          have q1 := J3.out.r.cell 1
          have g0 := J3.out.r.free 0
          have g1 := J3.out.r.free 1
          simp only [List.getElem?_cons_zero, List.getElem?_cons_succ] at q0 q1
          have J9 := Lib.hid (J3.out.setR (0))
          have O9 := Lib.hid (own_raise (b' := W.heap.size) (ownsRow_setCell_below (ownsRow_setCell_below O1.out (a := ⟨W.heap.size + 1, 0, none⟩) (by simp) (.int .i64 (tH (0)))) (a := ⟨W.heap.size + 1, 1, none⟩) (by simp) (.int .u64 (tL (0)))) (fun g hg => by have := own_low O1.out g hg; omega))
          go_wp2_with fail
          refine cells_end2 (n := 2) sum_flatA rfl (W.heap.size + 1) rfl (SumC (0)) rfl 36 J9.out.r rfl ?_
          rw [EJ.out, ET.out]
          exact ⟨none, 0, rfl, O9.out, J9.out.low⟩
end Go.Proofs.Yteaenomfighaoaa
