import Derived.Test.YtfmcabgcckllcaaHeirAwake
import Derived.Test.YtfmcabgcckllcaaText
/- HeirHands answers true. -/
namespace Go.Proofs.Ytfmcabgcckllcaa
open Go Go.RowKit
set_option linter.unusedVariables false
set_option linter.unusedSimpArgs false
set_option maxRecDepth 20000
set_option maxHeartbeats 8000000

theorem mask7h (n : Int) : bits .and .i64 n 7 = n % 8 := and_mask_i64 n 3 (by decide)
theorem heirHands_any (zs : List Int) (A : Option Addr) (c : Nat) (n : Int) (W : World) (hR : Row W W.heap.size A (i64s zs)) (hm : zs.length ≤ 9223372036854775807) :
    Calls Try.prog 5 #[.slice A zs.length c, .int .i64 n] W fun e w' => e = .returned (.bool true) ∧ Below W.heap.size W w' := by
  have HR := Lib.hid hR
  clear hR
  obtain ⟨m, hmm, hm8⟩ : ∃ m : Nat, bits .and .i64 n 7 = (m : Int) ∧ m < 8 := by
    rw [mask7h]; exact ⟨(n % 8).toNat, by omega, by omega⟩
  go_enter Try.func5, Try.ntmps5
  go_wp2_with fail
  refine (text_any zs A c true W HR.out hm).mono ?_
  rintro e w1 ⟨s, rfl, hs, b1⟩
  have B1 := Lib.hid b1
  clear b1 hs
  go_wp2_with fail
  refine (parse_any s w1).mono ?_
  rintro e w2 ⟨ds, A2, c2, x2, y2, rfl, hrow, hlen, b2, -⟩
  have B2 := Lib.hid (B1.out.trans (b2.mono B1.out.size))
  have R2 := Lib.hid hrow
  clear b2 B1 hrow
  go_wp2_with fail
  refine (root_any ds A2 c2 w2 R2.out hlen).mono ?_
  rintro e w3 ⟨rfl, b3⟩
  have B3 := Lib.hid (B2.out.trans (b3.mono B2.out.size))
  clear b3 B2 R2
  have PL := Lib.hid (rootZ_length ds)
  have PD := Lib.hid (root_display ds)
  generalize rootZ ds = P at *
  have z3 := B3.out.size
  go_wp2_with (first
    | (refine style_store (.tmp 8) (.tmp 20) rfl rfl w3.heap.size rfl P PL.out rfl zeros43 ?_ rfl ?_; (focus (exact Whole.mk w3 27 (i64s zeros43).toArray)); intro w4 h4 o4; have P4 := Lib.hid h4; have B4 := Lib.hid ((B3.out.alloc B3.out.size _).trans (o4.below (by simp; omega) (by simp; omega))); have z4 : w3.heap.size < w4.heap.size := h4.size; have z4' := B4.out.size; clear h4 o4)
    | (refine style_load (.tmp 8) rfl rfl w3.heap.size rfl P PL.out ?_ ?_; (focus (exact P4.out)))
    | (refine style_store (.tmp 9) (.tmp 21) rfl rfl w4.heap.size rfl P PL.out rfl zeros43 ?_ rfl ?_; (focus (exact Whole.mk w4 27 (i64s zeros43).toArray)); intro w5 h5 o5; have S5 := Lib.hid h5; have P5 := Lib.hid (o5.whole (P4.out.made _) (by simp; omega)); have B5 := Lib.hid ((B4.out.alloc B4.out.size _).trans (o5.below (by simp; omega) (by simp; omega))); have z5 : w4.heap.size < w5.heap.size := h5.size; clear h5 o5))
  go_loopw [10] (fun i wr => ∃ (k : Nat) (S : List Int), k ≤ m + 1 ∧ i = .int .i64 k ∧ S.length = 43 ∧ handZ S = handZ P ∧ (0 < k → S = handZ P) ∧ Whole wr w4.heap.size 27 (i64s S) ∧ Whole wr w3.heap.size 27 (i64s P) ∧ Below W.heap.size W wr) (fun i _ => m + 1 - (intOf i).toNat)
  case atStart => exact ⟨0, P, Nat.zero_le _, rfl, PL.out, rfl, fun h => absurd h (by decide), S5.out, P5.out, B5.out⟩
  case round =>
    obtain ⟨k, S, hk, rfl, hSl, hSh, hSk, hS, hP, hB⟩ := hrel
    have SL := Lib.hid hSl
    have SH := Lib.hid hSh
    have SK := Lib.hid hSk
    have HS := Lib.hid hS
    have HP := Lib.hid hP
    have HB := Lib.hid hB
    have zr := hB.size
    have zs4 := hS.size
    clear hSl hSh hSk hS hP hB
    by_cases hlt : k < m + 1
    · have hlt' : (k : Int) < m + 1 := by omega
      go_wp2_with (refine style_load (.tmp 9) rfl rfl w4.heap.size rfl S SL.out ?_ ?_; (focus (exact HS.out)))
      refine (own_any S SL.out [] none 0 _ (Row.nil _ _ _) (by simp)).mono ?_
      rintro e w6 ⟨rfl, b6⟩
      have HS6 := Lib.hid (HS.out.under b6 zs4)
      have HP6 := Lib.hid (HP.out.under b6 HP.out.size)
      have HB6 := Lib.hid (HB.out.trans (b6.mono zr))
      clear b6
      have OZ := Lib.hid (show ownZ S [] = handZ P from (ownZ_nil S).trans SH.out)
      rw [OZ.out]
      go_wp2_with (refine style_store (.tmp 9) (.tmp 30) rfl rfl w4.heap.size rfl (handZ P) (handZ_length P) rfl S ?_ SL.out ?_; (focus (exact HS6.out)); intro w7 h7 o7; have HS7 := Lib.hid h7; have HP7 := Lib.hid (o7.whole HP6.out (by simp; omega)); have HB7 := Lib.hid (HB6.out.trans (o7.below (by simp; omega) HB6.out.size)); clear h7 o7)
      go_roundw
      case rel => exact ⟨k + 1, handZ P, by omega, by go_num, handZ_length P, handZ_twice P, fun _ => rfl, HS7.out, HP7.out, HB7.out⟩
      case measure => simp [intOf]; omega
    · have hlt' : ¬ (k : Int) < m + 1 := by omega
      have HE := Lib.hid (SK.out (by omega))
      rw [HE.out] at HS
      obtain ⟨x, hx⟩ : ∃ x, P.getD 6 0 = x := ⟨_, rfl⟩
      obtain ⟨y, hy⟩ : ∃ x, P.getD 7 0 = x := ⟨_, rfl⟩
      obtain ⟨z, hz⟩ : ∃ x, P.getD 42 0 = x := ⟨_, rfl⟩
      obtain ⟨v0, hv⟩ : ∃ x, P.getD 0 0 = x := ⟨_, rfl⟩
      have HX := Lib.hid hx
      have HY := Lib.hid hy
      have HW := Lib.hid hz
      have HV := Lib.hid hv
      have hd := PD.out
      rw [hv] at hd
      have HD := Lib.hid hd
      clear hx hy hz hv hd
      go_wp2_with fail
      refine (rinit_any _).mono ?_
      rintro e w6 ⟨rfl, b6⟩
      have HS6 := Lib.hid (HS.out.under b6 zs4)
      have HP6 := Lib.hid (HP.out.under b6 HP.out.size)
      have HB6 := Lib.hid (HB.out.trans (b6.mono zr))
      have z6 := HB6.out.size
      have z6' := HS6.out.size
      clear b6
      have hne : ¬ w3.heap.size = w6.heap.size := by omega
      go_upto_region 9 with (refine style_store (.tmp 11) (.tmp 31) rfl rfl w6.heap.size rfl initZ rfl rfl zeros43 ?_ rfl ?_; (focus (exact Whole.mk w6 27 (i64s zeros43).toArray)); intro w7 h7 o7; have N7 := Lib.hid h7; have HS7 := Lib.hid (o7.whole (HS6.out.made _) (by simp; omega)); have HP7 := Lib.hid (o7.whole (HP6.out.made _) (by simp; omega)); have HB7 := Lib.hid ((HB6.out.alloc HB6.out.size _).trans (o7.below (by simp; omega) (by simp; omega))); clear h7 o7)
      have c6 : w7.cell? ⟨w3.heap.size, 6, none⟩ = some (.int .i64 x) := by rw [HP7.out.at PL.out 6 (by omega), HX.out]
      have c7 : w7.cell? ⟨w3.heap.size, 7, none⟩ = some (.int .i64 y) := by rw [HP7.out.at PL.out 7 (by omega), HY.out]
      have c42 : w7.cell? ⟨w3.heap.size, 42, none⟩ = some (.int .i64 z) := by rw [HP7.out.at PL.out 42 (by omega), HW.out]
      have e6 := N7.out.at rfl 6 (by omega)
      have e7 := N7.out.at rfl 7 (by omega)
      have e42 := N7.out.at rfl 42 (by omega)
      have f6 := N7.out.free 6
      have f7 := N7.out.free 7
      have f42 := N7.out.free 42
      simp only [Act.put]
      go_cut [] (fun wx => Whole wx w6.heap.size 27 (i64s (handZ P)) ∧ Only [w6.heap.size] w7 wx)
      case first =>
        go_region
        all_goals (go_wp2_with fail; go_meet)
        all_goals exact ⟨hand_done P N7.out x y z HX.out HY.out HW.out, ((((Only.refl _ _).setCell _ (.inl (by simp)) _).setCell _ (.inl (by simp)) _).setCell _ (.inl (by simp)) _).drawn⟩
      case rest =>
        obtain ⟨h8, o8⟩ := hcut
        have N8 := Lib.hid h8
        have HS8 := Lib.hid (o8.whole HS7.out (by simp; omega))
        have hp8 := o8.whole HP7.out (by simp; omega)
        have HB8 := Lib.hid (HB7.out.trans (o8.below (by simp; omega) HB7.out.size))
        have c0 : wc.cell? ⟨w3.heap.size, 0, none⟩ = some (.int .i64 v0) := by rw [hp8.at PL.out 0 (by omega), HV.out]
        clear h8 o8 hp8 c6 c7 c42 e6 e7 e42 f6 f7 f42
        rcases HD.out with rfl | rfl
        all_goals
          go_wp2_with (first
            | (refine style_load (.tmp 9) rfl rfl w4.heap.size rfl (handZ P) (handZ_length P) ?_ ?_; (focus (exact HS8.out)))
            | (refine style_load (.tmp 11) rfl rfl w6.heap.size rfl (handZ P) (handZ_length P) ?_ ?_; (focus (exact N8.out)))
            | (refine wpList_style_eql (.tmp 41) (.tmp 42) _ rfl rfl (handZ P) (handZ_length P) rfl rfl ?_))
          refine (awake_any _).mono ?_
          rintro e w9 ⟨rfl, b9⟩
          go_wp2
          go_ret
          exact ⟨rfl, HB8.out.trans (b9.mono HB8.out.size)⟩
end Go.Proofs.Ytfmcabgcckllcaa
