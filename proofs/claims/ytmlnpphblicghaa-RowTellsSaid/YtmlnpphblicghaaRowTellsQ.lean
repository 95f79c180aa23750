import Derived.Test.YtmlnpphblicghaaRowAwakeQ
import Derived.Test.YtmlnpphblicghaaRefPlaceQ
import Derived.Test.YtmlnpphblicghaaRowSameQ
import Derived.Test.YtmlnpphblicghaaZQ
/- RowTells answers true. -/
namespace Go.Proofs.Ytmlnpphblicghaa
open Go Go.RowKit
set_option linter.unusedVariables false
set_option linter.unusedSimpArgs false
set_option maxRecDepth 20000
set_option maxHeartbeats 2000000

theorem rowTells_any (zs : List Int) (hl : zs.length = 256) (rs : List Rn) (A : Option Addr) (c : Nat) (l : List Int) (A' : Option Addr) (c' : Nat) (a ln al : Int) (W : World) (hR : Row W W.heap.size A (rCells rs)) (hR' : Row W W.heap.size A' (i64s l))
    (hn : rs.length ≤ 9223372036854775807) (ht : ∀ (k : Nat) (h : k < rs.length), rs[k].text.size ≤ 9223372036854775807) (hn' : l.length ≤ 9223372036854775807) :
    Calls Try.prog 11 #[.agg (i64s zs).toArray, .slice A rs.length c, .slice A' l.length c', .int .i64 a, .int .i64 ln, .int .i64 al] W fun e w' => e = .returned (.bool true) ∧ Below W.heap.size W w' := by
  have HL := Lib.hid hl
  have FW := Lib.hid (fun (w : World) (hb : Below W.heap.size W w) => few_any rs A c w w.heap.size ((hR.below hb).more hb.size) hn ht)
  have FS := Lib.hid (fun h => fewB_size rs h)
  have TM := Lib.hid (fun (z : List Int) (hz : z.length = 256) w => tame_any z hz true w)
  have RU := Lib.hid (fun (w : World) (hb : Below W.heap.size W w) => runs_any l A' c' w ((hR'.below hb).more hb.size) hn')
  have RS := Lib.hid (runsL_size l)
  have HR := Lib.hid hR
  have M0 := Lib.hid (Whole.mk W 37 (i64s zs).toArray)
  have B0 := Lib.hid ((Below.refl W.heap.size W).alloc (Nat.le_refl _) (.cells (i64s zs).toArray 37))
  have k12 : ∀ x : Int, bits .and .i64 x 4095 = x % 4096 := fun x => and_mask_i64 x 12 (by decide)
  have k2 : ∀ x : Int, bits .and .i64 x 3 = x % 4 := fun x => and_mask_i64 x 2 (by decide)
  have ha : -2199023255552 ≤ a.tmod 1099511627776 ∧ a.tmod 1099511627776 ≤ 2199023255552 := by
    have h1 := Int.tmod_lt_of_pos a (b := 1099511627776) (by decide)
    have h2 := Int.lt_tmod_of_pos a (b := 1099511627776) (by decide)
    omega
  have HA := Lib.hid ha
  clear hl hR hR' hn ht ha
  have z0 := M0.out.size
  go_enter Try.func11, Try.ntmps11
  go_wp2_with fail
  refine (FW.out _ B0.out).mono ?_
  rintro e w1 ⟨rfl, rfl⟩
  cases hfw : fewB rs with
  | false =>
    clear hfw FS
    go_wp2_with fail
    refine (rawake_any _).mono ?_
    rintro o w2 ⟨rfl, hb2⟩
    have B2 := Lib.hid (B0.out.trans (hb2.mono B0.out.size))
    clear hb2
    go_wp2
    go_ret
    exact ⟨rfl, B2.out⟩
  | true =>
    obtain ⟨f1, f2⟩ := FS.out hfw
    obtain ⟨n0, hn0⟩ : ∃ m, m = rs.length := ⟨_, rfl⟩
    have HN0 := Lib.hid hn0
    have R0 := Lib.hid ((HR.out.below B0.out).more B0.out.size)
    have HF : Hid (rs.length ≤ 1000 ∧ sizeAll rs ≤ 100000) := Lib.hid ⟨by omega, by omega⟩
    rw [← hn0]
    clear hfw FS FW hn0 HR f1 f2
    generalize W.alloc _ = w1 at *
    go_upto_region 4 with fail
    generalize a.tmod 1099511627776 = av at *
    go_wp2
    go_loopw [3, 4, 5, 13, 14] (fun v3 v4 v5 v13 v14 wr => ∃ (av ln al : Int) (A1 : Option Addr) (n1 c1 k : Nat) (ys : List Int) (rs : List Rn), v3 = .int .i64 av ∧ v4 = .int .i64 ln ∧ v5 = .int .i64 al ∧ v13 = .slice A1 n1 c1 ∧ v14 = .int .i64 k ∧ k ≤ 2 ∧
      Hid (-2199023255552 ≤ av ∧ av ≤ 2199023255552) ∧ Hid (n1 = rs.length) ∧ Hid (rs.length ≤ 1000 ∧ sizeAll rs ≤ 100000) ∧ Hid (ys.length = 256) ∧ Hid (Row wr wr.heap.size A1 (rCells rs)) ∧ Hid (Whole wr W.heap.size 37 (i64s ys)) ∧ Hid (Below W.heap.size W wr)) (fun _ _ _ _ v14 _ => 2 - (intOf v14).toNat)
    case atStart => exact ⟨av, ln, al, A, n0, c, 0, zs, rs, rfl, rfl, rfl, rfl, rfl, by omega, HA, HN0, HF, HL, R0, M0, B0⟩
    case round =>
      clear R0 M0 B0 HA HN0 HF HL
      obtain ⟨av, ln, al, A1, n1, c1, k, ys, rs, rfl, rfl, rfl, rfl, rfl, hk, HA, HN, HF, YL, R1, M1, B1⟩ := hrel
      by_cases hlt : k < 2
      · have hki : (k : Int) < 2 := by omega
        have PL := Lib.hid (fun (w : World) (hR : Row w w.heap.size A1 (rCells rs)) => place_any ys YL.out rs A1 c1 av ln al HA.out w hR HF.out.1 HF.out.2)
        have PR := Lib.hid (fun (w : World) (hR : Row w w.heap.size A1 (rCells rs)) => rplace_any ys YL.out rs A1 c1 av ln al HA.out w hR HF.out.1 HF.out.2)
        unfold PlacePost at PL PR
        rw [← HN.out] at PL PR
        generalize placeZ ys rs av ln al = Z at *
        obtain ⟨ps, h1⟩ := Z
        simp only at PL PR
        have zM := M1.out.size
        go_wp2_with (first | (refine flat_load met_flat (.tmp 6) rfl rfl W.heap.size rfl ys YL.out 37 ?_ ?_; (focus (exact M1.out))))
        refine (PL.out _ R1.out).mono ?_
        rintro o w2 ⟨A2, c2, rfl, ho2, hb2⟩
        have M2 := Lib.hid (M1.out.under hb2 zM)
        have B2 := Lib.hid (B1.out.trans (hb2.mono B1.out.size))
        have R2 := Lib.hid ((R1.out.below hb2).more hb2.size)
        have RP := Lib.hid (row_of_own ho2)
        have hpl : ps.length ≤ 9223372036854775807 := by
          obtain ⟨A', c', hv, q1, q2, -⟩ := owns_nil ho2
          unfold maxLen at q2
          omega
        clear ho2 hb2 M1 B1 R1 zM PL
        have zM := M2.out.size
        go_wp2_with (first | (refine flat_load met_flat (.tmp 6) rfl rfl W.heap.size rfl ys YL.out 37 ?_ ?_; (focus (exact M2.out))))
        refine (PR.out _ R2.out).mono ?_
        rintro o w3 ⟨A3, c3, rfl, ho3, hb3⟩
        have M3 := Lib.hid (M2.out.under hb3 zM)
        have B3 := Lib.hid (B2.out.trans (hb3.mono B2.out.size))
        have RP3 := Lib.hid ((RP.out.below hb3).more hb3.size)
        have RQ := Lib.hid (row_of_own ho3)
        clear ho3 hb3 M2 B2 R2 RP zM PR
        have zM := M3.out.size
        go_wp2_with fail
        refine (psame_any ps hpl A2 A3 c2 c3 _ RP3.out RQ.out).mono ?_
        rintro o w4 ⟨rfl, hb4⟩
        have M4 := Lib.hid (M3.out.under hb4 zM)
        have B4 := Lib.hid (B3.out.trans (hb4.mono B3.out.size))
        clear hb4 M3 B3 RP3 RQ zM
        have zM := M4.out.size
        go_wp2_with (first | (refine flat_load met_flat (.tmp 6) rfl rfl W.heap.size rfl ys YL.out 37 ?_ ?_; (focus (exact M4.out))))
        refine (TM.out ys YL.out _).mono ?_
        rintro o w5 ⟨rfl, hb5⟩
        have M5 := Lib.hid (M4.out.under hb5 zM)
        have B5 := Lib.hid (B4.out.trans (hb5.mono B4.out.size))
        clear hb5 M4 B4 zM
        have zM := M5.out.size
        go_wp2_with fail
        refine (RU.out _ B5.out).mono ?_
        rintro o w6 ⟨A6, c6, rfl, ho6, hb6⟩
        have M6 := Lib.hid (M5.out.under hb6 zM)
        have B6 := Lib.hid (B5.out.trans (hb6.mono B5.out.size))
        have R6 := Lib.hid (row_of_own ho6)
        have O6 := Lib.hid ho6
        have zz := hb6.size
        have z5 := M5.out.size
        clear ho6 hb6 M5 B5 zM
        have zM := M6.out.size
        have YT := Lib.hid (tameM_length ys true YL.out)
        generalize tameM ys true = ys2 at *
        have H4 : Hid (∀ x, (Value.slice A6 (runsL l).length c6).ownBlock = some x → w5.heap.size ≤ x) := Lib.hid (fun x hx => (O6.out.lt x hx).1)
        generalize runsL l = rs2 at *
        obtain ⟨n2, hn2⟩ : ∃ m, m = rs2.length := ⟨_, rfl⟩
        have HN2 := Lib.hid hn2
        rw [← hn2] at O6 H4 ⊢
        clear hn2
        go_wp2_with (first
          | (refine flat_store met_flat (.tmp 6) (.tmp 58) rfl rfl W.heap.size rfl ys2 YT.out rfl 37 ys ?_ YL.out ?_; (focus (exact M6.out)); intro w7 h7 o7; have M7 := Lib.hid h7; have B7 := Lib.hid (B6.out.trans (o7.below (by simp) (by omega))); have O7 := Lib.hid (o7.owns O6.out (fun x hx => by have := H4.out x hx; simp; omega)); clear h7 o7 M6 B6 O6 H4))
        go_roundw
        case rel => exact ⟨av % 4096, ln % 4096, al % 4, A6, n2, c6, k + 1, ys2, rs2, rfl, rfl, rfl, rfl, by go_num, by omega, Lib.hid (by omega), HN2, Lib.hid ⟨by have := RS.out.1; omega, by have := RS.out.2; omega⟩, YT, Lib.hid (row_of_own O7.out), M7, B7⟩
        case measure => simp [intOf]; omega
      · have hki : ¬ (k : Int) < 2 := by omega
        have zB := B1.out.size
        go_wp2_with fail
        refine (rawake_any _).mono ?_
        rintro o w2 ⟨rfl, hb2⟩
        have B2 := Lib.hid (B1.out.trans (hb2.mono zB))
        clear hb2
        go_wp2
        go_ret
        exact ⟨rfl, B2.out⟩
end Go.Proofs.Ytmlnpphblicghaa
