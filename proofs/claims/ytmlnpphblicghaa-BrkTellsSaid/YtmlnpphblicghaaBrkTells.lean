import Derived.Test.YtmlnpphblicghaaBrkSame
import Derived.Test.YtmlnpphblicghaaBrkTame
import Derived.Test.YtmlnpphblicghaaBrkLong
import Derived.Test.YtmlnpphblicghaaRefGlyphs
import Derived.Test.YtmlnpphblicghaaRunsOf
import Derived.Test.YtmlnpphblicghaaTameM
/- BrkTells answers true. -/
namespace Go.Proofs.Ytmlnpphblicghaa
open Go Go.RowKit
set_option linter.unusedVariables false
set_option linter.unusedSimpArgs false
set_option maxRecDepth 20000
set_option maxHeartbeats 8000000

def NiceG (g : List Gl) : Prop := FineG g ∧ ∀ x ∈ g, 0 ≤ x.adv
theorem atZ_in (zs : List Int) (b : UInt8) : 0 ≤ atZ zs b ∧ atZ zs b ≤ 65536 := by unfold atZ advZ; omega
theorem rawRun_adv (zs : List Int) (r white : Int) : ∀ (l : List UInt8) (i : Int), ∀ x ∈ rawRun zs r white i l, 0 ≤ x.adv ∧ x.adv ≤ 65536
  | [], i, x, h => by simp [rawRun] at h
  | b :: l, i, x, h => by
    rw [rawRun, List.mem_cons] at h
    rcases h with rfl | h
    · unfold rawG
      have h1 := atZ_in zs b
      have h2 := atZ_in zs 32
      split
      · split
        · exact ⟨Int.le_refl 0, (by decide : (0 : Int) ≤ 65536)⟩
        · exact h1
      · split
        · exact h2
        · exact h1
    · exact rawRun_adv zs r white l (i + 1) x h
theorem rawAll_adv (zs : List Int) : ∀ (rs : List Rn) (r : Int), ∀ x ∈ rawAll zs r rs, 0 ≤ x.adv ∧ x.adv ≤ 65536
  | [], r, x, h => by simp [rawAll] at h
  | y :: l, r, x, h => by
    rw [rawAll, List.mem_append] at h
    rcases h with h | h
    · exact rawRun_adv _ _ _ _ _ x h
    · exact rawAll_adv zs l (r + 1) x h
theorem glyphsL_adv (zs : List Int) (rs : List Rn) : ∀ x ∈ glyphsL zs rs, 0 ≤ x.adv ∧ x.adv ≤ 65536 := fun x h =>
  rawAll_adv zs rs 0 x ((colG_sub _ _).subset ((trimG_sub _ _).subset h))
theorem glyphsL_nice (zs : List Int) (rs : List Rn) (h : sizeAll rs ≤ 1000000) : NiceG (glyphsL zs rs) := by
  have hl := glyphsL_length zs rs
  exact ⟨⟨by omega, fun x hx => by have := glyphsL_adv zs rs x hx; omega⟩, fun x hx => (glyphsL_adv zs rs x hx).1⟩
theorem tameG_nice (l : List Gl) : NiceG (tameG l) := ⟨tameG_fine l, fun x hx => (tameG_mem hx).2.1⟩
theorem brkTells_any (gs : List Gl) (A : Option Addr) (c : Nat) (zs : List Int) (hl : zs.length = 256) (l : List Int) (A' : Option Addr) (c' : Nat) (a : Int) (ha : I64 a) (W : World) (hR : Row W W.heap.size A (i64s (gCells gs))) (hR' : Row W W.heap.size A' (i64s l)) (hn : l.length ≤ 9223372036854775807) :
    Calls Try.prog 5 #[.slice A gs.length c, .agg (i64s zs).toArray, .slice A' l.length c', .int .i64 a] W fun e w' => e = .returned (.bool true) ∧ Below W.heap.size W w' := by
  have HR := Lib.hid hR
  have HL := Lib.hid hl
  have TG := Lib.hid (fun (w : World) (hb : Below W.heap.size W w) => tameGlyphs_any gs A c w ((hR.below hb).more hb.size))
  have TM := Lib.hid (fun w => tame_any zs hl true w)
  have RU := Lib.hid (fun (w : World) (hb : Below W.heap.size W w) => runs_any l A' c' w ((hR'.below hb).more hb.size) hn)
  have RS := runsL_size l
  have YL := tameM_length zs true hl
  have NG := Lib.hid (tameG_nice gs)
  have N2 := Lib.hid (glyphsL_nice (tameM zs true) (runsL l) (by omega))
  have GL := Lib.hid (fun (A : Option Addr) (c : Nat) (W : World) (hR : Row W W.heap.size A (rCells (runsL l))) => rglyphs_any (tameM zs true) YL (runsL l) A c W hR (by omega) (by omega))
  have M0 := Lib.hid (Whole.mk W 37 (i64s zs).toArray)
  have B0 := Lib.hid ((Below.refl W.heap.size W).alloc (Nat.le_refl _) (.cells (i64s zs).toArray 37))
  have a4 : ∀ x : Int, bits .and .i64 x 4095 = x % 4096 := fun x => and_mask_i64 x 12 (by decide)
  have ht : I64 (a.tmod 1099511627776) := by
    have h1 := Int.tmod_lt_of_pos a (b := 1099511627776) (by decide)
    have h2 := Int.lt_tmod_of_pos a (b := 1099511627776) (by decide)
    unfold I64; omega
  have HT := Lib.hid ht
  unfold GlyphPost at GL
  clear hl hR hR' YL ht ha
  generalize tameG gs = g0 at *
  generalize tameM zs true = ys at *
  generalize runsL l = rs at *
  generalize glyphsL ys rs = g2 at *
  obtain ⟨hlen, hsz⟩ := RS
  have z0 := M0.out.size
  go_enter Try.func5, Try.ntmps5
  go_wp2_with fail
  refine (TG.out _ B0.out).mono ?_
  rintro e w1 ⟨A1, c1, rfl, ho1, hb1⟩
  have M1 := Lib.hid (M0.out.under hb1 z0)
  have B1 := Lib.hid (B0.out.trans (hb1.mono (by omega)))
  have R1 := Lib.hid (row_of_own ho1)
  clear ho1 hb1 M0 B0 z0 TG
  generalize a.tmod 1099511627776 = a1 at *
  obtain ⟨n0, hn0⟩ : ∃ m, m = g0.length := ⟨_, rfl⟩
  have HN0 := Lib.hid hn0
  rw [← hn0]
  clear hn0
  go_wp2
  go_loopw [3, 9, 10] (fun v3 v9 v10 wr => ∃ (a1 : Int) (A1 : Option Addr) (n1 c1 : Nat) (g1 : List Gl) (k : Nat), v3 = .int .i64 a1 ∧ v9 = .slice A1 n1 c1 ∧ v10 = .int .i64 k ∧ k ≤ 2 ∧ Hid (n1 = g1.length) ∧ Hid (NiceG g1) ∧ Hid (I64 a1) ∧ Hid (Row wr wr.heap.size A1 (i64s (gCells g1))) ∧
    Hid (Whole wr W.heap.size 37 (i64s zs)) ∧ Hid (Below W.heap.size W wr)) (fun _ _ v10 _ => 2 - (intOf v10).toNat)
  case atStart => exact ⟨a1, A1, n0, c1, g0, 0, rfl, rfl, rfl, by omega, HN0, NG, HT, R1, M1, B1⟩
  case round =>
    clear R1 M1 B1 NG HT HN0
    obtain ⟨a1, A1, n1, c1, g1, k, rfl, rfl, rfl, hk, HN, NG, HI, R1, M1, B1⟩ := hrel
    by_cases hlt : k < 2
    · have hki : (k : Int) < 2 := by omega
      have LA := Lib.hid (fun (w : World) (hR : Row w w.heap.size A1 (i64s (gCells g1))) => lines_any g1 NG.out.1 A1 c1 a1 HI.out w hR)
      have LB := Lib.hid (fun (w : World) (hR : Row w w.heap.size A1 (i64s (gCells g1))) => rlines_any g1 NG.out.1 A1 c1 a1 w hR)
      have SA := Lib.hid (fun (A B : Option Addr) (c d : Nat) (w : World) => same_any (linesL a1 g1) (by
        have h1 := linesI_length a1 g1 g1.length 0 (by omega)
        rw [linesI_zero] at h1
        have := NG.out.1.1; omega) A B c d w)
      have LL := Lib.hid (fun (w : World) (hR : Row w w.heap.size A1 (i64s (gCells g1))) => least_any g1 NG.out.1 A1 c1 w hR)
      have LR := Lib.hid (fun (w : World) (hR : Row w w.heap.size A1 (i64s (gCells g1))) => rleast_any g1 NG.out.1 A1 c1 w hR)
      have LM := Lib.hid (fun (w : World) (hR : Row w w.heap.size A1 (i64s (gCells g1))) => most_any g1 NG.out.1 A1 c1 w hR)
      have LN := Lib.hid (fun (w : World) (hR : Row w w.heap.size A1 (i64s (gCells g1))) => rmost_any g1 NG.out.1 A1 c1 w hR)
      have e1 := widZ_least g1 NG.out.2
      have e2 := widZ_most g1 NG.out.2
      rw [e1] at LL
      rw [e2] at LM
      clear e1 e2
      unfold LinePost at LA LB
      generalize linesL a1 g1 = L at *
      generalize leastL g1 = lz at *
      generalize mostL g1 = mz at *
      rw [← HN.out] at LA LB LL LR LM LN
      have zM := M1.out.size
      have zB := B1.out.size
      go_wp2_with fail
      refine (LA.out _ R1.out).mono ?_
      rintro o w2 ⟨A2, c2, rfl, ho2, hb2⟩
      have M2 := Lib.hid (M1.out.under hb2 zM)
      have B2 := Lib.hid (B1.out.trans (hb2.mono zB))
      have R2 := Lib.hid ((R1.out.below hb2).more hb2.size)
      have L2 := Lib.hid (row_of_own ho2)
      have zM := M2.out.size
      have zB := B2.out.size
      clear ho2 hb2 R1 M1 B1 LA
      go_wp2_with fail
      refine (LB.out _ R2.out).mono ?_
      rintro o w3 ⟨A3, c3, rfl, ho3, hb3⟩
      have M3 := Lib.hid (M2.out.under hb3 zM)
      have B3 := Lib.hid (B2.out.trans (hb3.mono zB))
      have R3 := Lib.hid ((R2.out.below hb3).more hb3.size)
      have L3 := Lib.hid ((L2.out.below hb3).more hb3.size)
      have K3 := Lib.hid (row_of_own ho3)
      have zM := M3.out.size
      have zB := B3.out.size
      clear ho3 hb3 R2 M2 B2 L2 LB
      go_wp2_with fail
      refine (SA.out A2 A3 c2 c3 _ L3.out K3.out).mono ?_
      rintro o w4 ⟨rfl, hb4⟩
      have M4 := Lib.hid (M3.out.under hb4 zM)
      have B4 := Lib.hid (B3.out.trans (hb4.mono zB))
      have R4 := Lib.hid ((R3.out.below hb4).more hb4.size)
      have zM := M4.out.size
      have zB := B4.out.size
      clear hb4 R3 M3 B3 L3 K3 SA
      go_wp2_with fail
      refine (LL.out _ R4.out).mono ?_
      rintro o w5 ⟨rfl, hb5⟩
      have M5 := Lib.hid (M4.out.under hb5 zM)
      have B5 := Lib.hid (B4.out.trans (hb5.mono zB))
      have R5 := Lib.hid ((R4.out.below hb5).more hb5.size)
      have zM := M5.out.size
      have zB := B5.out.size
      clear hb5 R4 M4 B4 LL
      go_wp2_with fail
      refine (LR.out _ R5.out).mono ?_
      rintro o w6 ⟨rfl, rfl⟩
      clear LR
      go_wp2_with fail
      refine (LM.out _ R5.out).mono ?_
      rintro o w7 ⟨rfl, hb7⟩
      have M7 := Lib.hid (M5.out.under hb7 zM)
      have B7 := Lib.hid (B5.out.trans (hb7.mono zB))
      have R7 := Lib.hid ((R5.out.below hb7).more hb7.size)
      have zM := M7.out.size
      have zB := B7.out.size
      clear hb7 R5 M5 B5 LM
      go_wp2_with fail
      refine (LN.out _ R7.out).mono ?_
      rintro o w8 ⟨rfl, rfl⟩
      clear LN
      go_wp2_with (first | (refine flat_load met_flat (.tmp 5) rfl rfl W.heap.size rfl zs HL.out 37 ?_ ?_; (focus (exact M7.out))))
      refine (TM.out _).mono ?_
      rintro o w9 ⟨rfl, hb9⟩
      have M9 := Lib.hid (M7.out.under hb9 zM)
      have B9 := Lib.hid (B7.out.trans (hb9.mono zB))
      have zM := M9.out.size
      have zB := B9.out.size
      clear hb9 M7 B7 R7
      go_wp2_with fail
      refine (RU.out _ B9.out).mono ?_
      rintro o w10 ⟨A5, c5, rfl, ho10, hb10⟩
      have M10 := Lib.hid (M9.out.under hb10 zM)
      have B10 := Lib.hid (B9.out.trans (hb10.mono zB))
      have Q10 := Lib.hid (row_of_own ho10)
      have zM := M10.out.size
      have zB := B10.out.size
      clear ho10 hb10 M9 B9
      go_wp2_with fail
      refine (GL.out _ _ _ Q10.out).mono ?_
      rintro o w11 ⟨A6, c6, rfl, ho11, hb11⟩
      have M11 := Lib.hid (M10.out.under hb11 zM)
      have B11 := Lib.hid (B10.out.trans (hb11.mono zB))
      have R11 := Lib.hid (row_of_own ho11)
      clear ho11 hb11 M10 B10 Q10 zM zB
      obtain ⟨n2, hn2⟩ : ∃ m, m = g2.length := ⟨_, rfl⟩
      have HN2 := Lib.hid hn2
      rw [← hn2]
      clear hn2
      go_wp2
      go_roundw
      case rel => exact ⟨_, A6, n2, c6, g2, k + 1, rfl, rfl, by go_num, by omega, HN2, N2, Lib.hid (by unfold I64; omega), R11, M11, B11⟩
      case measure => simp [intOf]; omega
    · have hki : ¬ (k : Int) < 2 := by omega
      have zB := B1.out.size
      go_wp2_with fail
      refine (bawake_any _).mono ?_
      rintro o w2 ⟨rfl, hb2⟩
      have B2 := Lib.hid (B1.out.trans (hb2.mono zB))
      clear hb2
      go_wp2
      go_ret
      exact ⟨rfl, B2.out⟩
end Go.Proofs.Ytmlnpphblicghaa
