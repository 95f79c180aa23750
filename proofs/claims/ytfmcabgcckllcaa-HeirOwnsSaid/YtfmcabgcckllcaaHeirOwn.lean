import Derived.Test.YtfmcabgcckllcaaHeirNum
import Derived.Test.YtfmcabgcckllcaaStyleEq
import Derived.Test.YtfmcabgcckllcaaStyleInit
import Derived.Test.YtfmcabgcckllcaaDeclStyle
/- heir: what is handed down, an element's own style, a root's, nobody's. -/
namespace Go.Proofs.Ytfmcabgcckllcaa
open Go Go.RowKit
set_option linter.unusedVariables false
set_option linter.unusedSimpArgs false
set_option maxRecDepth 20000
set_option maxHeartbeats 4000000

theorem Whole.at {w : World} {g : Nat} {zs : List Int} (h : Whole w g 27 (i64s zs)) (hz : zs.length = 43) (i : Nat) (hi : i < 43) : w.cell? ⟨g, i, none⟩ = some (.int .i64 (zs.getD i 0)) := by
  rw [h.cell i]
  simp [i64s, List.getD, List.getElem?_eq_getElem (show i < zs.length by omega)]
theorem Whole.puts {w : World} {g : Nat} {zs : List Int} (h : Whole w g 27 (i64s zs)) (i : Nat) (n : Int) : Whole (w.setCell ⟨g, i, none⟩ (.int .i64 n)) g 27 (i64s (zs.set i n)) := by
  rw [i64s_set]; exact h.put i _
theorem hand_done {w : World} {g : Nat} (ps : List Int) (h : Whole w g 27 (i64s initZ)) (x y z : Int) (hx : ps.getD 6 0 = x) (hy : ps.getD 7 0 = y) (hz : ps.getD 42 0 = z) :
    Whole (((w.setCell ⟨g, 6, none⟩ (.int .i64 x)).setCell ⟨g, 7, none⟩ (.int .i64 y)).setCell ⟨g, 42, none⟩ (.int .i64 z)) g 27 (i64s (handZ ps)) := by
  subst hx hy hz
  exact ((h.puts 6 _).puts 7 _).puts 42 _
theorem handed_any (ps : List Int) (hp : ps.length = 43) (W : World) :
    Calls Try.prog 18 #[.agg (i64s ps).toArray] W fun e w' => e = .returned (.agg (i64s (handZ ps)).toArray) ∧ Below W.heap.size W w' := by
  have HP := Lib.hid hp
  obtain ⟨x, hx⟩ : ∃ x, ps.getD 6 0 = x := ⟨_, rfl⟩
  obtain ⟨y, hy⟩ : ∃ x, ps.getD 7 0 = x := ⟨_, rfl⟩
  obtain ⟨z, hz⟩ : ∃ x, ps.getD 42 0 = x := ⟨_, rfl⟩
  have HX := Lib.hid hx
  have HY := Lib.hid hy
  have HW := Lib.hid hz
  clear hp hx hy hz
  go_enter Try.func18, Try.ntmps18
  go_wp2_with fail
  refine (init_any _).mono ?_
  rintro e w1 ⟨rfl, b1⟩
  have s0 : (W.alloc (.cells (i64s ps).toArray 27)).heap.size = W.heap.size + 1 := by simp
  have P0 := Lib.hid (((Whole.mk W 27 (i64s ps).toArray).made (.cells (i64s zeros43).toArray 27)).under b1 (by simp; omega))
  have R0 : Hid (Whole w1 (W.heap.size + 1) 27 (i64s zeros43)) := Lib.hid (s0 ▸ (Whole.mk (W.alloc (.cells (i64s ps).toArray 27)) 27 (i64s zeros43).toArray).under b1 (by simp))
  have B0 := Lib.hid ((((Below.refl W.heap.size W).alloc (Nat.le_refl _) _).alloc (by simp) _).trans (b1.mono (by simp; omega)))
  clear b1
  have z0 := P0.out.size
  have z1 := R0.out.size
  have hne : ¬ W.heap.size = w1.heap.size := by omega
  have HNE := Lib.hid hne
  go_wp2_with (first
    | (refine style_store (.tmp 3) (.tmp 4) rfl rfl w1.heap.size rfl initZ rfl rfl zeros43 ?_ rfl ?_; (focus (exact Whole.mk w1 27 (i64s zeros43).toArray)); intro w2 h2 o2; have P1 := Lib.hid (o2.whole (P0.out.made _) (by simp; omega)); have R1 := Lib.hid (o2.whole (R0.out.made _) (by simp; omega)); have N1 := Lib.hid h2; have B1 := Lib.hid (((B0.out.alloc B0.out.size _)).trans (o2.below (by simp; omega) (by simp; omega))); have c6 := P1.out.at HP.out 6 (by omega); rw [HX.out] at c6; have c7 := P1.out.at HP.out 7 (by omega); rw [HY.out] at c7; have c42 := P1.out.at HP.out 42 (by omega); rw [HW.out] at c42; have e6 := N1.out.at rfl 6 (by omega); have e7 := N1.out.at rfl 7 (by omega); have e42 := N1.out.at rfl 42 (by omega); have f6 := N1.out.free 6; have f7 := N1.out.free 7; have f42 := N1.out.free 42; clear o2 h2)
    | (refine style_load (.tmp 3) rfl rfl w1.heap.size rfl (handZ ps) (handZ_length ps) ?_ ?_; focus (exact hand_done ps N1.out x y z HX.out HY.out HW.out))
    | (refine style_store (.tmp 2) (.tmp 14) rfl rfl (W.heap.size + 1) rfl (handZ ps) (handZ_length ps) rfl zeros43 ?_ rfl ?_; (focus (exact ((R1.out.other (by simp; omega) _).other (by simp; omega) _).other (by simp; omega) _)); intro w3 h3 o3; have H3 := Lib.hid h3; have O3 := Lib.hid o3; clear h3 o3))
  have q2 := B1.out.size
  exact style_end rfl (W.heap.size + 1) rfl _ (handZ_length ps) H3.out rfl ⟨rfl, (((B1.out.setCell (by simp; omega) _).setCell (by simp; omega) _).setCell (by simp; omega) _).trans (O3.out.below (by simp) (by simp; omega))⟩
theorem own_any (ps : List Int) (hp : ps.length = 43) (ds : List Dc) (A : Option Addr) (c : Nat) (W : World) (hR : Row W W.heap.size A (i64s (dCells ds))) (hm : ds.length ≤ 4611686018427387904) :
    Calls Try.prog 7 #[.agg (i64s ps).toArray, .slice A ds.length c] W fun e w' => e = .returned (.agg (i64s (ownZ ps ds)).toArray) ∧ Below W.heap.size W w' := by
  have HP := Lib.hid hp
  have HR := Lib.hid hR
  clear hp hR
  have s0 : (W.alloc (.cells (i64s ps).toArray 27)).heap.size = W.heap.size + 1 := by simp
  have P0 : Hid (Whole ((W.alloc (.cells (i64s ps).toArray 27)).alloc (.cells (i64s zeros43).toArray 27)) W.heap.size 27 (i64s ps)) := Lib.hid ((Whole.mk W 27 (i64s ps).toArray).made _)
  have R0 : Hid (Whole ((W.alloc (.cells (i64s ps).toArray 27)).alloc (.cells (i64s zeros43).toArray 27)) (W.heap.size + 1) 27 (i64s zeros43)) := Lib.hid (s0 ▸ Whole.mk (W.alloc (.cells (i64s ps).toArray 27)) 27 (i64s zeros43).toArray)
  go_enter Try.func7, Try.ntmps7
  go_wp2_with (refine style_load (.tmp 2) rfl rfl W.heap.size rfl ps HP.out ?_ ?_; (focus (exact P0.out)))
  refine (handed_any ps HP.out _).mono ?_
  rintro e w1 ⟨rfl, b1⟩
  have z2 : W.heap.size + 1 + 1 ≤ w1.heap.size := by have := b1.size; simpa using this
  have R1 := Lib.hid (R0.out.under b1 (by simp))
  have B1 := Lib.hid ((((Below.refl W.heap.size W).alloc (Nat.le_refl _) _).alloc (by simp) _).trans (b1.mono (by simp; omega)))
  have HR1 := Lib.hid ((HR.out.below B1.out).more (show W.heap.size ≤ w1.heap.size by omega))
  clear b1 P0 R0
  go_wp2_with fail
  refine (style_any (handZ ps) (handZ_length ps) ds A c w1 HR1.out hm).mono ?_
  rintro e w2 ⟨rfl, b2⟩
  have R2 := Lib.hid (R1.out.under b2 (by omega))
  have B2 := Lib.hid (B1.out.trans (b2.mono (by omega)))
  have z3 := B2.out.size
  clear b2 R1 B1 HR1
  go_wp2_with (refine style_store (.tmp 4) (.tmp 8) rfl rfl (W.heap.size + 1) rfl (styleZ (handZ ps) ds) (ownZ_length ps ds) rfl zeros43 ?_ rfl ?_; (focus (exact R2.out)); intro w3 h3 o3; have H3 := Lib.hid h3; have O3 := Lib.hid o3; clear h3 o3)
  exact style_end rfl (W.heap.size + 1) rfl _ (ownZ_length ps ds) H3.out rfl ⟨rfl, B2.out.trans (O3.out.below (by simp) (by omega))⟩
theorem root_any (ds : List Dc) (A : Option Addr) (c : Nat) (W : World) (hR : Row W W.heap.size A (i64s (dCells ds))) (hm : ds.length ≤ 4611686018427387904) :
    Calls Try.prog 9 #[.slice A ds.length c] W fun e w' => e = .returned (.agg (i64s (rootZ ds)).toArray) ∧ Below W.heap.size W w' := by
  have HR := Lib.hid hR
  clear hR
  have HL := Lib.hid (show (styleZ initZ ds).length = 43 from (styleZ_length _ _).trans rfl)
  have HF := Lib.hid (show rootZ ds = fixZ (styleZ initZ ds) from rfl)
  have HS := Lib.hid (styleZ_length ds)
  have R0 : Hid (Whole (W.alloc (.cells (i64s zeros43).toArray 27)) W.heap.size 27 (i64s zeros43)) := Lib.hid (Whole.mk W 27 (i64s zeros43).toArray)
  go_enter Try.func9, Try.ntmps9
  go_wp2_with fail
  refine (init_any _).mono ?_
  rintro e w1 ⟨rfl, b1⟩
  have z2 : W.heap.size + 1 ≤ w1.heap.size := by have := b1.size; simpa using this
  have R1 := Lib.hid (R0.out.under b1 (by simp))
  have B1 := Lib.hid (((Below.refl W.heap.size W).alloc (Nat.le_refl _) _).trans (b1.mono (by simp)))
  have HR1 := Lib.hid ((HR.out.below B1.out).more (show W.heap.size ≤ w1.heap.size by omega))
  clear b1 R0
  go_wp2_with fail
  refine (style_any initZ rfl ds A c w1 HR1.out hm).mono ?_
  rintro e w2 ⟨rfl, b2⟩
  have R2 := Lib.hid (R1.out.under b2 (by omega))
  have B2 := Lib.hid (B1.out.trans (b2.mono (by omega)))
  have z3 := B2.out.size
  have z4 := R2.out.size
  clear b2 R1 B1 HR1
  generalize styleZ initZ ds = zs at *
  have hne : ¬ w2.heap.size = W.heap.size := by omega
  obtain ⟨v0, hv0⟩ : ∃ v, zs.getD 0 0 = v := ⟨_, rfl⟩
  have V0 := Lib.hid hv0
  by_cases h1 : v0 = 1
  · subst h1
    have FX := Lib.hid (fix_yes zs (.inl V0.out))
    clear hv0
    go_wp2_with (first
      | (refine style_store (.tmp 3) (.tmp 6) rfl rfl w2.heap.size rfl zs HL.out rfl zeros43 ?_ rfl ?_; (focus (exact Whole.mk w2 27 (i64s zeros43).toArray)); intro w3 h3 o3; have H3 := Lib.hid h3; have O3 := Lib.hid o3; have R3 := Lib.hid (o3.whole (R2.out.made _) (by simp; omega)); have B3 := Lib.hid ((B2.out.alloc B2.out.size _).trans (o3.below (by simp; omega) (by simp; omega))); have c0 := H3.out.at HL.out 0 (by omega); rw [V0.out] at c0; have f0 := H3.out.free 0; clear h3 o3)
      | (refine style_load (.tmp 3) rfl rfl w2.heap.size rfl (zs.set 0 0) (by simp [HL.out]) ?_ ?_; (focus (exact H3.out.puts 0 0)))
      | (refine style_store (.tmp 2) (.tmp 16) rfl rfl W.heap.size rfl (zs.set 0 0) (by simp [HL.out]) rfl zeros43 ?_ rfl ?_; (focus (exact R3.out.other (by simp; omega) _)); intro w4 h4 o4; have H4 := Lib.hid h4; have O4 := Lib.hid o4; clear h4 o4))
    have q2 := B3.out.size
    exact style_end rfl W.heap.size rfl _ (by simp [HL.out]) H4.out rfl ⟨by rw [HF.out, FX.out], (B3.out.setCell (by simp; omega) _).trans (O4.out.below (by simp) (by simp; omega))⟩
  by_cases h2 : v0 = 3
  · subst h2
    have FX := Lib.hid (fix_yes zs (.inr V0.out))
    clear hv0 h1
    go_wp2_with (first
      | (refine style_store (.tmp 3) (.tmp 6) rfl rfl w2.heap.size rfl zs HL.out rfl zeros43 ?_ rfl ?_; (focus (exact Whole.mk w2 27 (i64s zeros43).toArray)); intro w3 h3 o3; have H3 := Lib.hid h3; have O3 := Lib.hid o3; have R3 := Lib.hid (o3.whole (R2.out.made _) (by simp; omega)); have B3 := Lib.hid ((B2.out.alloc B2.out.size _).trans (o3.below (by simp; omega) (by simp; omega))); have c0 := H3.out.at HL.out 0 (by omega); rw [V0.out] at c0; have f0 := H3.out.free 0; clear h3 o3)
      | (refine style_load (.tmp 3) rfl rfl w2.heap.size rfl (zs.set 0 0) (by simp [HL.out]) ?_ ?_; (focus (exact H3.out.puts 0 0)))
      | (refine style_store (.tmp 2) (.tmp 16) rfl rfl W.heap.size rfl (zs.set 0 0) (by simp [HL.out]) rfl zeros43 ?_ rfl ?_; (focus (exact R3.out.other (by simp; omega) _)); intro w4 h4 o4; have H4 := Lib.hid h4; have O4 := Lib.hid o4; clear h4 o4))
    have q2 := B3.out.size
    exact style_end rfl W.heap.size rfl _ (by simp [HL.out]) H4.out rfl ⟨by rw [HF.out, FX.out], (B3.out.setCell (by simp; omega) _).trans (O4.out.below (by simp) (by simp; omega))⟩
  · have FX := Lib.hid (fix_no zs (by rw [V0.out]; exact h1) (by rw [V0.out]; exact h2))
    have e1 : (v0 == 1) = false := by simp [h1]
    have e2 : (v0 == 3) = false := by simp [h2]
    clear hv0
    go_wp2_with (first
      | (refine style_store (.tmp 3) (.tmp 6) rfl rfl w2.heap.size rfl zs HL.out rfl zeros43 ?_ rfl ?_; (focus (exact Whole.mk w2 27 (i64s zeros43).toArray)); intro w3 h3 o3; have H3 := Lib.hid h3; have O3 := Lib.hid o3; have R3 := Lib.hid (o3.whole (R2.out.made _) (by simp; omega)); have B3 := Lib.hid ((B2.out.alloc B2.out.size _).trans (o3.below (by simp; omega) (by simp; omega))); have c0 := H3.out.at HL.out 0 (by omega); rw [V0.out] at c0; have f0 := H3.out.free 0; clear h3 o3)
      | (refine style_load (.tmp 3) rfl rfl w2.heap.size rfl (zs) (by simp [HL.out]) ?_ ?_; (focus (exact H3.out)))
      | (refine style_store (.tmp 2) (.tmp 16) rfl rfl W.heap.size rfl (zs) (by simp [HL.out]) rfl zeros43 ?_ rfl ?_; (focus (exact R3.out)); intro w4 h4 o4; have H4 := Lib.hid h4; have O4 := Lib.hid o4; clear h4 o4))
    have q2 := B3.out.size
    exact style_end rfl W.heap.size rfl _ HL.out H4.out rfl ⟨by rw [HF.out, FX.out], B3.out.trans (O4.out.below (by simp) (by omega))⟩
theorem anon_any (ps : List Int) (hp : ps.length = 43) (W : World) :
    Calls Try.prog 10 #[.agg (i64s ps).toArray] W fun e w' => e = .returned (.agg (i64s (anonZ ps)).toArray) ∧ Below W.heap.size W w' := by
  have HP := Lib.hid hp
  clear hp
  have s0 : (W.alloc (.cells (i64s ps).toArray 27)).heap.size = W.heap.size + 1 := by simp
  have P0 : Hid (Whole ((W.alloc (.cells (i64s ps).toArray 27)).alloc (.cells (i64s zeros43).toArray 27)) W.heap.size 27 (i64s ps)) := Lib.hid ((Whole.mk W 27 (i64s ps).toArray).made _)
  have R0 : Hid (Whole ((W.alloc (.cells (i64s ps).toArray 27)).alloc (.cells (i64s zeros43).toArray 27)) (W.heap.size + 1) 27 (i64s zeros43)) := Lib.hid (s0 ▸ Whole.mk (W.alloc (.cells (i64s ps).toArray 27)) 27 (i64s zeros43).toArray)
  go_enter Try.func10, Try.ntmps10
  go_wp2_with (refine style_load (.tmp 1) rfl rfl W.heap.size rfl ps HP.out ?_ ?_; (focus (exact P0.out)))
  refine (own_any ps HP.out [] none 0 _ (Row.nil _ _ _) (by simp)).mono ?_
  rintro e w1 ⟨rfl, b1⟩
  have z2 : W.heap.size + 1 + 1 ≤ w1.heap.size := by have := b1.size; simpa using this
  have R1 := Lib.hid (R0.out.under b1 (by simp))
  have B1 := Lib.hid ((((Below.refl W.heap.size W).alloc (Nat.le_refl _) _).alloc (by simp) _).trans (b1.mono (by simp; omega)))
  clear b1 P0 R0
  have hne : ¬ w1.heap.size = W.heap.size + 1 := by omega
  have HL := Lib.hid (ownZ_length ps [])
  have HA := Lib.hid (show (ownZ ps []).set 0 0 = anonZ ps from rfl)
  generalize ownZ ps [] = zs at *
  go_wp2_with (first
    | (refine style_store (.tmp 3) (.tmp 5) rfl rfl w1.heap.size rfl zs HL.out rfl zeros43 ?_ rfl ?_; (focus (exact Whole.mk w1 27 (i64s zeros43).toArray)); intro w3 h3 o3; have H3 := Lib.hid h3; have O3 := Lib.hid o3; have R3 := Lib.hid (o3.whole (R1.out.made _) (by simp; omega)); have B3 := Lib.hid ((B1.out.alloc B1.out.size _).trans (o3.below (by simp; omega) (by simp; omega))); have c0 := H3.out.at HL.out 0 (by omega); have f0 := H3.out.free 0; clear h3 o3)
    | (refine style_load (.tmp 3) rfl rfl w1.heap.size rfl (zs.set 0 0) (by simp [HL.out]) ?_ ?_; (focus (exact H3.out.puts 0 0)))
    | (refine style_store (.tmp 2) (.tmp 7) rfl rfl (W.heap.size + 1) rfl (zs.set 0 0) (by simp [HL.out]) rfl zeros43 ?_ rfl ?_; (focus (exact R3.out.other (by simp; omega) _)); intro w4 h4 o4; have H4 := Lib.hid h4; have O4 := Lib.hid o4; clear h4 o4))
  have q2 := B3.out.size
  exact style_end rfl (W.heap.size + 1) rfl _ (by simp [HL.out]) H4.out rfl ⟨by rw [HA.out], (B3.out.setCell (by simp; omega) _).trans (O4.out.below (by simp) (by simp; omega))⟩
end Go.Proofs.Ytfmcabgcckllcaa
