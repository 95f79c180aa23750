import Derived.Test.YtfmcabgcckllcaaHeirOwn
import Derived.Test.YtfmcabgcckllcaaRefStyle
/- The document's answer: what is handed down. -/
namespace Go.Proofs.Ytfmcabgcckllcaa
open Go Go.RowKit
set_option linter.unusedVariables false
set_option linter.unusedSimpArgs false
set_option maxRecDepth 20000
set_option maxHeartbeats 4000000

theorem rown_any (ps : List Int) (hp : ps.length = 43) (ds : List Dc) (A : Option Addr) (c : Nat) (W : World) (hR : Row W W.heap.size A (i64s (dCells ds))) (hm : ds.length ≤ 4611686018427387904) :
    Calls Try.prog 11 #[.agg (i64s ps).toArray, .slice A ds.length c] W fun e w' => e = .returned (.agg (i64s (ownZ ps ds)).toArray) ∧ Below W.heap.size W w' := by
  have HP := Lib.hid hp
  have HR := Lib.hid hR
  obtain ⟨x, hx⟩ : ∃ x, ps.getD 6 0 = x := ⟨_, rfl⟩
  obtain ⟨y, hy⟩ : ∃ x, ps.getD 7 0 = x := ⟨_, rfl⟩
  obtain ⟨z, hz⟩ : ∃ x, ps.getD 42 0 = x := ⟨_, rfl⟩
  have HX := Lib.hid hx
  have HY := Lib.hid hy
  have HW := Lib.hid hz
  clear hp hx hy hz hR
  have s0 : (W.alloc (.cells (i64s ps).toArray 27)).heap.size = W.heap.size + 1 := by simp
  have P0 : Hid (Whole ((W.alloc (.cells (i64s ps).toArray 27)).alloc (.cells (i64s zeros43).toArray 27)) W.heap.size 27 (i64s ps)) := Lib.hid ((Whole.mk W 27 (i64s ps).toArray).made _)
  have R0 : Hid (Whole ((W.alloc (.cells (i64s ps).toArray 27)).alloc (.cells (i64s zeros43).toArray 27)) (W.heap.size + 1) 27 (i64s zeros43)) := Lib.hid (s0 ▸ Whole.mk (W.alloc (.cells (i64s ps).toArray 27)) 27 (i64s zeros43).toArray)
  go_enter Try.func11, Try.ntmps11
  go_wp2_with fail
  refine (rinit_any _).mono ?_
  rintro e w1 ⟨rfl, b1⟩
  have z2 : W.heap.size + 1 + 1 ≤ w1.heap.size := by have := b1.size; simpa using this
  have P1 := Lib.hid (P0.out.under b1 (by simp; omega))
  have R1 := Lib.hid (R0.out.under b1 (by simp))
  have B1 := Lib.hid ((((Below.refl W.heap.size W).alloc (Nat.le_refl _) _).alloc (by simp) _).trans (b1.mono (by simp; omega)))
  clear b1 P0 R0
  have hne : ¬ W.heap.size = w1.heap.size := by omega
  go_upto_region 2 with (refine style_store (.tmp 5) (.tmp 6) rfl rfl w1.heap.size rfl initZ rfl rfl zeros43 ?_ rfl ?_; (focus (exact Whole.mk w1 27 (i64s zeros43).toArray)); intro w3 h3 o3; have N3 := Lib.hid h3; have O3 := Lib.hid o3; have P3 := Lib.hid (o3.whole (P1.out.made _) (by simp; omega)); have R3 := Lib.hid (o3.whole (R1.out.made _) (by simp; omega)); have B3 := Lib.hid ((B1.out.alloc B1.out.size _).trans (o3.below (by simp; omega) (by simp; omega))); clear h3 o3)
  have zP := P3.out.size
  have zR := R3.out.size
  have zN := N3.out.size
  have hq2 := B3.out.size
  have c6 : w3.cell? ⟨W.heap.size, 6, none⟩ = some (.int .i64 x) := by rw [P3.out.at HP.out 6 (by omega), HX.out]
  have c7 : w3.cell? ⟨W.heap.size, 7, none⟩ = some (.int .i64 y) := by rw [P3.out.at HP.out 7 (by omega), HY.out]
  have c42 : w3.cell? ⟨W.heap.size, 42, none⟩ = some (.int .i64 z) := by rw [P3.out.at HP.out 42 (by omega), HW.out]
  have e6 := N3.out.at rfl 6 (by omega)
  have e7 := N3.out.at rfl 7 (by omega)
  have e42 := N3.out.at rfl 42 (by omega)
  have f6 := N3.out.free 6
  have f7 := N3.out.free 7
  have f42 := N3.out.free 42
  simp only [Act.put]
  go_cut [] (fun wx => Whole wx w1.heap.size 27 (i64s (handZ ps)) ∧ Only [w1.heap.size] w3 wx)
  case first =>
    go_region
    all_goals (go_wp2_with fail; go_meet)
    all_goals exact ⟨hand_done ps N3.out x y z HX.out HY.out HW.out, ((((Only.refl _ _).setCell _ (.inl (by simp)) _).setCell _ (.inl (by simp)) _).setCell _ (.inl (by simp)) _).drawn⟩
  case rest =>
    obtain ⟨h5, o5⟩ := hcut
    have N5 := Lib.hid h5
    have R5 := Lib.hid (o5.whole R3.out (by simp; omega))
    have B5 := Lib.hid (B3.out.trans (o5.below (by simp; omega) (by omega)))
    have zC := B5.out.size
    have HR5 := Lib.hid ((HR.out.below B5.out).more (show W.heap.size ≤ wc.heap.size from zC))
    have zR5 := R5.out.size
    clear h5 o5 c6 c7 c42 e6 e7 e42 f6 f7 f42
    go_wp2_with (refine style_load (.tmp 5) rfl rfl w1.heap.size rfl (handZ ps) (handZ_length ps) ?_ ?_; (focus (exact N5.out)))
    refine (rstyle_any (handZ ps) (handZ_length ps) ds A c wc HR5.out hm).mono ?_
    rintro e w6 ⟨rfl, b6⟩
    have R6 := Lib.hid (R5.out.under b6 zR5)
    have B6 := Lib.hid (B5.out.trans (b6.mono zC))
    have z6 := B6.out.size
    clear b6
    go_wp2_with (refine style_store (.tmp 4) (.tmp 18) rfl rfl (W.heap.size + 1) rfl (styleZ (handZ ps) ds) (ownZ_length ps ds) rfl zeros43 ?_ rfl ?_; (focus (exact R6.out)); intro w7 h7 o7; have H7 := Lib.hid h7; have O7 := Lib.hid o7; clear h7 o7)
    exact style_end rfl (W.heap.size + 1) rfl _ (ownZ_length ps ds) H7.out rfl ⟨rfl, B6.out.trans (O7.out.below (by simp) (by omega))⟩
theorem rroot_any (ds : List Dc) (A : Option Addr) (c : Nat) (W : World) (hR : Row W W.heap.size A (i64s (dCells ds))) (hm : ds.length ≤ 4611686018427387904) :
    Calls Try.prog 12 #[.slice A ds.length c] W fun e w' => e = .returned (.agg (i64s (rootZ ds)).toArray) ∧ Below W.heap.size W w' := by
  have HR := Lib.hid hR
  clear hR
  have HL := Lib.hid (show (styleZ initZ ds).length = 43 from (styleZ_length _ _).trans rfl)
  have HF := Lib.hid (show rootZ ds = fixZ (styleZ initZ ds) from rfl)
  have HS := Lib.hid (styleZ_length ds)
  have R0 : Hid (Whole (W.alloc (.cells (i64s zeros43).toArray 27)) W.heap.size 27 (i64s zeros43)) := Lib.hid (Whole.mk W 27 (i64s zeros43).toArray)
  go_enter Try.func12, Try.ntmps12
  go_wp2_with fail
  refine (rinit_any _).mono ?_
  rintro e w1 ⟨rfl, b1⟩
  have z2 : W.heap.size + 1 ≤ w1.heap.size := by have := b1.size; simpa using this
  have R1 := Lib.hid (R0.out.under b1 (by simp))
  have B1 := Lib.hid (((Below.refl W.heap.size W).alloc (Nat.le_refl _) _).trans (b1.mono (by simp)))
  have HR1 := Lib.hid ((HR.out.below B1.out).more (show W.heap.size ≤ w1.heap.size by omega))
  clear b1 R0
  go_wp2_with fail
  refine (rstyle_any initZ rfl ds A c w1 HR1.out hm).mono ?_
  rintro e w2 ⟨rfl, b2⟩
  have R2 := Lib.hid (R1.out.under b2 (by omega))
  have B2 := Lib.hid (B1.out.trans (b2.mono (by omega)))
  have z3 := B2.out.size
  have z4 := R2.out.size
  clear b2 R1 B1 HR1
  generalize styleZ initZ ds = zs at *
  have hne : ¬ w2.heap.size = W.heap.size := by omega
  obtain ⟨v0, hv0⟩ : ∃ v, zs.getD 0 0 = v := ⟨_, rfl⟩
  have V0 := Lib.hid hv0
  by_cases h1 : v0 = 1
  · subst h1
    have FX := Lib.hid (fix_yes zs (.inl V0.out))
    clear hv0
    go_wp2_with (first
      | (refine style_store (.tmp 3) (.tmp 6) rfl rfl w2.heap.size rfl zs HL.out rfl zeros43 ?_ rfl ?_; (focus (exact Whole.mk w2 27 (i64s zeros43).toArray)); intro w3 h3 o3; have H3 := Lib.hid h3; have O3 := Lib.hid o3; have R3 := Lib.hid (o3.whole (R2.out.made _) (by simp; omega)); have B3 := Lib.hid ((B2.out.alloc B2.out.size _).trans (o3.below (by simp; omega) (by simp; omega))); have c0 := H3.out.at HL.out 0 (by omega); rw [V0.out] at c0; have f0 := H3.out.free 0; clear h3 o3)
      | (refine style_load (.tmp 3) rfl rfl w2.heap.size rfl (zs.set 0 0) (by simp [HL.out]) ?_ ?_; (focus (exact H3.out.puts 0 0)))
      | (refine style_store (.tmp 2) (.tmp 16) rfl rfl W.heap.size rfl (zs.set 0 0) (by simp [HL.out]) rfl zeros43 ?_ rfl ?_; (focus (exact R3.out.other (by simp; omega) _)); intro w4 h4 o4; have H4 := Lib.hid h4; have O4 := Lib.hid o4; clear h4 o4))
    have q2 := B3.out.size
    exact style_end rfl W.heap.size rfl _ (by simp [HL.out]) H4.out rfl ⟨by rw [HF.out, FX.out], (B3.out.setCell (by simp; omega) _).trans (O4.out.below (by simp) (by simp; omega))⟩
  by_cases h2 : v0 = 3
  · subst h2
    have FX := Lib.hid (fix_yes zs (.inr V0.out))
    clear hv0 h1
    go_wp2_with (first
      | (refine style_store (.tmp 3) (.tmp 6) rfl rfl w2.heap.size rfl zs HL.out rfl zeros43 ?_ rfl ?_; (focus (exact Whole.mk w2 27 (i64s zeros43).toArray)); intro w3 h3 o3; have H3 := Lib.hid h3; have O3 := Lib.hid o3; have R3 := Lib.hid (o3.whole (R2.out.made _) (by simp; omega)); have B3 := Lib.hid ((B2.out.alloc B2.out.size _).trans (o3.below (by simp; omega) (by simp; omega))); have c0 := H3.out.at HL.out 0 (by omega); rw [V0.out] at c0; have f0 := H3.out.free 0; clear h3 o3)
      | (refine style_load (.tmp 3) rfl rfl w2.heap.size rfl (zs.set 0 0) (by simp [HL.out]) ?_ ?_; (focus (exact H3.out.puts 0 0)))
      | (refine style_store (.tmp 2) (.tmp 16) rfl rfl W.heap.size rfl (zs.set 0 0) (by simp [HL.out]) rfl zeros43 ?_ rfl ?_; (focus (exact R3.out.other (by simp; omega) _)); intro w4 h4 o4; have H4 := Lib.hid h4; have O4 := Lib.hid o4; clear h4 o4))
    have q2 := B3.out.size
    exact style_end rfl W.heap.size rfl _ (by simp [HL.out]) H4.out rfl ⟨by rw [HF.out, FX.out], (B3.out.setCell (by simp; omega) _).trans (O4.out.below (by simp) (by simp; omega))⟩
  · have FX := Lib.hid (fix_no zs (by rw [V0.out]; exact h1) (by rw [V0.out]; exact h2))
    have e1 : (v0 == 1) = false := by simp [h1]
    have e2 : (v0 == 3) = false := by simp [h2]
    clear hv0
    go_wp2_with (first
      | (refine style_store (.tmp 3) (.tmp 6) rfl rfl w2.heap.size rfl zs HL.out rfl zeros43 ?_ rfl ?_; (focus (exact Whole.mk w2 27 (i64s zeros43).toArray)); intro w3 h3 o3; have H3 := Lib.hid h3; have O3 := Lib.hid o3; have R3 := Lib.hid (o3.whole (R2.out.made _) (by simp; omega)); have B3 := Lib.hid ((B2.out.alloc B2.out.size _).trans (o3.below (by simp; omega) (by simp; omega))); have c0 := H3.out.at HL.out 0 (by omega); rw [V0.out] at c0; have f0 := H3.out.free 0; clear h3 o3)
      | (refine style_load (.tmp 3) rfl rfl w2.heap.size rfl (zs) (by simp [HL.out]) ?_ ?_; (focus (exact H3.out)))
      | (refine style_store (.tmp 2) (.tmp 16) rfl rfl W.heap.size rfl (zs) (by simp [HL.out]) rfl zeros43 ?_ rfl ?_; (focus (exact R3.out)); intro w4 h4 o4; have H4 := Lib.hid h4; have O4 := Lib.hid o4; clear h4 o4))
    have q2 := B3.out.size
    exact style_end rfl W.heap.size rfl _ HL.out H4.out rfl ⟨by rw [HF.out, FX.out], B3.out.trans (O4.out.below (by simp) (by omega))⟩
theorem ranon_any (ps : List Int) (hp : ps.length = 43) (W : World) :
    Calls Try.prog 13 #[.agg (i64s ps).toArray] W fun e w' => e = .returned (.agg (i64s (anonZ ps)).toArray) ∧ Below W.heap.size W w' := by
  have HP := Lib.hid hp
  clear hp
  have s0 : (W.alloc (.cells (i64s ps).toArray 27)).heap.size = W.heap.size + 1 := by simp
  have P0 : Hid (Whole ((W.alloc (.cells (i64s ps).toArray 27)).alloc (.cells (i64s zeros43).toArray 27)) W.heap.size 27 (i64s ps)) := Lib.hid ((Whole.mk W 27 (i64s ps).toArray).made _)
  have R0 : Hid (Whole ((W.alloc (.cells (i64s ps).toArray 27)).alloc (.cells (i64s zeros43).toArray 27)) (W.heap.size + 1) 27 (i64s zeros43)) := Lib.hid (s0 ▸ Whole.mk (W.alloc (.cells (i64s ps).toArray 27)) 27 (i64s zeros43).toArray)
  go_enter Try.func13, Try.ntmps13
  go_wp2_with (refine style_load (.tmp 1) rfl rfl W.heap.size rfl ps HP.out ?_ ?_; (focus (exact P0.out)))
  refine (rown_any ps HP.out [] none 0 _ (Row.nil _ _ _) (by simp)).mono ?_
  rintro e w1 ⟨rfl, b1⟩
  have z2 : W.heap.size + 1 + 1 ≤ w1.heap.size := by have := b1.size; simpa using this
  have R1 := Lib.hid (R0.out.under b1 (by simp))
  have B1 := Lib.hid ((((Below.refl W.heap.size W).alloc (Nat.le_refl _) _).alloc (by simp) _).trans (b1.mono (by simp; omega)))
  clear b1 P0 R0
  have hne : ¬ w1.heap.size = W.heap.size + 1 := by omega
  have HL := Lib.hid (ownZ_length ps [])
  have HA := Lib.hid (show (ownZ ps []).set 0 0 = anonZ ps from rfl)
  generalize ownZ ps [] = zs at *
  go_wp2_with (first
    | (refine style_store (.tmp 3) (.tmp 5) rfl rfl w1.heap.size rfl zs HL.out rfl zeros43 ?_ rfl ?_; (focus (exact Whole.mk w1 27 (i64s zeros43).toArray)); intro w3 h3 o3; have H3 := Lib.hid h3; have O3 := Lib.hid o3; have R3 := Lib.hid (o3.whole (R1.out.made _) (by simp; omega)); have B3 := Lib.hid ((B1.out.alloc B1.out.size _).trans (o3.below (by simp; omega) (by simp; omega))); have c0 := H3.out.at HL.out 0 (by omega); have f0 := H3.out.free 0; clear h3 o3)
    | (refine style_load (.tmp 3) rfl rfl w1.heap.size rfl (zs.set 0 0) (by simp [HL.out]) ?_ ?_; (focus (exact H3.out.puts 0 0)))
    | (refine style_store (.tmp 2) (.tmp 7) rfl rfl (W.heap.size + 1) rfl (zs.set 0 0) (by simp [HL.out]) rfl zeros43 ?_ rfl ?_; (focus (exact R3.out.other (by simp; omega) _)); intro w4 h4 o4; have H4 := Lib.hid h4; have O4 := Lib.hid o4; clear h4 o4))
  have q2 := B3.out.size
  exact style_end rfl (W.heap.size + 1) rfl _ (by simp [HL.out]) H4.out rfl ⟨by rw [HA.out], (B3.out.setCell (by simp; omega) _).trans (O4.out.below (by simp) (by simp; omega))⟩
end Go.Proofs.Ytfmcabgcckllcaa
