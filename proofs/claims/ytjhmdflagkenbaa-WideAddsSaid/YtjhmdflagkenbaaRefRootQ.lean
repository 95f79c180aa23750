import Derived.Test.YtjhmdflagkenbaaZQ
import Derived.Test.YtjhmdflagkenbaaStyleAtQ
import Derived.Test.YtjhmdflagkenbaaRefStyleQ
/- quoinref4.Root. -/
namespace Go.Proofs.Ytjhmdflagkenbaa
open Go Go.RowKit
set_option linter.unusedVariables false
set_option linter.unusedSimpArgs false
set_option maxRecDepth 20000
set_option maxHeartbeats 4000000

theorem rroot_any (ds : List Dc) (A : Option Addr) (c : Nat) (W : World) (hR : Row W W.heap.size A (i64s (dCells ds))) (hm : ds.length ≤ 4611686018427387904) :
    Calls Try.prog 26 #[.slice A ds.length c] W fun e w' => e = .returned (.agg (i64s (rootZ ds)).toArray) ∧ Below W.heap.size W w' := by
  have HR := Lib.hid hR
  clear hR
  have HL := Lib.hid (show (styleZ initZ ds).length = 43 from (styleZ_length _ _).trans rfl)
  have HF := Lib.hid (show rootZ ds = fixZ (styleZ initZ ds) from rfl)
  have HS := Lib.hid (styleZ_length ds)
  have R0 : Hid (Whole (W.alloc (.cells (i64s zeros43).toArray 27)) W.heap.size 27 (i64s zeros43)) := Lib.hid (Whole.mk W 27 (i64s zeros43).toArray)
  go_enter Try.func26, Try.ntmps26
  go_wp2_with fail
  refine (rinit_any _).mono ?_
  rintro e w1 ⟨rfl, b1⟩
  have z2 : W.heap.size + 1 ≤ w1.heap.size := by have := b1.size; simpa using this
  have R1 := Lib.hid (R0.out.under b1 (by simp))
  have B1 := Lib.hid (((Below.refl W.heap.size W).alloc (Nat.le_refl _) _).trans (b1.mono (by simp)))
  have HR1 := Lib.hid ((HR.out.below B1.out).more (show W.heap.size ≤ w1.heap.size by omega))
  clear b1 R0
  go_wp2_with fail
  refine (rstyle_any initZ rfl ds A c w1 HR1.out hm).mono ?_
  rintro e w2 ⟨rfl, b2⟩
  have R2 := Lib.hid (R1.out.under b2 (by omega))
  have B2 := Lib.hid (B1.out.trans (b2.mono (by omega)))
  have z3 := B2.out.size
  have z4 := R2.out.size
  clear b2 R1 B1 HR1
  generalize styleZ initZ ds = zs at *
  have hne : ¬ w2.heap.size = W.heap.size := by omega
  obtain ⟨v0, hv0⟩ : ∃ v, zs.getD 0 0 = v := ⟨_, rfl⟩
  have V0 := Lib.hid hv0
  by_cases h1 : v0 = 1
  · subst h1
    have FX := Lib.hid (fix_yes zs (.inl V0.out))
    clear hv0
    go_wp2_with (first
      | (refine style_store (.tmp 3) (.tmp 6) rfl rfl w2.heap.size rfl zs HL.out rfl zeros43 ?_ rfl ?_; (focus (exact Whole.mk w2 27 (i64s zeros43).toArray)); intro w3 h3 o3; have H3 := Lib.hid h3; have O3 := Lib.hid o3; have R3 := Lib.hid (o3.whole (R2.out.made _) (by simp; omega)); have B3 := Lib.hid ((B2.out.alloc B2.out.size _).trans (o3.below (by simp; omega) (by simp; omega))); have c0 := H3.out.at HL.out 0 (by omega); rw [V0.out] at c0; have f0 := H3.out.free 0; clear h3 o3)
      | (refine style_load (.tmp 3) rfl rfl w2.heap.size rfl (zs.set 0 0) (by simp [HL.out]) ?_ ?_; (focus (exact H3.out.puts 0 0)))
      | (refine style_store (.tmp 2) (.tmp 16) rfl rfl W.heap.size rfl (zs.set 0 0) (by simp [HL.out]) rfl zeros43 ?_ rfl ?_; (focus (exact R3.out.other (by simp; omega) _)); intro w4 h4 o4; have H4 := Lib.hid h4; have O4 := Lib.hid o4; clear h4 o4))
    have q2 := B3.out.size
    exact style_end rfl W.heap.size rfl _ (by simp [HL.out]) H4.out rfl ⟨by rw [HF.out, FX.out], (B3.out.setCell (by simp; omega) _).trans (O4.out.below (by simp) (by simp; omega))⟩
  by_cases h2 : v0 = 3
  · subst h2
    have FX := Lib.hid (fix_yes zs (.inr V0.out))
    clear hv0 h1
    go_wp2_with (first
      | (refine style_store (.tmp 3) (.tmp 6) rfl rfl w2.heap.size rfl zs HL.out rfl zeros43 ?_ rfl ?_; (focus (exact Whole.mk w2 27 (i64s zeros43).toArray)); intro w3 h3 o3; have H3 := Lib.hid h3; have O3 := Lib.hid o3; have R3 := Lib.hid (o3.whole (R2.out.made _) (by simp; omega)); have B3 := Lib.hid ((B2.out.alloc B2.out.size _).trans (o3.below (by simp; omega) (by simp; omega))); have c0 := H3.out.at HL.out 0 (by omega); rw [V0.out] at c0; have f0 := H3.out.free 0; clear h3 o3)
      | (refine style_load (.tmp 3) rfl rfl w2.heap.size rfl (zs.set 0 0) (by simp [HL.out]) ?_ ?_; (focus (exact H3.out.puts 0 0)))
      | (refine style_store (.tmp 2) (.tmp 16) rfl rfl W.heap.size rfl (zs.set 0 0) (by simp [HL.out]) rfl zeros43 ?_ rfl ?_; (focus (exact R3.out.other (by simp; omega) _)); intro w4 h4 o4; have H4 := Lib.hid h4; have O4 := Lib.hid o4; clear h4 o4))
    have q2 := B3.out.size
    exact style_end rfl W.heap.size rfl _ (by simp [HL.out]) H4.out rfl ⟨by rw [HF.out, FX.out], (B3.out.setCell (by simp; omega) _).trans (O4.out.below (by simp) (by simp; omega))⟩
  · have FX := Lib.hid (fix_no zs (by rw [V0.out]; exact h1) (by rw [V0.out]; exact h2))
    have e1 : (v0 == 1) = false := by simp [h1]
    have e2 : (v0 == 3) = false := by simp [h2]
    clear hv0
    go_wp2_with (first
      | (refine style_store (.tmp 3) (.tmp 6) rfl rfl w2.heap.size rfl zs HL.out rfl zeros43 ?_ rfl ?_; (focus (exact Whole.mk w2 27 (i64s zeros43).toArray)); intro w3 h3 o3; have H3 := Lib.hid h3; have O3 := Lib.hid o3; have R3 := Lib.hid (o3.whole (R2.out.made _) (by simp; omega)); have B3 := Lib.hid ((B2.out.alloc B2.out.size _).trans (o3.below (by simp; omega) (by simp; omega))); have c0 := H3.out.at HL.out 0 (by omega); rw [V0.out] at c0; have f0 := H3.out.free 0; clear h3 o3)
      | (refine style_load (.tmp 3) rfl rfl w2.heap.size rfl (zs) (by simp [HL.out]) ?_ ?_; (focus (exact H3.out)))
      | (refine style_store (.tmp 2) (.tmp 16) rfl rfl W.heap.size rfl (zs) (by simp [HL.out]) rfl zeros43 ?_ rfl ?_; (focus (exact R3.out)); intro w4 h4 o4; have H4 := Lib.hid h4; have O4 := Lib.hid o4; clear h4 o4))
    have q2 := B3.out.size
    exact style_end rfl W.heap.size rfl _ HL.out H4.out rfl ⟨by rw [HF.out, FX.out], B3.out.trans (O4.out.below (by simp) (by omega))⟩
end Go.Proofs.Ytjhmdflagkenbaa
