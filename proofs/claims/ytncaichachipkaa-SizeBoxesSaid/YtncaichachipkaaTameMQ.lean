import Derived.Test.YtncaichachipkaaZQ
/- quoinlaw9.Tame. -/
namespace Go.Proofs.Ytncaichachipkaa
open Go Go.RowKit
set_option linter.unusedVariables false
set_option linter.unusedSimpArgs false
set_option maxRecDepth 20000
set_option maxHeartbeats 4000000

theorem tame_any (zs : List Int) (hl : zs.length = 256) (small : Bool) (W : World) :
    Calls Try.prog 5 #[.agg (i64s zs).toArray, .bool small] W fun e w' => e = .returned (.agg (i64s (tameM zs small)).toArray) ∧ Below W.heap.size W w' := by
  have hz := noMet_zero
  have NL := Lib.hid noMet_length
  have HL := Lib.hid hl
  have ML := Lib.hid (tameM_length zs small hl)
  have a1 : ∀ n : Int, bits .and .i64 n 15 = n % 16 := fun n => and_mask_i64 n 4 (by decide)
  clear hl
  generalize noMet = z0 at *
  have s0 : (W.alloc (.cells (i64s zs).toArray 25)).heap.size = W.heap.size + 1 := by simp
  have P0 : Hid (Whole ((W.alloc (.cells (i64s zs).toArray 25)).alloc (.cells (i64s z0).toArray 25)) W.heap.size 25 (i64s zs)) := Lib.hid ((Whole.mk W 25 (i64s zs).toArray).made _)
  have R0 : Hid (Whole ((W.alloc (.cells (i64s zs).toArray 25)).alloc (.cells (i64s z0).toArray 25)) (W.heap.size + 1) 25 (i64s z0)) := Lib.hid (s0 ▸ Whole.mk (W.alloc (.cells (i64s zs).toArray 25)) 25 (i64s z0).toArray)
  have B0 := Lib.hid (((Below.refl W.heap.size W).alloc (Nat.le_refl _) (.cells (i64s zs).toArray 25)).alloc (by simp) (.cells (i64s z0).toArray 25))
  go_enter Try.func5, Try.ntmps5
  go_wp2
  generalize (W.alloc (.cells (i64s zs).toArray 25)).alloc (.cells (i64s z0).toArray 25) = W1 at *
  clear s0
  go_loopw [5] (fun i wr => ∃ k : Nat, k ≤ 256 ∧ i = .int .i64 k ∧ Whole wr W.heap.size 25 (i64s (midL zs small k)) ∧ Whole wr (W.heap.size + 1) 25 (i64s z0) ∧ Below W.heap.size W wr) (fun i _ => 256 - (intOf i).toNat)
  case atStart => exact ⟨0, Nat.zero_le _, rfl, (midL_zero zs small).symm ▸ P0.out, R0.out, B0.out⟩
  case round =>
    obtain ⟨k, hk, rfl, hP, hR, hB⟩ := hrel
    have zP := hP.size
    have zR := hR.size
    by_cases hlt : k < 256
    · have hkl : k < zs.length := by rw [HL.out]; exact hlt
      have hc := hP.num k (by rw [midL_length]; exact hkl)
      rw [midL_get zs small k hkl] at hc
      have hf := hP.free k
      have hg : ∀ n, n = tmF small (zs.getD k 0) → Whole (wr.setCell ⟨W.heap.size, k, none⟩ (.int .i64 n)) W.heap.size 25 (i64s (midL zs small (k + 1))) := fun n hn => by
        have := hP.putNum k n
        rw [hn, midL_step zs small k hkl] at this
        rw [hn]
        exact this
      have HG := Lib.hid hg
      have hg2 : ∀ a n, n = tmF small (zs.getD k 0) → Whole ((wr.setCell ⟨W.heap.size, k, none⟩ (.int .i64 a)).setCell ⟨W.heap.size, k, none⟩ (.int .i64 n)) W.heap.size 25 (i64s (midL zs small (k + 1))) := fun a n hn => by
        have := (hP.putNum k a).putNum k n
        rw [List.set_set, hn, midL_step zs small k hkl] at this
        rw [hn]
        exact this
      have HG2 := Lib.hid hg2
      have hu : tm1 (zs.getD k 0) = zs.getD k 0 % 18446744073709551616 % 65537 := rfl
      have hF : tmF small (zs.getD k 0) = if small then tm1 (zs.getD k 0) % 16 else tm1 (zs.getD k 0) := rfl
      have HR := Lib.hid (fun u => hR.other (p := ⟨W.heap.size, k, none⟩) (by simp) u)
      have HB := Lib.hid (fun u => hB.setCell (p := ⟨W.heap.size, k, none⟩) (by simp) u)
      clear hg hg2 hP hR hB
      generalize zs.getD k 0 = z at *
      have HF := Lib.hid hF
      have TC := Lib.hid (tm1_code z)
      clear hF hu
      cases small
      · go_wp2
        rw [TC.out]
        go_roundw
        case rel => exact ⟨k + 1, by omega, by go_num, HG.out _ HF.out.symm, HR.out _, HB.out _⟩
        case measure => simp [intOf]; omega
      · go_wp2
        rw [TC.out]
        go_roundw
        case rel => exact ⟨k + 1, by omega, by go_num, HG2.out _ _ HF.out.symm, (HR.out _).other (p := ⟨W.heap.size, k, none⟩) (by simp) _, (HB.out _).setCell (p := ⟨W.heap.size, k, none⟩) (by simp) _⟩
        case measure => simp [intOf]; omega
    · obtain rfl : k = 256 := by omega
      rw [midL_all zs small 256 HL.out] at hP
      have HR := Lib.hid hR
      have HB := Lib.hid hB
      clear hR hB
      cases small
      · have HP := Lib.hid hP
        clear hP
        go_wp2_with (first
          | (refine flat_load met_flat (.tmp 2) rfl rfl W.heap.size rfl (zs.map (tmF false)) ML.out 25 ?_ ?_; (focus (exact HP.out)))
          | (refine flat_store met_flat (.tmp 4) (.tmp 54) rfl rfl (W.heap.size + 1) rfl (zs.map (tmF false)) ML.out rfl 25 z0 ?_ NL.out ?_; (focus (exact HR.out)); intro w3 h3 o3; have H3 := Lib.hid h3; have O3 := Lib.hid o3; clear h3 o3))
        exact flat_end met_flat rfl (W.heap.size + 1) rfl _ ML.out 25 H3.out rfl ⟨rfl, HB.out.trans (O3.out.below (by simp) (by omega))⟩
      · have TL := Lib.hid (show (zs.map (tmF true)).length = 256 by rw [List.length_map, HL.out])
        have c97 := hP.num 97 (by rw [TL.out]; decide)
        have c98 := hP.num 98 (by rw [TL.out]; decide)
        have c99 := hP.num 99 (by rw [TL.out]; decide)
        have c32 := hP.num 32 (by rw [TL.out]; decide)
        have f97 := hP.free 97
        have f98 := hP.free 98
        have f99 := hP.free 99
        have f32 := hP.free 32
        have b97 := tmF_bd true (zs.getD 97 0)
        have b98 := tmF_bd true (zs.getD 98 0)
        have b99 := tmF_bd true (zs.getD 99 0)
        have b32 := tmF_bd true (zs.getD 32 0)
        rw [← map_getD (tmF true) zs 97 (by rw [HL.out]; decide)] at b97
        rw [← map_getD (tmF true) zs 98 (by rw [HL.out]; decide)] at b98
        rw [← map_getD (tmF true) zs 99 (by rw [HL.out]; decide)] at b99
        rw [← map_getD (tmF true) zs 32 (by rw [HL.out]; decide)] at b32
        have hG : ∀ a b c d, a = (zs.map (tmF true)).getD 97 0 + 64 → b = (zs.map (tmF true)).getD 98 0 + 100 → c = (zs.map (tmF true)).getD 99 0 + 640 → d = (zs.map (tmF true)).getD 32 0 + 32 →
            Whole ((((wr.setCell ⟨W.heap.size, 97, none⟩ (.int .i64 a)).setCell ⟨W.heap.size, 98, none⟩ (.int .i64 b)).setCell ⟨W.heap.size, 99, none⟩ (.int .i64 c)).setCell ⟨W.heap.size, 32, none⟩ (.int .i64 d)) W.heap.size 25 (i64s (tameM zs true)) := fun a b c d ha hb hc hd => by
          have := (((hP.putNum 97 a).putNum 98 b).putNum 99 c).putNum 32 d
          rw [ha, hb, hc, hd] at this
          rw [ha, hb, hc, hd]
          exact this
        have HG := Lib.hid hG
        clear hP hG
        generalize (zs.map (tmF true)).getD 97 0 = y97 at *
        generalize (zs.map (tmF true)).getD 98 0 = y98 at *
        generalize (zs.map (tmF true)).getD 99 0 = y99 at *
        generalize (zs.map (tmF true)).getD 32 0 = y32 at *
        obtain ⟨l97, u97⟩ := b97
        obtain ⟨l98, u98⟩ := b98
        obtain ⟨l99, u99⟩ := b99
        obtain ⟨l32, u32⟩ := b32
        go_wp2_with (first
          | (refine flat_load met_flat (.tmp 2) rfl rfl W.heap.size rfl (tameM zs true) ML.out 25 ?_ ?_; (focus (exact HG.out _ _ _ _ rfl rfl rfl rfl)))
          | (refine flat_store met_flat (.tmp 4) (.tmp 54) rfl rfl (W.heap.size + 1) rfl (tameM zs true) ML.out rfl 25 z0 ?_ NL.out ?_; (focus (exact (((HR.out.other (by simp) _).other (by simp) _).other (by simp) _).other (by simp) _)); intro w3 h3 o3; have H3 := Lib.hid h3; have O3 := Lib.hid o3; clear h3 o3))
        exact flat_end met_flat rfl (W.heap.size + 1) rfl _ ML.out 25 H3.out rfl ⟨rfl, ((((HB.out.setCell (by simp) _).setCell (by simp) _).setCell (by simp) _).setCell (by simp) _).trans (O3.out.below (by simp) (by simp; omega))⟩
end Go.Proofs.Ytncaichachipkaa
