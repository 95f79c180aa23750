import Derived.Test.YtncaichachipkaaWhitAddWQ
/- whit.Glyphs answers glyphsL. -/
namespace Go.Proofs.Ytncaichachipkaa
open Go Go.RowKit
set_option linter.unusedVariables false
set_option linter.unusedSimpArgs false
set_option maxRecDepth 20000
set_option maxHeartbeats 8000000

theorem text_leC : ∀ (rs : List Rn) (r : Nat) (h : r < rs.length), rs[r].text.size ≤ sizeAll rs
  | x :: l, 0, h => by simp [sizeAll]
  | x :: l, r + 1, h => by
    have := text_leC l r (by simpa using h)
    simp only [List.getElem_cons_succ]
    have e : sizeAll (x :: l) = x.text.size + sizeAll l := by simp [sizeAll]
    omega
theorem WAt.only3 {W w w' : World} {lo : Nat} {zs : List Int} {A : Option Addr} {n c g : Nat} {s : Wr} (h : WAt W w lo zs A n c s) (ho : Only [g] w w') (hg : lo + 1 < g) (hn : ∀ b, (Value.slice A n c).ownBlock = some b → b ≠ g) : WAt W w' lo zs A n c s :=
  ⟨h.row.only ho (by omega) hn, ho.whole h.obj (by simp; omega)⟩
theorem glyphs_any (zs : List Int) (hz : zs.length = 256) (rs : List Rn) (A : Option Addr) (c : Nat) (W : World) (hR : Row W W.heap.size A (rCells rs)) (hn : rs.length ≤ 4611686018427387904) (hsz : sizeAll rs ≤ 100000) :
    Calls Try.prog 27 #[.agg (i64s zs).toArray, .slice A rs.length c] W fun e w' => GlyphPost zs rs W e w' := by
  have HZ := Lib.hid hz
  have HR := Lib.hid hR
  have FL := Lib.hid (glyphsL_length zs rs)
  have O0 := Lib.hid (wOut_zero zs rs)
  clear hz hR
  unfold GlyphPost
  generalize glyphsL zs rs = F at *
  have G0 : Hid (WAt W ((W.alloc (.cells (i64s zs).toArray 25)).alloc (.cells #[.slice none 0 0, .int .i64 0, .int .i64 0, .int .i64 0, .int .i64 0] 83)) W.heap.size zs none 0 0 ⟨[], gl0⟩) := Lib.hid
    ⟨⟨World.ownsRow_nil _ _ _ _, (Whole.mk W 25 (i64s zs).toArray).made _, (((Below.refl W.heap.size W).alloc (Nat.le_refl _) _).alloc (by simp) _)⟩, by simpa using Whole.mk (W.alloc (.cells (i64s zs).toArray 25)) 83 #[.slice none 0 0, .int .i64 0, .int .i64 0, .int .i64 0, .int .i64 0]⟩
  go_enter Try.func27, Try.ntmps27
  go_wp2
  generalize (W.alloc (.cells (i64s zs).toArray 25)).alloc _ = W1 at *
  go_loopw [12] (fun r wr => ∃ (k n : Nat) (s : Wr) (A : Option Addr) (c : Nat), k ≤ rs.length ∧ r = .int .i64 k ∧ Hid (n = s.cur.length) ∧ Hid (OkW s) ∧ WAt W wr W.heap.size zs A n c s ∧ Hid (wOut zs rs k s = F)) (fun r _ => rs.length - (intOf r).toNat)
  case atStart => exact ⟨0, 0, ⟨[], gl0⟩, none, 0, Nat.zero_le _, rfl, Lib.hid rfl, Lib.hid (.inl rfl), G0.out, Lib.hid O0.out⟩
  case round =>
    clear G0
    obtain ⟨k, n, s, A1, c1, hk, rfl, hnc, hok, hG, HT⟩ := hrel
    have HG := Lib.hid hG
    have zB := hG.row.low.size
    by_cases hlt : k < rs.length
    · have hki : (k : Int) < rs.length := by omega
      have hx := text_leC rs k hlt
      have HS := Lib.hid (wOut_start zs rs k hlt s)
      have HE := Lib.hid (wLeft_end zs rs k hlt)
      have HRK := Lib.hid (fun w (hb : Below W.heap.size W w) => (HR.out.below hb).rn hlt)
      have hs9 : rs[k].text.size ≤ 100000 := by omega
      obtain ⟨ad, hA, hab, r0, r1, r2, r3⟩ := HRK.out wr hG.row.low
      subst hA
      clear HRK
      generalize rawAll zs ((k + 1 : Nat) : Int) (rs.drop (k + 1)) = rest at *
      generalize rs[k].text = tx at *
      generalize rs[k].white = wh at *
      generalize rs[k].node = nd at *
      generalize rs[k].line = li at *
      have HT1 := Lib.hid (HS.out.symm.trans HT.out)
      clear hG HS HT
      go_upto_region 5 with fail
      have P0 := Lib.hid (Whole.mk wr 40 #[.int .i64 nd, .string tx, .int .i64 wh, .int .i64 li])
      have G1 := Lib.hid (HG.out.behind ((Below.refl _ _).alloc (Nat.le_refl _) (.cells #[.int .i64 nd, .string tx, .int .i64 wh, .int .i64 li] 40)))
      have hp := HG.out.size
      clear HG r0 r1 r2 r3 hab zB
      generalize wr.alloc _ = wp at *
      generalize wr.heap.size = p at *
      have y1 : wp.cell? ⟨p, 1, none⟩ = some (.string tx) := P0.out.cell 1
      go_wp2
      clear y1
      go_loopw [20] (fun i wr => ∃ (j n : Nat) (s : Wr) (A : Option Addr) (c : Nat), j ≤ tx.size ∧ i = .int .i64 j ∧ Hid (n = s.cur.length) ∧ Hid (OkW s) ∧ WAt W wr W.heap.size zs A n c s ∧ Whole wr p 40 [.int .i64 nd, .string tx, .int .i64 wh, .int .i64 li] ∧ Hid (wLeft zs k wh (bytesOf tx) rest j s = F)) (fun i _ => tx.size - (intOf i).toNat)
      case atStart => exact ⟨0, n, s, A1, c1, Nat.zero_le _, rfl, hnc, hok, G1.out, P0.out, HT1⟩
      case round =>
        clear G1 P0 HT1 hnc hok
        obtain ⟨j, n2, s2, A2, c2, hj, rfl, hnc, hok, hG, hP, HT⟩ := hrel
        have HG := Lib.hid hG
        have HP := Lib.hid hP
        clear hG hP
        have zM := HG.out.size
        have zP := HP.out.size
        by_cases hjl : j < tx.size
        · have hji : (j : Int) < tx.size := by omega
          have hcl := wLeft_len _ _ _ _ _ _ _ _ HT.out
          have hn9 : n2 ≤ 200000 := by have := hnc.out; have := FL.out; omega
          have HST := Lib.hid (wLeft_step zs k wh (bytesOf tx) rest j s2 hok.out (by rw [bytesOf_length]; exact hjl))
          rw [bytesOf_get tx j hjl, ← rawG_parts zs k wh j tx hjl] at HST
          have hk4 := kindZ_in wh tx[j]
          have CK := Lib.hid (fun w => kind_any wh tx[j] w)
          have hx1 : (tx.extract j (j + 1)).size ≤ 1000000 := by rw [ByteArray.size_extract]; omega
          have CA := Lib.hid (fun kz hkz w hm => wadv_any zs HZ.out kz hkz (tx.extract j (j + 1)) hx1 W.heap.size w hm)
          clear hcl hx1
          go_upto_region 8 with fail
          have Y := Lib.hid (fun t : Later wr.heap.size wr => HP.out.under t.h zP)
          have y1 : ∀ t : Later wr.heap.size wr, t.w.cell? ⟨p, 1, none⟩ = some (.string tx) := fun t => (Y.out t).cell 1
          have y2 : ∀ t : Later wr.heap.size wr, t.w.cell? ⟨p, 2, none⟩ = some (.int .i64 wh) := fun t => (Y.out t).cell 2
          refine region_lane [] [0, 1, 2, 3, 4, 5, 6, 7, 8, 9, 10] [11] (by kernel_rfl) (by kernel_rfl) (fun _ _ _ _ _ h => h) ?_
          simp only [pick, List.map_nil]
          refine wpQuiet_nil ⟨rfl, ?_⟩
          simp only [List.map_cons, List.map_nil, List.getD_cons_zero, List.getD_cons_succ, List.drop_succ_cons, List.drop_zero]
          refine laneO_run 6 (by kernel_rfl) ?_
          simp only [List.take_succ_cons, List.take_zero, List.drop_succ_cons, List.drop_zero]
          repeat (go_big_quiet_step (fail))
          refine wpQuiet_nil ?_
          refine laneO_call (v := .int .i64 (kindZ wh tx[j])) (by kernel_rfl) (by rfl) (fun C hC h0 => ?_) ?_
          focus (go_big_quiet_op; exact ⟨_, fun w hw => (CK.out w).mono fun e w' ⟨he, hb⟩ => ⟨he, hb ▸ hw⟩, rfl⟩)
          simp only [Act.put, List.setIfInBounds_toArray, List.set_cons_zero, List.set_cons_succ]
          clear CK
          generalize kindZ wh tx[j] = kz at *
          refine laneO_run 2 (by kernel_rfl) ?_
          simp only [List.take_succ_cons, List.take_zero, List.drop_succ_cons, List.drop_zero]
          repeat (go_big_quiet_step (fail))
          refine wpQuiet_nil ?_
          refine laneO_fixed (v := .agg #[.int .i64 kz, .int .i64 k, .int .i64 j, .int .i64 0]) (by kernel_rfl) (fun w hw => .inl ⟨by rfl, ?_⟩) ?_
          · unfold gives
            simp [go_sem]
            exact Behind.refl w
          simp only [Act.put, List.setIfInBounds_toArray, List.set_cons_zero, List.set_cons_succ]
          refine laneO_told (newT wr.heap.size 81 [.int .i64 0, .int .i64 0, .int .i64 0, .int .i64 0]) (newT_steady _ _ _) (by kernel_rfl) rfl (fun w hw => .inl ⟨by rfl, ?_⟩) ?_
          · unfold gives
            simp [go_sem]
            exact newT_new wr.heap.size 81 #[.int .i64 0, .int .i64 0, .int .i64 0, .int .i64 0] w hw.size
          refine laneO_end (by simp) rfl rfl rfl fun w2 hb0 => ?_
          rintro x ⟨g, rfl, hg1, hw1⟩
          simp only [Act.put, List.setIfInBounds_toArray, List.set_cons_zero, List.set_cons_succ, fillAll]
          have G2 := Lib.hid (HG.out.behind hb0)
          have P2 := Lib.hid (HP.out.under hb0 zP)
          have W2 := Lib.hid hw1
          have ho2 : ∀ b, (Value.slice A2 n2 c2).ownBlock = some b → b ≠ g := fun b e => by have := owns_lt HG.out.row.own e; omega
          have hgp : p ≠ g := by omega
          have hgl : W.heap.size + 1 < g := by omega
          clear y1 y2 Y HG HP hb0 hw1 zM zP hg1
          go_upto_region 9 with (refine flat_store gl_flat (.tmp 9) (.tmp 32) rfl rfl g rfl [kz, k, j, 0] rfl rfl 81 [0, 0, 0, 0] W2.out rfl ?_; intro w3 h3 o3; have G3 := Lib.hid (G2.out.only3 o3 hgl ho2); have P3 := Lib.hid (o3.whole P2.out (by simpa using hgp)); have W3 := Lib.hid h3; clear h3 o3 G2 P2 W2)
          simp only [Act.put]
          have zG := W3.out.size
          have zP := P3.out.size
          have Y := Lib.hid (fun t : Later w3.heap.size w3 => (⟨P3.out.under t.h zP, W3.out.under t.h zG⟩ : _ ∧ _))
          have y1 : ∀ t : Later w3.heap.size w3, t.w.cell? ⟨p, 1, none⟩ = some (.string tx) := fun t => (Y.out t).1.cell 1
          have y2 : ∀ t : Later w3.heap.size w3, t.w.cell? ⟨g, 0, none⟩ = some (.int .i64 kz) := fun t => (Y.out t).2.cell 0
          have CA2 := Lib.hid (fun w (hb : Below w3.heap.size w3 w) => CA.out kz hk4 w ((G3.out.behind hb).row.met))
          clear CA
          refine region_lane [] [0, 1, 2, 3, 4, 5, 6, 7, 8, 9] [10] (by kernel_rfl) (by kernel_rfl) (fun _ _ _ _ _ h => h) ?_
          simp only [pick, List.map_nil]
          refine wpQuiet_nil ⟨rfl, ?_⟩
          simp only [List.map_cons, List.map_nil, List.getD_cons_zero, List.getD_cons_succ, List.drop_succ_cons, List.drop_zero]
          refine laneO_run 8 (by kernel_rfl) ?_
          simp only [List.take_succ_cons, List.take_zero, List.drop_succ_cons, List.drop_zero]
          repeat (go_big_quiet_step (fail))
          refine wpQuiet_nil ?_
          refine laneO_call (v := .int .i64 (kindAdv zs kz (tx.extract j (j + 1)))) (by kernel_rfl) (by rfl) (fun C hC h0 => ?_) ?_
          focus (go_big_quiet_op; exact ⟨_, fun w hw => (CA2.out w (h0 w hw)).mono fun e w' ⟨he, hb⟩ => ⟨he, hC _ _ hw hb⟩, rfl⟩)
          simp only [Act.put, List.setIfInBounds_toArray, List.set_cons_zero, List.set_cons_succ]
          clear CA2
          generalize kindAdv zs kz (tx.extract j (j + 1)) = av at *
          refine laneO_run 1 (by kernel_rfl) ?_
          simp only [List.take_succ_cons, List.take_zero, List.drop_succ_cons, List.drop_zero]
          repeat (go_big_quiet_step (fail))
          refine wpQuiet_nil ?_
          refine laneO_end0 rfl rfl fun w4 hb0 => ?_
          have G4 := Lib.hid (G3.out.behind hb0)
          have P4 := Lib.hid (P3.out.under hb0 zP)
          have W4 := Lib.hid (W3.out.under hb0 zG)
          clear y1 y2 Y G3 P3 W3 hb0 zG zP
          have fr := W4.out.free 3
          have ce : w4.cell? ⟨g, 3, none⟩ = some (.int .i64 0) := W4.out.cell 3
          have G5 := Lib.hid (G4.out.only3 ((Only.refl [g] w4).setCell ⟨g, 3, none⟩ (.inl (by simp)) (.int .i64 av)) hgl ho2)
          have P5 := Lib.hid (((Only.refl [g] w4).setCell ⟨g, 3, none⟩ (.inl (by simp)) (.int .i64 av)).whole P4.out (by simpa using hgp))
          have W5 := Lib.hid (W4.out.put 3 (.int .i64 av))
          go_upto_region 10 with fail
          generalize w4.setCell ⟨g, 3, none⟩ (.int .i64 av) = w5 at *
          clear fr ce G4 P4 W4
          have d0 : w5.cell? ⟨g, 0, none⟩ = some (.int .i64 kz) := W5.out.cell 0
          have d1 : w5.cell? ⟨g, 1, none⟩ = some (.int .i64 k) := W5.out.cell 1
          have d2 : w5.cell? ⟨g, 2, none⟩ = some (.int .i64 j) := W5.out.cell 2
          have d3 : w5.cell? ⟨g, 3, none⟩ = some (.int .i64 av) := W5.out.cell 3
          go_wp2_with fail
          refine (add_any W w5 W.heap.size zs A2 n2 c2 s2 ⟨kz, k, j, av⟩ G5.out hok.out hk4 hnc.out hn9).mono ?_
          rintro e w6 ⟨rfl, A3, n3, c3, hn3, hst, ho6⟩
          have P6 := ho6.whole P5.out (by
            intro hm
            rcases List.mem_cons.1 hm with e | e
            · omega
            · exact whole_ne P5.out G5.out.row.own (by decide) (by simpa using e))
          clear d0 d1 d2 d3 W5 G5 P5
          go_wp2
          go_roundw
          case rel => exact ⟨j + 1, n3, _, A3, c3, by omega, by go_num, Lib.hid hn3, Lib.hid (addW_ok s2 _ hok.out), hst, P6, Lib.hid (HST.out.symm.trans HT.out)⟩
          case measure => simp [intOf]; omega
        · obtain rfl : j = tx.size := by omega
          have HT2 := Lib.hid ((HE.out s2).symm.trans HT.out)
          go_wp2
          go_roundw
          case rel => exact ⟨k + 1, n2, s2, A2, c2, by omega, by go_num, hnc, hok, HG.out, HT2⟩
          case measure => simp [intOf]; omega
    · obtain rfl : k = rs.length := by omega
      have HF := Lib.hid ((wOut_end zs rs s hok.out).symm.trans HT.out)
      obtain ⟨e0, _⟩ := hG.cells
      go_wp2
      go_ret
      refine ⟨A1, c1, ?_, ?_, hG.row.low⟩
      · rw [← HF.out, ← hnc.out]; rfl
      · rw [← HF.out, ← hnc.out]; exact own_base hG.row.own (by omega)
end Go.Proofs.Ytncaichachipkaa
