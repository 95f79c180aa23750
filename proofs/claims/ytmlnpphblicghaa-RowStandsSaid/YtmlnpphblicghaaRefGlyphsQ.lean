import Derived.Test.YtmlnpphblicghaaZQ
/- quoinref9.Glyphs answers glyphsL. -/
namespace Go.Proofs.Ytmlnpphblicghaa
open Go Go.RowKit
set_option linter.unusedVariables false
set_option linter.unusedSimpArgs false
set_option maxRecDepth 20000
set_option maxHeartbeats 8000000

theorem text_le : ∀ (rs : List Rn) (r : Nat) (h : r < rs.length), rs[r].text.size ≤ sizeAll rs
  | x :: l, 0, h => by simp [sizeAll]
  | x :: l, r + 1, h => by
    have := text_le l r (by simpa using h)
    simp only [List.getElem_cons_succ]
    have e : sizeAll (x :: l) = x.text.size + sizeAll l := by simp [sizeAll]
    omega
/-- The kinds of a byte's glyph, one by one. -/
theorem rawG_cases (zs : List Int) (r wh i : Int) (b : UInt8) :
    ((wh == 2) = true ∧ ((b.toNat : Int) == 10) = true ∧ (⟨4, r, i, 0⟩ : Gl) = rawG zs r wh i b) ∨
    ((wh == 2) = true ∧ ((b.toNat : Int) == 10) = false ∧ (⟨1, r, i, advZ (zs.getD b.toNat 0)⟩ : Gl) = rawG zs r wh i b) ∨
    ((wh == 2) = false ∧ isW b = true ∧ (wh == 1) = true ∧ (⟨3, r, i, advZ (zs.getD (32 : UInt8).toNat 0)⟩ : Gl) = rawG zs r wh i b) ∨
    ((wh == 2) = false ∧ isW b = true ∧ (wh == 1) = false ∧ (⟨2, r, i, advZ (zs.getD (32 : UInt8).toNat 0)⟩ : Gl) = rawG zs r wh i b) ∨
    ((wh == 2) = false ∧ isW b = false ∧ (⟨1, r, i, advZ (zs.getD b.toNat 0)⟩ : Gl) = rawG zs r wh i b) := by
  unfold rawG atZ
  simp only [beq_iff_eq, beq_eq_false_iff_ne]
  by_cases h2 : wh = 2
  · by_cases h10 : (b.toNat : Int) = 10
    · exact .inl ⟨h2, h10, by rw [if_pos h2, if_pos h10]⟩
    · exact .inr (.inl ⟨h2, h10, by rw [if_pos h2, if_neg h10]⟩)
  · cases hb : isW b
    · exact .inr (.inr (.inr (.inr ⟨h2, rfl, by rw [if_neg h2, if_neg (by decide)]⟩)))
    · by_cases h1 : wh = 1
      · exact .inr (.inr (.inl ⟨h2, rfl, h1, by rw [if_neg h2, if_pos rfl, if_pos h1]⟩))
      · exact .inr (.inr (.inr (.inl ⟨h2, rfl, h1, by rw [if_neg h2, if_pos rfl, if_neg h1]⟩)))
theorem rglyphs_any (zs : List Int) (hz : zs.length = 256) (rs : List Rn) (A : Option Addr) (c : Nat) (W : World) (hR : Row W W.heap.size A (rCells rs)) (hn : rs.length ≤ 4611686018427387904) (hsz : sizeAll rs ≤ 100000) :
    Calls Try.prog 23 #[.agg (i64s zs).toArray, .slice A rs.length c] W fun e w' => GlyphPost zs rs W e w' := by
  have HZ := Lib.hid hz
  have HR := Lib.hid hR
  have TL := Lib.hid (colAll_length zs rs)
  have FD : Hid (glyphsL zs rs = trimG true (colG false (rawAll zs 0 rs))) := Lib.hid rfl
  have FL := Lib.hid (glyphsL_length zs rs)
  have O0 := Lib.hid (leftO_zero zs rs)
  clear hz hR
  unfold GlyphPost
  generalize glyphsL zs rs = F at *
  generalize colG false (rawAll zs 0 rs) = T at *
  have G0 : Hid (GRow W (W.alloc (.cells (i64s zs).toArray 37)) W.heap.size zs none 0 0 []) := Lib.hid ⟨World.ownsRow_nil _ _ _ _, Whole.mk W 37 (i64s zs).toArray, (Below.refl W.heap.size W).alloc (Nat.le_refl _) _⟩
  go_enter Try.func23, Try.ntmps23
  go_wp2
  generalize W.alloc (.cells (i64s zs).toArray 37) = W1 at *
  go_loopw [5, 6] (fun all r wr => ∃ (k n : Nat) (cur : List Gl) (A : Option Addr) (c : Nat), k ≤ rs.length ∧ r = .int .i64 k ∧ Hid (n = cur.length) ∧ all = .slice A n c ∧ GRow W wr W.heap.size zs A n c cur ∧ Hid (leftO zs rs k cur = T)) (fun _ r _ => rs.length - (intOf r).toNat)
  case atStart => exact ⟨0, 0, [], none, 0, Nat.zero_le _, rfl, Lib.hid rfl, rfl, G0.out, Lib.hid O0.out⟩
  case round =>
    clear G0
    obtain ⟨k, n, cur, A1, c1, hk, rfl, hnc, rfl, hG, HT⟩ := hrel
    have HG := Lib.hid hG
    have zB := hG.low.size
    by_cases hlt : k < rs.length
    · have hki : (k : Int) < rs.length := by omega
      have hx := text_le rs k hlt
      have HS := Lib.hid (leftO_start zs rs k hlt cur)
      have HE := Lib.hid (leftI_end zs rs k hlt)
      have HRK := Lib.hid (fun w (hb : Below W.heap.size W w) => (HR.out.below hb).rn hlt)
      have hs9 : rs[k].text.size ≤ 100000 := by omega
      obtain ⟨ad, hA, hab, r0, r1, r2, r3⟩ := HRK.out wr hG.low
      subst hA
      generalize rawAll zs ((k + 1 : Nat) : Int) (rs.drop (k + 1)) = rest at *
      generalize rs[k].text = s at *
      generalize rs[k].white = wh at *
      generalize rs[k].node = nd at *
      generalize rs[k].line = li at *
      have HT1 := Lib.hid (HS.out.symm.trans HT.out)
      clear hG HS HT
      go_wp2
      clear r0 r1 r2 r3
      go_loopw [5, 8] (fun all i wr => ∃ (j n : Nat) (cur : List Gl) (A : Option Addr) (c : Nat), j ≤ s.size ∧ i = .int .i64 j ∧ Hid (n = cur.length) ∧ all = .slice A n c ∧ GRow W wr W.heap.size zs A n c cur ∧ Hid (leftI zs k wh (bytesOf s) rest j cur = T)) (fun _ i _ => s.size - (intOf i).toNat)
      case atStart => exact ⟨0, n, cur, A1, c1, Nat.zero_le _, rfl, hnc, rfl, HG.out, HT1⟩
      case round =>
        clear HG HT1 hnc zB
        obtain ⟨j, n2, cu2, A2, c2, hj, rfl, hnc, rfl, hG, HT⟩ := hrel
        have HG := Lib.hid hG
        have zM := hG.size
        have hcl := leftI_len _ _ _ _ _ _ _ _ HT.out
        have hT9 := TL.out
        have hn9 : n2 ≤ 100000 := by have := hnc.out; omega
        clear hG hcl hT9
        by_cases hjl : j < s.size
        · have hji : (j : Int) < s.size := by omega
          have HST := Lib.hid (leftI_step zs k wh (bytesOf s) rest j cu2 (by rw [bytesOf_length]; exact hjl))
          rw [bytesOf_get s j hjl] at HST
          have hRC := rawG_cases zs k wh j s[j]
          have CA := Lib.hid (fun w => radv_any zs HZ.out s[j] w)
          have CS := Lib.hid (fun w => radv_any zs HZ.out 32 w)
          generalize advZ (zs.getD s[j].toNat 0) = av at *
          generalize advZ (zs.getD (32 : UInt8).toNat 0) = as_ at *
          generalize rawG zs k wh j s[j] = gx at *
          have CW := Lib.hid (fun w => gwhite_any s[j] w)
          go_upto_region 9 with fail
          refine region_lane [] [0, 1, 2, 3, 4, 5, 6, 7, 8] [9] (by kernel_rfl) (by kernel_rfl) (fun _ _ _ _ _ h => h) ?_
          simp only [pick, List.map_nil]
          refine wpQuiet_nil ⟨rfl, ?_⟩
          simp only [List.map_cons, List.map_nil, List.getD_cons_zero, List.getD_cons_succ, List.drop_succ_cons, List.drop_zero]
          refine laneO_run 2 (by kernel_rfl) ?_
          simp only [List.take_succ_cons, List.take_zero, List.drop_succ_cons, List.drop_zero]
          repeat (go_big_quiet_step (fail))
          refine wpQuiet_nil ?_
          refine laneO_fixed (v := .agg (i64s zs).toArray) (by kernel_rfl) (fun w hw => .inl ⟨by rfl, flat_gives met_flat (.tmp 2) rfl W.heap.size rfl zs HZ.out 37 (HG.out.met.under hw zM)⟩) ?_
          simp only [Act.put, List.setIfInBounds_toArray, List.set_cons_zero, List.set_cons_succ]
          refine laneO_run 3 (by kernel_rfl) ?_
          simp only [List.take_succ_cons, List.take_zero, List.drop_succ_cons, List.drop_zero]
          repeat (go_big_quiet_step (fail))
          refine wpQuiet_nil ?_
          refine laneO_call (v := .int .i64 av) (by kernel_rfl) (by rfl) (fun C hC h0 => ?_) ?_
          focus (go_big_quiet_op; exact ⟨_, fun w hw => (CA.out w).mono fun e w' ⟨he, hb⟩ => ⟨he, hC _ _ hw hb⟩, rfl⟩)
          simp only [Act.put, List.setIfInBounds_toArray, List.set_cons_zero, List.set_cons_succ]
          refine laneO_fixed (v := .agg #[.int .i64 1, .int .i64 k, .int .i64 j, .int .i64 av]) (by kernel_rfl) (fun w hw => .inl ⟨by rfl, ?_⟩) ?_
          · unfold gives
            simp [go_sem]
            exact Behind.refl w
          simp only [Act.put, List.setIfInBounds_toArray, List.set_cons_zero, List.set_cons_succ]
          refine laneO_told (newT wr.heap.size 24 [.int .i64 0, .int .i64 0, .int .i64 0, .int .i64 0]) (newT_steady _ _ _) (by kernel_rfl) rfl (fun w hw => .inl ⟨by rfl, ?_⟩) ?_
          · unfold gives
            simp [go_sem]
            exact newT_new wr.heap.size 24 #[.int .i64 0, .int .i64 0, .int .i64 0, .int .i64 0] w hw.size
          refine laneO_end (by simp) rfl rfl rfl fun w2 hb0 => ?_
          rintro x ⟨g, rfl, hg1, hw1⟩
          simp only [Act.put, List.setIfInBounds_toArray, List.set_cons_zero, List.set_cons_succ, fillAll]
          have hgl : W.heap.size < g := by omega
          have S2 := Lib.hid (GSt.mk (x := ⟨0, 0, 0, 0⟩) (HG.out.behind hb0) hw1 (HG.out.off hg1) hgl)
          clear hb0 hw1 hg1 HG CA zM
          go_upto_region 10 with (refine flat_store gl_flat (.tmp 9) (.tmp 37) rfl rfl g rfl [1, k, j, av] rfl rfl 24 [0, 0, 0, 0] ?_ rfl ?_; (focus (exact S2.out.gl)); intro w3 h3 o3; have S3 := Lib.hid (GSt.mk (x := ⟨1, k, j, av⟩) (S2.out.row.only o3 S2.out.far S2.out.off) h3 S2.out.off S2.out.far); clear h3 o3 S2)
          obtain ⟨ad', hA', hab', r0, r1, r2, r3⟩ := HRK.out w3 S3.out.row.low
          injection hA' with hA'
          subst hA'
          have hne : ¬ g = ad.block := by omega
          rcases hRC with ⟨e1, e2, e3⟩ | ⟨e1, e2, e3⟩ | ⟨e1, e2, e4, e3⟩ | ⟨e1, e2, e4, e3⟩ | ⟨e1, e2, e3⟩
          · -- a break
            obtain ⟨k0, k1, k2, k3, f0, f3⟩ := S3.out.cells
            simp only at k0 k1 k2 k3
            have S5 := Lib.hid ((S3.out.kind 4).adv 0)
            have hG9 := Lib.hid ((HST.out _ e3).2 (by simp [isB]))
            go_upto_region 18 with fail
            generalize (w3.setCell ⟨g, 0, none⟩ (.int .i64 4)).setCell ⟨g, 3, none⟩ (.int .i64 0) = w5 at *
            have S6 : Hid (GSt W w5 W.heap.size zs A2 n2 c2 cu2 g ⟨4, k, j, 0⟩) := Lib.hid S5.out
            clear S3 S5 k0 k1 k2 k3 f0 f3 r0 r1 r2 r3
            have S6R := Lib.hid S6.out.row
            obtain ⟨q0, q1, q2, q3, q4, q5⟩ := S6.out.cells
            simp only at q0 q1 q2 q3
            go_wp2_with (at_builtin; refine wpList_new rfl (.tmp 88) (.tmp 90) _ rfl (W.heap.size + 1) 24 4 32 (.agg #[.int .i64 0, .int .i64 0, .int .i64 0, .int .i64 0]) Try.underlying22 gl_info rfl (by decide) _ _ _ _ rfl S6R.out.own rfl ⟨by omega, by unfold maxLen; omega, by have := S6R.out.size; omega⟩ rfl (by simp [Value.oneCell']) ?_; intro A3 c3 w9 hown3 hb3; have HP9 := Lib.hid (S6R.out.pushed ⟨4, k, j, 0⟩ hb3 hown3); clear hown3 hb3)
            go_roundw
            case rel => exact ⟨j + 1, n2 + 1, cu2 ++ [⟨4, k, j, 0⟩], A3, c3, by omega, by go_num, Lib.hid (by rw [List.length_append, ← hnc.out]; rfl), rfl, HP9.out, Lib.hid (hG9.out.symm.trans HT.out)⟩
            case measure => simp [intOf]; omega
          · -- a byte that shows
            obtain ⟨k0, k1, k2, k3, f0, f3⟩ := S3.out.cells
            simp only at k0 k1 k2 k3
            have S5 := S3
            have hG9 := Lib.hid ((HST.out _ e3).2 (by simp [isB]))
            go_upto_region 18 with fail
            generalize w3 = w5 at *
            have S6 : Hid (GSt W w5 W.heap.size zs A2 n2 c2 cu2 g ⟨1, k, j, av⟩) := Lib.hid S5.out
            clear S3 S5 k0 k1 k2 k3 f0 f3 r0 r1 r2 r3
            have S6R := Lib.hid S6.out.row
            obtain ⟨q0, q1, q2, q3, q4, q5⟩ := S6.out.cells
            simp only at q0 q1 q2 q3
            go_wp2_with (at_builtin; refine wpList_new rfl (.tmp 88) (.tmp 90) _ rfl (W.heap.size + 1) 24 4 32 (.agg #[.int .i64 0, .int .i64 0, .int .i64 0, .int .i64 0]) Try.underlying22 gl_info rfl (by decide) _ _ _ _ rfl S6R.out.own rfl ⟨by omega, by unfold maxLen; omega, by have := S6R.out.size; omega⟩ rfl (by simp [Value.oneCell']) ?_; intro A3 c3 w9 hown3 hb3; have HP9 := Lib.hid (S6R.out.pushed ⟨1, k, j, av⟩ hb3 hown3); clear hown3 hb3)
            go_roundw
            case rel => exact ⟨j + 1, n2 + 1, cu2 ++ [⟨1, k, j, av⟩], A3, c3, by omega, by go_num, Lib.hid (by rw [List.length_append, ← hnc.out]; rfl), rfl, HP9.out, Lib.hid (hG9.out.symm.trans HT.out)⟩
            case measure => simp [intOf]; omega
          · -- a blank
            rw [e2] at CW
            go_wp2_with fail
            refine (CW.out _).mono ?_
            rintro e w' ⟨rfl, rfl⟩
            go_wp2_with (first | (refine flat_load met_flat (.tmp 2) rfl rfl W.heap.size rfl zs HZ.out 37 ?_ ?_; (focus (exact S3.out.row.met))))
            refine (CS.out _).mono ?_
            rintro e w4 ⟨rfl, b4⟩
            clear r0 r1 r2 r3
            have S4 := Lib.hid (S3.out.behind b4)
            clear b4 S3
            obtain ⟨k0, k1, k2, k3, f0, f3⟩ := S4.out.cells
            simp only at k0 k1 k2 k3
            have S5a := Lib.hid ((S4.out.kind 2).adv as_)
            go_upto_region 15 with fail
            generalize (w4.setCell ⟨g, 0, none⟩ (.int .i64 2)).setCell ⟨g, 3, none⟩ (.int .i64 as_) = w5 at *
            have S5 : Hid (GSt W w5 W.heap.size zs A2 n2 c2 cu2 g ⟨2, k, j, as_⟩) := Lib.hid S5a.out
            clear S4 S5a k0 k1 k2 k3 f0 f3
            obtain ⟨ad', hA', hab'', r0, r1, r2, r3⟩ := HRK.out w5 S5.out.row.low
            injection hA' with hA'
            subst hA'
            obtain ⟨k0, k1, k2, k3, f0, f3⟩ := S5.out.cells
            simp only at k0 k1 k2 k3
            have S6a := Lib.hid (S5.out.kind 3)
            go_upto_region 17 with fail
            generalize w5.setCell ⟨g, 0, none⟩ (.int .i64 3) = w6 at *
            have S6 : Hid (GSt W w6 W.heap.size zs A2 n2 c2 cu2 g ⟨3, k, j, as_⟩) := Lib.hid S6a.out
            clear S5 S6a k0 k1 k2 k3 f0 f3 r0 r1 r2 r3
            cases n2 with
            | zero =>
              have hl0 : lastB cu2 = false := by rw [List.eq_nil_of_length_eq_zero hnc.out.symm]; rfl
              have hG9 := Lib.hid ((HST.out _ e3).2 (by rw [hl0]; rfl))
              clear hl0
              have S6R := Lib.hid S6.out.row
              obtain ⟨q0, q1, q2, q3, q4, q5⟩ := S6.out.cells
              simp only at q0 q1 q2 q3
              go_wp2_with (at_builtin; refine wpList_new rfl (.tmp 88) (.tmp 90) _ rfl (W.heap.size + 1) 24 4 32 (.agg #[.int .i64 0, .int .i64 0, .int .i64 0, .int .i64 0]) Try.underlying22 gl_info rfl (by decide) _ _ _ _ rfl S6R.out.own rfl ⟨by omega, by unfold maxLen; omega, by have := S6R.out.size; omega⟩ rfl (by simp [Value.oneCell']) ?_; intro A3 c3 w9 hown3 hb3; have HP9 := Lib.hid (S6R.out.pushed ⟨3, k, j, as_⟩ hb3 hown3); clear hown3 hb3)
              go_roundw
              case rel => exact ⟨j + 1, 0 + 1, cu2 ++ [⟨3, k, j, as_⟩], A3, c3, by omega, by go_num, Lib.hid (by rw [List.length_append, ← hnc.out]; rfl), rfl, HP9.out, Lib.hid (hG9.out.symm.trans HT.out)⟩
              case measure => simp [intOf]; omega
            | succ m =>
              have hml : m < cu2.length := by have := hnc.out; omega
              have hlb := lastB_at cu2 m hnc.out.symm
              have CB := Lib.hid (fun w => gblank_any cu2[m] w)
              obtain ⟨ad2, hA2, hab2, t0, t1, t2, t3⟩ := S6.out.row.row.gl hml
              subst hA2
              have hmi : (0 : Int) < ((m + 1 : Nat) : Int) := by omega
              unfold glV at CB
              generalize cu2[m] = y at *
              obtain ⟨y0, y1, y2, y3⟩ := y
              simp only at t0 t1 t2 t3 CB
              go_wp2_with fail
              refine (CB.out _).mono ?_
              rintro e w7 ⟨rfl, b7⟩
              have S7 := Lib.hid (S6.out.behind b7)
              clear b7 S6 t0 t1 t2 t3
              have HLB := Lib.hid hlb
              clear hlb
              generalize isB (⟨y0, y1, y2, y3⟩ : Gl) = bb at *
              cases bb with
              | true =>
                have hG9 := Lib.hid ((HST.out _ e3).1 (by rw [HLB.out]; simp [isB]))
                go_wp2
                go_roundw
                case rel => exact ⟨j + 1, m + 1, cu2, some ad2, c2, by omega, by go_num, hnc, rfl, S7.out.row, Lib.hid (hG9.out.symm.trans HT.out)⟩
                case measure => simp [intOf]; omega
              | false =>
                have hG9 := Lib.hid ((HST.out _ e3).2 (by rw [HLB.out]; simp))
                have S7R := Lib.hid S7.out.row
                obtain ⟨q0, q1, q2, q3, q4, q5⟩ := S7.out.cells
                simp only at q0 q1 q2 q3
                go_wp2_with (at_builtin; refine wpList_new rfl (.tmp 88) (.tmp 90) _ rfl (W.heap.size + 1) 24 4 32 (.agg #[.int .i64 0, .int .i64 0, .int .i64 0, .int .i64 0]) Try.underlying22 gl_info rfl (by decide) _ _ _ _ rfl S7R.out.own rfl ⟨by omega, by unfold maxLen; omega, by have := S7R.out.size; omega⟩ rfl (by simp [Value.oneCell']) ?_; intro A3 c3 w9 hown3 hb3; have HP9 := Lib.hid (S7R.out.pushed ⟨3, k, j, as_⟩ hb3 hown3); clear hown3 hb3)
                go_roundw
                case rel => exact ⟨j + 1, m + 1 + 1, cu2 ++ [⟨3, k, j, as_⟩], A3, c3, by omega, by go_num, Lib.hid (by rw [List.length_append, ← hnc.out]; rfl), rfl, HP9.out, Lib.hid (hG9.out.symm.trans HT.out)⟩
                case measure => simp [intOf]; omega
          · -- a blank
            rw [e2] at CW
            go_wp2_with fail
            refine (CW.out _).mono ?_
            rintro e w' ⟨rfl, rfl⟩
            go_wp2_with (first | (refine flat_load met_flat (.tmp 2) rfl rfl W.heap.size rfl zs HZ.out 37 ?_ ?_; (focus (exact S3.out.row.met))))
            refine (CS.out _).mono ?_
            rintro e w4 ⟨rfl, b4⟩
            clear r0 r1 r2 r3
            have S4 := Lib.hid (S3.out.behind b4)
            clear b4 S3
            obtain ⟨k0, k1, k2, k3, f0, f3⟩ := S4.out.cells
            simp only at k0 k1 k2 k3
            have S5a := Lib.hid ((S4.out.kind 2).adv as_)
            go_upto_region 15 with fail
            generalize (w4.setCell ⟨g, 0, none⟩ (.int .i64 2)).setCell ⟨g, 3, none⟩ (.int .i64 as_) = w5 at *
            have S5 : Hid (GSt W w5 W.heap.size zs A2 n2 c2 cu2 g ⟨2, k, j, as_⟩) := Lib.hid S5a.out
            clear S4 S5a k0 k1 k2 k3 f0 f3
            obtain ⟨ad', hA', hab'', r0, r1, r2, r3⟩ := HRK.out w5 S5.out.row.low
            injection hA' with hA'
            subst hA'
            go_upto_region 17 with fail
            generalize w5 = w6 at *
            have S6 : Hid (GSt W w6 W.heap.size zs A2 n2 c2 cu2 g ⟨2, k, j, as_⟩) := Lib.hid S5.out
            clear S5 r0 r1 r2 r3
            cases n2 with
            | zero =>
              have hl0 : lastB cu2 = false := by rw [List.eq_nil_of_length_eq_zero hnc.out.symm]; rfl
              have hG9 := Lib.hid ((HST.out _ e3).2 (by rw [hl0]; rfl))
              clear hl0
              have S6R := Lib.hid S6.out.row
              obtain ⟨q0, q1, q2, q3, q4, q5⟩ := S6.out.cells
              simp only at q0 q1 q2 q3
              go_wp2_with (at_builtin; refine wpList_new rfl (.tmp 88) (.tmp 90) _ rfl (W.heap.size + 1) 24 4 32 (.agg #[.int .i64 0, .int .i64 0, .int .i64 0, .int .i64 0]) Try.underlying22 gl_info rfl (by decide) _ _ _ _ rfl S6R.out.own rfl ⟨by omega, by unfold maxLen; omega, by have := S6R.out.size; omega⟩ rfl (by simp [Value.oneCell']) ?_; intro A3 c3 w9 hown3 hb3; have HP9 := Lib.hid (S6R.out.pushed ⟨2, k, j, as_⟩ hb3 hown3); clear hown3 hb3)
              go_roundw
              case rel => exact ⟨j + 1, 0 + 1, cu2 ++ [⟨2, k, j, as_⟩], A3, c3, by omega, by go_num, Lib.hid (by rw [List.length_append, ← hnc.out]; rfl), rfl, HP9.out, Lib.hid (hG9.out.symm.trans HT.out)⟩
              case measure => simp [intOf]; omega
            | succ m =>
              have hml : m < cu2.length := by have := hnc.out; omega
              have hlb := lastB_at cu2 m hnc.out.symm
              have CB := Lib.hid (fun w => gblank_any cu2[m] w)
              obtain ⟨ad2, hA2, hab2, t0, t1, t2, t3⟩ := S6.out.row.row.gl hml
              subst hA2
              have hmi : (0 : Int) < ((m + 1 : Nat) : Int) := by omega
              unfold glV at CB
              generalize cu2[m] = y at *
              obtain ⟨y0, y1, y2, y3⟩ := y
              simp only at t0 t1 t2 t3 CB
              go_wp2_with fail
              refine (CB.out _).mono ?_
              rintro e w7 ⟨rfl, b7⟩
              have S7 := Lib.hid (S6.out.behind b7)
              clear b7 S6 t0 t1 t2 t3
              have HLB := Lib.hid hlb
              clear hlb
              generalize isB (⟨y0, y1, y2, y3⟩ : Gl) = bb at *
              cases bb with
              | true =>
                have hG9 := Lib.hid ((HST.out _ e3).1 (by rw [HLB.out]; simp [isB]))
                go_wp2
                go_roundw
                case rel => exact ⟨j + 1, m + 1, cu2, some ad2, c2, by omega, by go_num, hnc, rfl, S7.out.row, Lib.hid (hG9.out.symm.trans HT.out)⟩
                case measure => simp [intOf]; omega
              | false =>
                have hG9 := Lib.hid ((HST.out _ e3).2 (by rw [HLB.out]; simp))
                have S7R := Lib.hid S7.out.row
                obtain ⟨q0, q1, q2, q3, q4, q5⟩ := S7.out.cells
                simp only at q0 q1 q2 q3
                go_wp2_with (at_builtin; refine wpList_new rfl (.tmp 88) (.tmp 90) _ rfl (W.heap.size + 1) 24 4 32 (.agg #[.int .i64 0, .int .i64 0, .int .i64 0, .int .i64 0]) Try.underlying22 gl_info rfl (by decide) _ _ _ _ rfl S7R.out.own rfl ⟨by omega, by unfold maxLen; omega, by have := S7R.out.size; omega⟩ rfl (by simp [Value.oneCell']) ?_; intro A3 c3 w9 hown3 hb3; have HP9 := Lib.hid (S7R.out.pushed ⟨2, k, j, as_⟩ hb3 hown3); clear hown3 hb3)
                go_roundw
                case rel => exact ⟨j + 1, m + 1 + 1, cu2 ++ [⟨2, k, j, as_⟩], A3, c3, by omega, by go_num, Lib.hid (by rw [List.length_append, ← hnc.out]; rfl), rfl, HP9.out, Lib.hid (hG9.out.symm.trans HT.out)⟩
                case measure => simp [intOf]; omega
          · -- a byte that shows
            obtain ⟨k0, k1, k2, k3, f0, f3⟩ := S3.out.cells
            simp only at k0 k1 k2 k3
            have S5 := S3
            have hG9 := Lib.hid ((HST.out _ e3).2 (by simp [isB]))
            rw [e2] at CW
            go_upto_region 18 with (go_at_call 37; refine (CW.out _).mono ?_; rintro e w' ⟨rfl, rfl⟩)
            generalize w3 = w5 at *
            have S6 : Hid (GSt W w5 W.heap.size zs A2 n2 c2 cu2 g ⟨1, k, j, av⟩) := Lib.hid S5.out
            clear S3 S5 k0 k1 k2 k3 f0 f3 r0 r1 r2 r3
            have S6R := Lib.hid S6.out.row
            obtain ⟨q0, q1, q2, q3, q4, q5⟩ := S6.out.cells
            simp only at q0 q1 q2 q3
            go_wp2_with (at_builtin; refine wpList_new rfl (.tmp 88) (.tmp 90) _ rfl (W.heap.size + 1) 24 4 32 (.agg #[.int .i64 0, .int .i64 0, .int .i64 0, .int .i64 0]) Try.underlying22 gl_info rfl (by decide) _ _ _ _ rfl S6R.out.own rfl ⟨by omega, by unfold maxLen; omega, by have := S6R.out.size; omega⟩ rfl (by simp [Value.oneCell']) ?_; intro A3 c3 w9 hown3 hb3; have HP9 := Lib.hid (S6R.out.pushed ⟨1, k, j, av⟩ hb3 hown3); clear hown3 hb3)
            go_roundw
            case rel => exact ⟨j + 1, n2 + 1, cu2 ++ [⟨1, k, j, av⟩], A3, c3, by omega, by go_num, Lib.hid (by rw [List.length_append, ← hnc.out]; rfl), rfl, HP9.out, Lib.hid (hG9.out.symm.trans HT.out)⟩
            case measure => simp [intOf]; omega
        · have hje : j = s.size := by omega
          have HN := Lib.hid (show leftO zs rs (k + 1) cu2 = T by rw [← HE.out cu2, ← hje]; exact HT.out)
          go_wp2
          go_roundw
          case rel => exact ⟨k + 1, n2, cu2, A2, c2, by omega, by go_num, hnc, rfl, HG.out, HN⟩
          case measure => simp [intOf]; omega
    · have hke : k = rs.length := by omega
      have hcT : cur = T := by have := HT.out; rw [hke, leftO_end] at this; exact this
      subst hcT
      have S0 := Lib.hid ((leftT_zero cur).trans FD.out.symm)
      clear HT O0 hke
      generalize wr = w0 at *
      have HRT := Lib.hid hG.row
      have HLo := Lib.hid hG.low
      have HTL := TL.out
      have hnl := hnc.out
      have hn9 : n ≤ 100000 := by omega
      clear hG HG HTL
      go_wp2
      go_loopw [10, 11] (fun o i wr => ∃ (p m : Nat) (out : List Gl) (B : Option Addr) (d : Nat), p ≤ n ∧ i = .int .i64 p ∧ Hid (m = out.length) ∧ o = .slice B m d ∧ wr.ownsRow w0.heap.size 24 4 (.slice B m d) m (i64s (gCells out)) ∧ Below w0.heap.size w0 wr ∧ Hid (leftT cur p out = F)) (fun _ i _ => n - (intOf i).toNat)
      case atStart => exact ⟨0, 0, [], none, 0, Nat.zero_le _, rfl, Lib.hid rfl, rfl, World.ownsRow_nil _ _ _ _, Below.refl _ _, S0⟩
      case round =>
        clear S0
        obtain ⟨p, m, out, B, d, hp, rfl, hnm, rfl, hO, hB, HT⟩ := hrel
        have HO := Lib.hid hO
        have HB := Lib.hid hB
        have hml := leftT_len _ _ _ _ HT.out
        have hFL := FL.out
        have hm9 : m ≤ 100000 := by have := hnm.out; omega
        clear hO hB hml hFL
        by_cases hpn : p < n
        · have hpi : (p : Int) < n := by omega
          have hpl : p < cur.length := by omega
          have HK := Lib.hid (fun w (hb : Below w0.heap.size w0 w) (q : Nat) (hq : q < cur.length) => (HRT.out.below hb).gl hq)
          obtain ⟨ad, hA, hab, -, -, -, -⟩ := HK.out wr HB.out p hpl
          subst hA
          have HN := Lib.hid hnl
          clear hnl hnc
          by_cases hp0 : p = 0
          · subst hp0
            have hE := testB_first cur
            have HST := Lib.hid (leftT_step cur out 0 hpl)
            rw [hE] at HST
            have CB := Lib.hid (fun w => gblank_any cur[0] w)
            obtain ⟨ad9, hA9, hab9, t0, t1, t2, t3⟩ := HK.out wr HB.out 0 hpl
            injection hA9 with hA9
            subst hA9
            have HT9 := Lib.hid (fun w hw => HK.out w hw 0 hpl)
            unfold glV at CB
            generalize cur[0] = y at *
            obtain ⟨y0, y1, y2, y3⟩ := y
            simp only at t0 t1 t2 t3 CB HT9
            simp only [Nat.zero_mul, add_zero] at t0 t1 t2 t3 HT9
            go_wp2_with fail
            refine (CB.out _).mono ?_
            rintro e w7 ⟨rfl, b7⟩
            have HO7 := Lib.hid (own_below HO.out b7 (Nat.le_refl _))
            have HB7 := Lib.hid (HB.out.trans (Below.mono b7 HB.out.size))
            clear b7 t0 t1 t2 t3
            obtain ⟨ad9, hA9, hab9', v0, v1, v2, v3⟩ := HT9.out w7 HB7.out
            injection hA9 with hA9
            subst hA9
            have z7 := HB7.out.size
            generalize isB (⟨y0, y1, y2, y3⟩ : Gl) = bb at *
            cases bb with
            | false =>
              have hG9 := Lib.hid (HST.out.2 rfl)
              go_wp2_with (at_builtin; refine wpList_new rfl (.tmp 135) (.tmp 140) _ rfl w0.heap.size 24 4 32 (.agg #[.int .i64 0, .int .i64 0, .int .i64 0, .int .i64 0]) Try.underlying22 gl_info rfl (by decide) _ _ _ _ rfl HO7.out rfl ⟨by omega, by unfold maxLen; omega, z7⟩ rfl (by simp [Value.oneCell']) ?_; intro A3 c3 w9 hown3 hb3; have HP9 := Lib.hid hown3; have HB9 := Lib.hid (HB7.out.trans hb3); clear hown3 hb3)
              go_roundw
              case rel => exact ⟨0 + 1, m + 1, out ++ [⟨y0, y1, y2, y3⟩], A3, c3, by omega, by go_num, Lib.hid (by rw [List.length_append, ← hnm.out]; rfl), rfl, by rw [gCells_append, i64s_append]; exact HP9.out, HB9.out, Lib.hid (hG9.out.symm.trans HT.out)⟩
              case measure => simp [intOf]; omega
            | true =>
              have hG9 := Lib.hid (HST.out.1 rfl)
              go_wp2
              go_roundw
              case rel => exact ⟨0 + 1, m, out, B, d, by omega, by go_num, hnm, rfl, HO7.out, HB7.out, Lib.hid (hG9.out.symm.trans HT.out)⟩
              case measure => simp [intOf]; omega
          · by_cases hpe : p + 1 = n
            · have hE := testB_last cur p (by rw [← HN.out]; exact hpe)
              have g0 : ((p : Int) == 0) = false := by rw [beq_eq_false_iff_ne]; omega
              have g1 : ((p : Int) + 1 == (n : Int)) = true := by rw [beq_iff_eq]; omega
              have HST := Lib.hid (leftT_step cur out p hpl)
              rw [hE] at HST
              have CB := Lib.hid (fun w => gblank_any cur[p] w)
              obtain ⟨ad9, hA9, hab9, t0, t1, t2, t3⟩ := HK.out wr HB.out p hpl
              injection hA9 with hA9
              subst hA9
              have HT9 := Lib.hid (fun w hw => HK.out w hw p hpl)
              unfold glV at CB
              generalize cur[p] = y at *
              obtain ⟨y0, y1, y2, y3⟩ := y
              simp only at t0 t1 t2 t3 CB HT9
              go_wp2_with fail
              refine (CB.out _).mono ?_
              rintro e w7 ⟨rfl, b7⟩
              have HO7 := Lib.hid (own_below HO.out b7 (Nat.le_refl _))
              have HB7 := Lib.hid (HB.out.trans (Below.mono b7 HB.out.size))
              clear b7 t0 t1 t2 t3
              obtain ⟨ad9, hA9, hab9', v0, v1, v2, v3⟩ := HT9.out w7 HB7.out
              injection hA9 with hA9
              subst hA9
              have z7 := HB7.out.size
              generalize isB (⟨y0, y1, y2, y3⟩ : Gl) = bb at *
              cases bb with
              | false =>
                have hG9 := Lib.hid (HST.out.2 rfl)
                go_wp2_with (at_builtin; refine wpList_new rfl (.tmp 135) (.tmp 140) _ rfl w0.heap.size 24 4 32 (.agg #[.int .i64 0, .int .i64 0, .int .i64 0, .int .i64 0]) Try.underlying22 gl_info rfl (by decide) _ _ _ _ rfl HO7.out rfl ⟨by omega, by unfold maxLen; omega, z7⟩ rfl (by simp [Value.oneCell']) ?_; intro A3 c3 w9 hown3 hb3; have HP9 := Lib.hid hown3; have HB9 := Lib.hid (HB7.out.trans hb3); clear hown3 hb3)
                go_roundw
                case rel => exact ⟨p + 1, m + 1, out ++ [⟨y0, y1, y2, y3⟩], A3, c3, by omega, by go_num, Lib.hid (by rw [List.length_append, ← hnm.out]; rfl), rfl, by rw [gCells_append, i64s_append]; exact HP9.out, HB9.out, Lib.hid (hG9.out.symm.trans HT.out)⟩
                case measure => simp [intOf]; omega
              | true =>
                have hG9 := Lib.hid (HST.out.1 rfl)
                go_wp2
                go_roundw
                case rel => exact ⟨p + 1, m, out, B, d, by omega, by go_num, hnm, rfl, HO7.out, HB7.out, Lib.hid (hG9.out.symm.trans HT.out)⟩
                case measure => simp [intOf]; omega
            · obtain ⟨q, rfl⟩ : ∃ q, p = q + 1 := ⟨p - 1, by omega⟩
              have hE := testB_mid cur q (by rw [← HN.out]; omega)
              have hq0 : q < cur.length := by omega
              have hq2 : q + 2 < cur.length := by rw [← HN.out]; omega
              have g0 : (((q + 1 : Nat) : Int) == 0) = false := by rw [beq_eq_false_iff_ne]; omega
              have g1 : (((q + 1 : Nat) : Int) + 1 == (n : Int)) = false := by rw [beq_eq_false_iff_ne]; omega
              have g2 : ((q : Int) + 1 == 0) = false := by rw [beq_eq_false_iff_ne]; omega
              have g3 : ((q : Int) + 1 + 1 == (n : Int)) = false := by rw [beq_eq_false_iff_ne]; omega
              obtain ⟨ae, hAe, -, e0, -, -, -⟩ := HK.out wr HB.out q hq0
              injection hAe with hAe
              subst hAe
              obtain ⟨ae, hAe, -, e2, -, -, -⟩ := HK.out wr HB.out (q + 2) hq2
              injection hAe with hAe
              subst hAe
              generalize cur[q].kind = kp at *
              generalize cur[q + 2].kind = kn at *
              by_cases h4 : kp = 4
              · have hE : testB cur (q + 1) = true := by rw [hE, decide_eq_true h4]; rfl
                have g4 : (kp == 4) = true := by rw [beq_iff_eq]; exact h4
                clear h4 e2
                have HST := Lib.hid (leftT_step cur out (q + 1) hpl)
                rw [hE] at HST
                have CB := Lib.hid (fun w => gblank_any cur[q + 1] w)
                obtain ⟨ad9, hA9, hab9, t0, t1, t2, t3⟩ := HK.out wr HB.out (q + 1) hpl
                injection hA9 with hA9
                subst hA9
                have HT9 := Lib.hid (fun w hw => HK.out w hw (q + 1) hpl)
                unfold glV at CB
                generalize cur[q + 1] = y at *
                obtain ⟨y0, y1, y2, y3⟩ := y
                simp only at t0 t1 t2 t3 CB HT9
                go_wp2_with fail
                refine (CB.out _).mono ?_
                rintro e w7 ⟨rfl, b7⟩
                have HO7 := Lib.hid (own_below HO.out b7 (Nat.le_refl _))
                have HB7 := Lib.hid (HB.out.trans (Below.mono b7 HB.out.size))
                clear b7 t0 t1 t2 t3
                obtain ⟨ad9, hA9, hab9', v0, v1, v2, v3⟩ := HT9.out w7 HB7.out
                injection hA9 with hA9
                subst hA9
                have z7 := HB7.out.size
                generalize isB (⟨y0, y1, y2, y3⟩ : Gl) = bb at *
                cases bb with
                | false =>
                  have hG9 := Lib.hid (HST.out.2 rfl)
                  go_wp2_with (at_builtin; refine wpList_new rfl (.tmp 135) (.tmp 140) _ rfl w0.heap.size 24 4 32 (.agg #[.int .i64 0, .int .i64 0, .int .i64 0, .int .i64 0]) Try.underlying22 gl_info rfl (by decide) _ _ _ _ rfl HO7.out rfl ⟨by omega, by unfold maxLen; omega, z7⟩ rfl (by simp [Value.oneCell']) ?_; intro A3 c3 w9 hown3 hb3; have HP9 := Lib.hid hown3; have HB9 := Lib.hid (HB7.out.trans hb3); clear hown3 hb3)
                  go_roundw
                  case rel => exact ⟨q + 1 + 1, m + 1, out ++ [⟨y0, y1, y2, y3⟩], A3, c3, by omega, by go_num, Lib.hid (by rw [List.length_append, ← hnm.out]; rfl), rfl, by rw [gCells_append, i64s_append]; exact HP9.out, HB9.out, Lib.hid (hG9.out.symm.trans HT.out)⟩
                  case measure => simp [intOf]; omega
                | true =>
                  have hG9 := Lib.hid (HST.out.1 rfl)
                  go_wp2
                  go_roundw
                  case rel => exact ⟨q + 1 + 1, m, out, B, d, by omega, by go_num, hnm, rfl, HO7.out, HB7.out, Lib.hid (hG9.out.symm.trans HT.out)⟩
                  case measure => simp [intOf]; omega
              · have g4 : (kp == 4) = false := by rw [beq_eq_false_iff_ne]; exact h4
                by_cases h5 : kn = 4
                · have hE : testB cur (q + 1) = true := by rw [hE, decide_eq_true h5]; simp
                  have g5 : (kn == 4) = true := by rw [beq_iff_eq]; exact h5
                  clear h4 h5
                  have HST := Lib.hid (leftT_step cur out (q + 1) hpl)
                  rw [hE] at HST
                  have CB := Lib.hid (fun w => gblank_any cur[q + 1] w)
                  obtain ⟨ad9, hA9, hab9, t0, t1, t2, t3⟩ := HK.out wr HB.out (q + 1) hpl
                  injection hA9 with hA9
                  subst hA9
                  have HT9 := Lib.hid (fun w hw => HK.out w hw (q + 1) hpl)
                  unfold glV at CB
                  generalize cur[q + 1] = y at *
                  obtain ⟨y0, y1, y2, y3⟩ := y
                  simp only at t0 t1 t2 t3 CB HT9
                  go_wp2_with fail
                  refine (CB.out _).mono ?_
                  rintro e w7 ⟨rfl, b7⟩
                  have HO7 := Lib.hid (own_below HO.out b7 (Nat.le_refl _))
                  have HB7 := Lib.hid (HB.out.trans (Below.mono b7 HB.out.size))
                  clear b7 t0 t1 t2 t3
                  obtain ⟨ad9, hA9, hab9', v0, v1, v2, v3⟩ := HT9.out w7 HB7.out
                  injection hA9 with hA9
                  subst hA9
                  have z7 := HB7.out.size
                  generalize isB (⟨y0, y1, y2, y3⟩ : Gl) = bb at *
                  cases bb with
                  | false =>
                    have hG9 := Lib.hid (HST.out.2 rfl)
                    go_wp2_with (at_builtin; refine wpList_new rfl (.tmp 135) (.tmp 140) _ rfl w0.heap.size 24 4 32 (.agg #[.int .i64 0, .int .i64 0, .int .i64 0, .int .i64 0]) Try.underlying22 gl_info rfl (by decide) _ _ _ _ rfl HO7.out rfl ⟨by omega, by unfold maxLen; omega, z7⟩ rfl (by simp [Value.oneCell']) ?_; intro A3 c3 w9 hown3 hb3; have HP9 := Lib.hid hown3; have HB9 := Lib.hid (HB7.out.trans hb3); clear hown3 hb3)
                    go_roundw
                    case rel => exact ⟨q + 1 + 1, m + 1, out ++ [⟨y0, y1, y2, y3⟩], A3, c3, by omega, by go_num, Lib.hid (by rw [List.length_append, ← hnm.out]; rfl), rfl, by rw [gCells_append, i64s_append]; exact HP9.out, HB9.out, Lib.hid (hG9.out.symm.trans HT.out)⟩
                    case measure => simp [intOf]; omega
                  | true =>
                    have hG9 := Lib.hid (HST.out.1 rfl)
                    go_wp2
                    go_roundw
                    case rel => exact ⟨q + 1 + 1, m, out, B, d, by omega, by go_num, hnm, rfl, HO7.out, HB7.out, Lib.hid (hG9.out.symm.trans HT.out)⟩
                    case measure => simp [intOf]; omega
                · have hE : testB cur (q + 1) = false := by rw [hE, decide_eq_false h4, decide_eq_false h5]; rfl
                  have g5 : (kn == 4) = false := by rw [beq_eq_false_iff_ne]; exact h5
                  clear h4 h5
                  have HST := Lib.hid (leftT_step cur out (q + 1) hpl)
                  rw [hE] at HST
                  have CB := Lib.hid (fun w => gblank_any cur[q + 1] w)
                  obtain ⟨ad9, hA9, hab9, t0, t1, t2, t3⟩ := HK.out wr HB.out (q + 1) hpl
                  injection hA9 with hA9
                  subst hA9
                  have HT9 := Lib.hid (fun w hw => HK.out w hw (q + 1) hpl)
                  unfold glV at CB
                  generalize cur[q + 1] = y at *
                  obtain ⟨y0, y1, y2, y3⟩ := y
                  simp only at t0 t1 t2 t3 CB HT9
                  go_wp2_with fail
                  refine (CB.out _).mono ?_
                  rintro e w7 ⟨rfl, b7⟩
                  have HO7 := Lib.hid (own_below HO.out b7 (Nat.le_refl _))
                  have HB7 := Lib.hid (HB.out.trans (Below.mono b7 HB.out.size))
                  clear b7 t0 t1 t2 t3
                  obtain ⟨ad9, hA9, hab9', v0, v1, v2, v3⟩ := HT9.out w7 HB7.out
                  injection hA9 with hA9
                  subst hA9
                  have z7 := HB7.out.size
                  generalize isB (⟨y0, y1, y2, y3⟩ : Gl) = bb at *
                  cases bb with
                  | false =>
                    have hG9 := Lib.hid (HST.out.2 rfl)
                    go_wp2_with (at_builtin; refine wpList_new rfl (.tmp 135) (.tmp 140) _ rfl w0.heap.size 24 4 32 (.agg #[.int .i64 0, .int .i64 0, .int .i64 0, .int .i64 0]) Try.underlying22 gl_info rfl (by decide) _ _ _ _ rfl HO7.out rfl ⟨by omega, by unfold maxLen; omega, z7⟩ rfl (by simp [Value.oneCell']) ?_; intro A3 c3 w9 hown3 hb3; have HP9 := Lib.hid hown3; have HB9 := Lib.hid (HB7.out.trans hb3); clear hown3 hb3)
                    go_roundw
                    case rel => exact ⟨q + 1 + 1, m + 1, out ++ [⟨y0, y1, y2, y3⟩], A3, c3, by omega, by go_num, Lib.hid (by rw [List.length_append, ← hnm.out]; rfl), rfl, by rw [gCells_append, i64s_append]; exact HP9.out, HB9.out, Lib.hid (hG9.out.symm.trans HT.out)⟩
                    case measure => simp [intOf]; omega
                  | true =>
                    have hG9 := Lib.hid (HST.out.2 rfl)
                    go_wp2_with (at_builtin; refine wpList_new rfl (.tmp 135) (.tmp 140) _ rfl w0.heap.size 24 4 32 (.agg #[.int .i64 0, .int .i64 0, .int .i64 0, .int .i64 0]) Try.underlying22 gl_info rfl (by decide) _ _ _ _ rfl HO7.out rfl ⟨by omega, by unfold maxLen; omega, z7⟩ rfl (by simp [Value.oneCell']) ?_; intro A3 c3 w9 hown3 hb3; have HP9 := Lib.hid hown3; have HB9 := Lib.hid (HB7.out.trans hb3); clear hown3 hb3)
                    go_roundw
                    case rel => exact ⟨q + 1 + 1, m + 1, out ++ [⟨y0, y1, y2, y3⟩], A3, c3, by omega, by go_num, Lib.hid (by rw [List.length_append, ← hnm.out]; rfl), rfl, by rw [gCells_append, i64s_append]; exact HP9.out, HB9.out, Lib.hid (hG9.out.symm.trans HT.out)⟩
                    case measure => simp [intOf]; omega
        · have hpe : p = cur.length := by omega
          have hF : out = F := by have := HT.out; rw [hpe, leftT_end] at this; exact this
          subst hF
          have HNM := hnm.out
          go_wp2
          go_ret
          exact ⟨B, d, by rw [← HNM]; rfl, by rw [← HNM]; exact own_base HO.out (by have := HLo.out.size; omega), HLo.out.trans (HB.out.mono (by have := HLo.out.size; omega))⟩
end Go.Proofs.Ytmlnpphblicghaa
