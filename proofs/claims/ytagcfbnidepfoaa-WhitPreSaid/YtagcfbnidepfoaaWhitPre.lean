import Derived.Test.YtagcfbnidepfoaaRunRow
/- WhitPre answers true. -/
namespace Go.Proofs.Ytagcfbnidepfoaa
open Go Go.RowKit
set_option linter.unusedVariables false
set_option linter.unusedSimpArgs false
set_option maxRecDepth 20000
set_option maxHeartbeats 8000000

def moreB (n : Int) (k : Nat) : Bool := n / 2 ^ (k % 16) % 2 == 1
theorem one_row {w : World} {s : ByteArray} {wh : Int} {g : Nat} (h : w.heap[g]? = some (.cells #[.int .i64 0, .string s, .int .i64 wh, .int .i64 0] 31 (0, 0))) : rnT [⟨0, s, wh, 0⟩] (.slice (some ⟨g, 0, none⟩) 1 1) w := by
  have hW : Whole w g 31 (rCells [⟨0, s, wh, 0⟩]) := h
  exact ⟨_, 1, rfl, fun _ => ⟨_, rfl, hW.size, fun i hi => by rw [head_add, hW.cell i]; exact List.getElem?_eq_getElem hi⟩⟩
theorem whitPre_any (zs : List Int) (hl : zs.length = 256) (l : List Int) (A : Option Addr) (c : Nat) (n : Int) (W : World) (hR : Row W W.heap.size A (i64s l)) (hn : l.length ≤ 9223372036854775807) :
    Calls Try.prog 7 #[.agg (i64s zs).toArray, .slice A l.length c, .int .i64 n] W fun e w' => e = .returned (.bool true) ∧ Below W.heap.size W w' := by
  have HL := Lib.hid hl
  have HR := Lib.hid hR
  have YL := Lib.hid (tameM_length zs true hl)
  have TA := Lib.hid (tame_any zs hl true)
  have RS := runsL_size l
  have RU := Lib.hid (fun (w : World) (hb : Below W.heap.size W w) => runs_any l A c w ((HR.out.below hb).more hb.size) hn)
  have M0 := Lib.hid (Whole.mk W 24 (i64s zs).toArray)
  have HB0 := Lib.hid ((Below.refl W.heap.size W).alloc (Nat.le_refl _) (.cells (i64s zs).toArray 24))
  have z0 := M0.out.size
  have a15 : ∀ k : Nat, bits .and .i64 (k : Int) 15 = ((k % 16 : Nat) : Int) := fun k => by rw [show bits .and .i64 (k : Int) 15 = (k : Int) % 16 from and_mask_i64 _ 4 (by decide)]; omega
  have a1 : ∀ x : Int, bits .and .i64 x 1 = x % 2 := fun x => and_mask_i64 x 1 (by decide)
  clear hl hR
  generalize tameM zs true = ys at *
  generalize runsL l = rs at *
  obtain ⟨hlen, hsz⟩ := RS
  go_enter Try.func7, Try.ntmps7
  go_wp2_with (first | (refine flat_load met_flat (.tmp 3) rfl rfl W.heap.size rfl zs HL.out 24 ?_ ?_; (focus (exact M0.out))))
  refine (TA.out _).mono ?_
  rintro e w1 ⟨rfl, b1⟩
  have M1 := Lib.hid (M0.out.under b1 z0)
  have HB1 := Lib.hid (HB0.out.trans (b1.mono (by omega)))
  have z1 := M1.out.size
  clear b1 M0 HB0 TA z0
  go_wp2_with (first
    | (refine flat_store met_flat (.tmp 3) (.tmp 17) rfl rfl W.heap.size rfl ys YL.out rfl 24 zs ?_ HL.out ?_; (focus (exact M1.out)); intro w2 h2 o2; have M2 := Lib.hid h2; have HB2 := Lib.hid (HB1.out.trans (o2.below (by simp) (by omega))); clear h2 o2 M1 HB1 z1))
  refine (RU.out _ HB2.out).mono ?_
  rintro e w3 ⟨A1, c1, rfl, ho, hb⟩
  have z2 := M2.out.size
  have M3 := Lib.hid (M2.out.under hb z2)
  have HB3 := Lib.hid (HB2.out.trans (hb.mono (by omega)))
  have R3 := Lib.hid (row_of_own ho)
  have z3 := M3.out.size
  clear ho hb M2 HB2 RU z2
  go_wp2
  go_loop [7, 9] (fun s i => ∃ k : Nat, k ≤ rs.length ∧ i = .int .i64 k ∧ s = .string (catS rs k)) (fun _ i => rs.length - (intOf i).toNat)
  case atStart => exact ⟨0, Nat.zero_le _, rfl, rfl⟩
  case round =>
    obtain ⟨k, hk, rfl, rfl⟩ := hrel
    have hcz := catS_size rs k hk
    have htk := sizeAll_take rs k
    by_cases hlt : k < rs.length
    · have hki : (k : Int) < rs.length := by omega
      obtain ⟨ad, rfl, hab, r0, r1, r2, r3⟩ := R3.out.rn hlt
      have hx := text_le rs k hlt
      have HC : Hid (catS rs (k + 1) = catS rs k ++ rs[k].text) := Lib.hid (by simp [catS, List.getElem?_eq_getElem hlt])
      generalize rs[k].text = s at *
      generalize catS rs k = t at *
      have hs1 : (t ++ s).size ≤ 2000 := by rw [ByteArray.size_append]; omega
      go_wp2
      go_round
      case rel => exact ⟨k + 1, by omega, by go_num, by rw [HC.out]⟩
      case measure => simp [intOf]; omega
    · have hki : ¬ (k : Int) < rs.length := by omega
      have hs4 : (catS rs k).size ≤ 432 := by omega
      generalize catS rs k = s at *
      clear hcz htk
      go_wp2_with (first | (refine flat_load met_flat (.tmp 3) rfl rfl W.heap.size rfl ys YL.out 24 ?_ ?_; (focus (exact M3.out))))
      have hp := glyphs_told ys YL.out [⟨0, s, 2, 0⟩] (by simp) (by simp [sizeAll]; omega) _ (w3.alloc (.cells #[.int .i64 0, .string s, .int .i64 2, .int .i64 0] 31)) (one_row (heap_alloc_new w3 _))
      have hpl := glyphsL_pre ys ⟨0, s, 2, 0⟩ rfl
      refine hp.mono ?_
      rintro e w4 ⟨v4, rfl, b4, A4, c4, rfl, r4⟩
      simp only at hpl
      rw [hpl]
      have hb4 : Below (w3.alloc (.cells #[.int .i64 0, .string s, .int .i64 2, .int .i64 0] 31)).heap.size _ w4 := b4
      have M4 := Lib.hid ((M3.out.made (.cells #[.int .i64 0, .string s, .int .i64 2, .int .i64 0] 31)).under hb4 (by simp; omega))
      have HB4 := Lib.hid ((HB3.out.alloc HB3.out.size (.cells #[.int .i64 0, .string s, .int .i64 2, .int .i64 0] 31)).trans (hb4.mono (by simp; omega)))
      have z4 := M4.out.size
      clear hp hpl r4 b4 hb4 M3 HB3 z3
      go_wp2
      go_loop [11, 12] (fun m i => ∃ (j : Nat) (t : ByteArray), j ≤ s.size ∧ i = .int .i64 j ∧ m = .string t ∧ Hid (bytesOf t = moreL (moreB n) 0 ((bytesOf s).take j))) (fun _ i => s.size - (intOf i).toNat)
      case atStart => exact ⟨0, ⟨#[]⟩, Nat.zero_le _, rfl, rfl, Lib.hid rfl⟩
      case round =>
        obtain ⟨j, t, hj, rfl, rfl, HT⟩ := hrel
        have htl := moreL_length (moreB n) ((bytesOf s).take j) 0
        rw [← HT.out, bytesOf_length, List.length_take, bytesOf_length] at htl
        by_cases hjl : j < s.size
        · have hji : (j : Int) < s.size := by omega
          have HS := Lib.hid (moreL_snoc (moreB n) s[j] ((bytesOf s).take j) 0)
          have HTK := Lib.hid (show (bytesOf s).take (j + 1) = (bytesOf s).take j ++ [s[j]] by rw [List.take_succ_eq_append_getElem (by rw [bytesOf_length]; exact hjl), bytesOf_get s j hjl])
          have hlj : ((bytesOf s).take j).length = j := by rw [List.length_take, bytesOf_length]; omega
          rw [hlj, Nat.zero_add] at HS
          have hs1 : (t ++ s.extract j (j + 1)).size ≤ 2000 := by rw [ByteArray.size_append, ByteArray.size_extract]; omega
          have hs2 : (t ++ s.extract j (j + 1) ++ ⟨#[32, 10, 9]⟩).size ≤ 2000 := by rw [ByteArray.size_append, ByteArray.size_append, ByteArray.size_extract]; have : (⟨#[32, 10, 9]⟩ : ByteArray).size = 3 := rfl; omega
          have HB1 := Lib.hid (bytesOf_one s j hjl)
          by_cases h32 : (s[j].toNat : Int) = 32
          · have g32 : ((s[j].toNat : Int) == 32) = true := by rw [beq_iff_eq]; exact h32
            cases hq : moreB n j with
            | true =>
              have gq : (n / 2 ^ (j % 16) % 2 == 1) = true := hq
              have HN := Lib.hid (show bytesOf (t ++ s.extract j (j + 1) ++ ⟨#[32, 10, 9]⟩) = moreL (moreB n) 0 ((bytesOf s).take (j + 1)) by
                rw [HTK.out, HS.out, if_pos ⟨h32, hq⟩, bytesOf_append, bytesOf_append, HB1.out, HT.out, List.append_assoc]; rfl)
              clear h32 HS hq
              go_wp2
              go_round
              case rel => exact ⟨j + 1, _, by omega, by go_num, rfl, HN⟩
              case measure => simp [intOf]; omega
            | false =>
              have gq : (n / 2 ^ (j % 16) % 2 == 1) = false := hq
              have HN := Lib.hid (show bytesOf (t ++ s.extract j (j + 1)) = moreL (moreB n) 0 ((bytesOf s).take (j + 1)) by
                rw [HTK.out, HS.out, if_neg (fun h => by rw [hq] at h; exact absurd h.2 (by decide)), bytesOf_append, HB1.out, HT.out])
              clear h32 HS hq
              go_wp2
              go_round
              case rel => exact ⟨j + 1, _, by omega, by go_num, rfl, HN⟩
              case measure => simp [intOf]; omega
          · have g32 : ((s[j].toNat : Int) == 32) = false := by rw [beq_eq_false_iff_ne]; exact h32
            have HN := Lib.hid (show bytesOf (t ++ s.extract j (j + 1)) = moreL (moreB n) 0 ((bytesOf s).take (j + 1)) by
              rw [HTK.out, HS.out, if_neg (fun h => h32 h.1), bytesOf_append, HB1.out, HT.out])
            clear h32 HS
            go_wp2
            go_round
            case rel => exact ⟨j + 1, _, by omega, by go_num, rfl, HN⟩
            case measure => simp [intOf]; omega
        · have hji : ¬ (j : Int) < s.size := by omega
          have HM := Lib.hid (show bytesOf t = moreL (moreB n) 0 (bytesOf s) by rw [HT.out, List.take_of_length_le (by rw [bytesOf_length]; omega)])
          have ht9 : t.size ≤ 2000 := by omega
          have HE := Lib.hid (glyphsL_more ys (moreB n) ⟨0, s, 0, 0⟩ ⟨0, t, 0, 0⟩ rfl rfl HM.out)
          have C1 := Lib.hid (glyphs_told ys YL.out [⟨0, s, 0, 0⟩] (by simp) (by simp [sizeAll]; omega))
          have C2 := Lib.hid (glyphs_told ys YL.out [⟨0, t, 0, 0⟩] (by simp) (by simp [sizeAll]; omega))
          have hl1 := glyphsL_length ys [⟨0, s, 0, 0⟩]
          have hs9 : sizeAll [⟨0, s, 0, 0⟩] = s.size := by simp [sizeAll]
          generalize glyphsL ys [⟨0, s, 0, 0⟩] = L1 at *
          generalize glyphsL ys [⟨0, t, 0, 0⟩] = L2 at *
          obtain ⟨hL, hP⟩ := plain_at HE.out
          have HP := Lib.hid hP
          have hL1 : L1.length ≤ 1000 := by omega
          clear HE hP HM HT htl hl1 hs9
          go_upto_region 18 with fail
          refine region_lane [] [0, 1, 2, 3, 4, 5, 6, 7, 8, 9] [10, 11] (by kernel_rfl) (by kernel_rfl) (fun _ _ _ _ _ h => h) ?_
          simp only [pick, List.map_nil]
          refine wpQuiet_nil ⟨rfl, ?_⟩
          simp only [List.map_cons, List.map_nil, List.getD_cons_zero, List.getD_cons_succ, List.drop_succ_cons, List.drop_zero]
          refine laneO_fixed (v := .agg (i64s ys).toArray) (by kernel_rfl) (fun w hw => .inl ⟨by rfl, flat_gives met_flat (.tmp 3) rfl W.heap.size rfl ys YL.out 24 (M4.out.under hw z4)⟩) ?_
          simp only [Act.put, List.setIfInBounds_toArray, List.set_cons_zero, List.set_cons_succ]
          refine laneO_run 1 (by kernel_rfl) ?_
          simp only [List.take_succ_cons, List.take_zero, List.drop_succ_cons, List.drop_zero]
          repeat (go_big_quiet_step (fail))
          refine wpQuiet_nil ?_
          refine laneO_fixed (v := .agg #[.int .i64 0, .string s, .int .i64 0, .int .i64 0]) (by kernel_rfl) (fun w hw => .inl ⟨by rfl, ?_⟩) ?_
          · unfold gives
            simp [go_sem]
            exact Behind.refl w
          simp only [Act.put, List.setIfInBounds_toArray, List.set_cons_zero, List.set_cons_succ]
          refine laneO_told (madeT 1 31 [.int .i64 0, .string s, .int .i64 0, .int .i64 0]) (madeT_steady _ _ _) (by kernel_rfl) rfl (fun w hw => .inl ⟨by rfl, ?_⟩) ?_
          · unfold gives
            simp [go_sem]
            exact madeT_new 1 31 #[.int .i64 0, .string s, .int .i64 0, .int .i64 0] w
          refine laneO_callT (glT L1) (glT_steady _) rfl rfl (by rfl) (by rfl) Try.func10 (by kernel_rfl) rfl (fun a' w hw hm => ?_) ?_
          · have h71 := hm 71 (by simp)
            have h74 := hm 74 (by simp)
            have e1 : a'.eval (.tmp 71) = .agg (i64s ys).toArray := h71
            obtain ⟨gq, e2, hq⟩ := h74
            have e3 : a'.eval (.tmp 74) = .slice (some ⟨gq, 0, none⟩) 1 1 := e2
            simp only [List.map_toArray, List.map_cons, List.map_nil, e1, e3]
            exact C1.out _ w (one_row hq)
          refine laneO_fixed (v := .agg (i64s ys).toArray) (by kernel_rfl) (fun w hw => .inl ⟨by rfl, flat_gives met_flat (.tmp 3) rfl W.heap.size rfl ys YL.out 24 (M4.out.under hw z4)⟩) ?_
          simp only [Act.put, List.setIfInBounds_toArray, List.set_cons_zero, List.set_cons_succ]
          refine laneO_run 1 (by kernel_rfl) ?_
          simp only [List.take_succ_cons, List.take_zero, List.drop_succ_cons, List.drop_zero]
          repeat (go_big_quiet_step (fail))
          refine wpQuiet_nil ?_
          refine laneO_fixed (v := .agg #[.int .i64 0, .string t, .int .i64 0, .int .i64 0]) (by kernel_rfl) (fun w hw => .inl ⟨by rfl, ?_⟩) ?_
          · unfold gives
            simp [go_sem]
            exact Behind.refl w
          simp only [Act.put, List.setIfInBounds_toArray, List.set_cons_zero, List.set_cons_succ]
          refine laneO_told (madeT 1 31 [.int .i64 0, .string t, .int .i64 0, .int .i64 0]) (madeT_steady _ _ _) (by kernel_rfl) rfl (fun w hw => .inl ⟨by rfl, ?_⟩) ?_
          · unfold gives
            simp [go_sem]
            exact madeT_new 1 31 #[.int .i64 0, .string t, .int .i64 0, .int .i64 0] w
          refine laneO_callT (glT L2) (glT_steady _) rfl rfl (by rfl) (by rfl) Try.func10 (by kernel_rfl) rfl (fun a' w hw hm => ?_) ?_
          · have h76 := hm 76 (by simp)
            have h79 := hm 79 (by simp)
            have e1 : a'.eval (.tmp 76) = .agg (i64s ys).toArray := h76
            obtain ⟨gq, e2, hq⟩ := h79
            have e3 : a'.eval (.tmp 79) = .slice (some ⟨gq, 0, none⟩) 1 1 := e2
            simp only [List.map_toArray, List.map_cons, List.map_nil, e1, e3]
            exact C2.out _ w (one_row hq)
          refine laneO_end (by simp) rfl rfl rfl fun w5 hb0 => ?_
          rintro x4 ⟨A6, c6, rfl, RB⟩ x3 - x2 ⟨A5, c5, rfl, RA⟩ x1 -
          simp only [Act.put, List.setIfInBounds_toArray, List.set_cons_zero, List.set_cons_succ, fillAll]
          have HB5 := Lib.hid (HB4.out.trans (Below.mono hb0 (by omega)))
          have HRA := Lib.hid RA
          have HRB := Lib.hid RB
          have z5 := HB5.out.size
          rw [hL]
          obtain ⟨n1, hn1⟩ : ∃ m, m = L1.length := ⟨_, rfl⟩
          rw [← hn1]
          have HN1 := Lib.hid hn1
          have HL2 := Lib.hid hL
          have hn1k : n1 ≤ 1000 := by omega
          clear hb0 RA RB C1 C2 hL hn1 M4 HB4 z4
          go_wp2
          go_loopw [15] (fun i wr => ∃ q : Nat, q ≤ n1 ∧ i = .int .i64 q ∧ Below w5.heap.size w5 wr) (fun i _ => n1 - (intOf i).toNat)
          case atStart => exact ⟨0, Nat.zero_le _, rfl, Below.refl _ _⟩
          case round =>
            obtain ⟨q, hq, rfl, hB⟩ := hrel
            have HB := Lib.hid hB
            have zB := hB.size
            by_cases hql : q < n1
            · have hqi : (q : Int) < n1 := by omega
              have hqa : q < L1.length := by rw [← HN1.out]; exact hql
              have hqb : q < L2.length := by rw [HL2.out]; exact hqa
              obtain ⟨e1, e2⟩ := HP.out q hqa hqb
              obtain ⟨ad, rfl, hab, r0, r1, r2, r3⟩ := (HRA.out.below hB).gl hqa
              obtain ⟨ad', rfl, hab', p0, p1, p2, p3⟩ := (HRB.out.below hB).gl hqb
              rw [e1] at p0
              rw [e2] at p3
              generalize L1[q].kind = g0 at *
              generalize L1[q].adv = g3 at *
              clear hB r1 r2 p1 p2 e1 e2
              go_upto_region 24 with fail
              go_quiet (fail)
              go_wp2
              go_roundw
              case rel => exact ⟨q + 1, by omega, by go_num, Below.drewN' HB.out nq⟩
              case measure => simp [intOf]; omega
            · have hqi : ¬ (q : Int) < n1 := by omega
              go_wp2_with fail
              refine (wawake_any _).mono ?_
              rintro e w9 ⟨rfl, b9⟩
              have HB9 := Lib.hid (HB5.out.trans ((HB.out.trans (b9.mono zB)).mono z5))
              clear b9 hB
              go_wp2
              go_ret
              exact ⟨rfl, HB9.out⟩
end Go.Proofs.Ytagcfbnidepfoaa
