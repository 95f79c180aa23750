import Derived.Test.YtmlnpphblicghaaRowAppQ
import Derived.Test.YtmlnpphblicghaaRowPartQ
import Derived.Test.YtmlnpphblicghaaWhitCQ
import Derived.Test.YtmlnpphblicghaaBrkLinesQ
/- row.Place answers placeZ. -/
namespace Go.Proofs.Ytmlnpphblicghaa
open Go Go.RowKit
set_option linter.unusedVariables false
set_option linter.unusedSimpArgs false
set_option maxRecDepth 20000
set_option maxHeartbeats 4000000

theorem set_nil (Aq : Option Addr) (cq ln : Nat) (X b : Int) (W : World) :
    Calls Try.prog 43 #[.slice Aq 0 cq, .int .i64 ln, .int .i64 X, .int .i64 b] W fun e w' => e = .returned (.tuple #[]) ∧ W = w' := by
  go_enter Try.func43, Try.ntmps43
  go_wp2
  go_loopw [12] (fun v12 wr => v12 = .int .i64 0 ∧ wr = W) (fun _ _ => 0)
  case atStart => exact ⟨rfl, rfl⟩
  case round =>
    obtain ⟨rfl, rfl⟩ := hrel
    go_wp2
    exact bodyPost_end (v := .tuple #[]) (results_none (by kernel_rfl) _ _ _) rfl ⟨rfl, rfl⟩
theorem high_nil (u : Int) (A : Option Addr) (c : Nat) (W : World) :
    Calls Try.prog 41 #[.int .i64 u, .slice A 0 c] W fun e w' => e = .returned (.int .i64 u) ∧ Below W.heap.size W w' :=
  high_any u [] A c W (Row.nil _ _ _) (by simp)
/-- 'set' over what a line has put behind others. -/
def SetPost (B0 : Nat) (A : Option Addr) (m c : Nat) (L : List Pc) (W : World) (e : Ending) (w' : World) : Prop :=
  e = .returned (.tuple #[]) ∧ w'.ownsRow B0 56 8 (.slice A m c) m (L.flatMap pcC) ∧ Below B0 W w'
theorem place_any (zs : List Int) (hz : zs.length = 256) (rs : List Rn) (A : Option Addr) (c : Nat) (avail line align : Int) (ha : -2199023255552 ≤ avail ∧ avail ≤ 2199023255552) (W : World) (hR : Row W W.heap.size A (rCells rs)) (hn : rs.length ≤ 1000) (hsz : sizeAll rs ≤ 100000) :
    Calls Try.prog 26 #[.agg (i64s zs).toArray, .slice A rs.length c, .int .i64 avail, .int .i64 line, .int .i64 align] W (PlacePost (placeZ zs rs avail line align).1 (placeZ zs rs avail line align).2 W) := by
  have HL := Lib.hid hz
  have M0 := Lib.hid (Whole.mk W 37 (i64s zs).toArray)
  have HB0 := Lib.hid ((Below.refl W.heap.size W).alloc (Nat.le_refl _) (.cells (i64s zs).toArray 37))
  have RR0 := Lib.hid ((hR.below HB0.out).more HB0.out.size)
  have GL := Lib.hid (fun (w : World) (hR : Row w w.heap.size A (rCells rs)) => glyphs_any zs hz rs A c w hR (by omega) hsz)
  unfold GlyphPost at GL
  have NG := Lib.hid (glyphs_fine zs rs hsz)
  have GR := Lib.hid (glyphs_run zs rs)
  have GA := Lib.hid (glyphs_at zs rs hsz)
  have hlen := glyphsL_length zs rs
  have hPZ : Hid (placeZ zs rs avail line align = ((placeL rs (glyphsL zs rs) avail (lineZ line) align 0 0 (linesI avail (glyphsL zs rs) 0)).1.map (pcOf rs (glyphsL zs rs)), (placeL rs (glyphsL zs rs) avail (lineZ line) align 0 0 (linesI avail (glyphsL zs rs) 0)).2)) := Lib.hid (by rw [linesI_zero]; rfl)
  clear hz hR
  generalize placeZ zs rs avail line align = PZ at *
  generalize glyphsL zs rs = g at *
  have hgl : g.length ≤ 100000 := by omega
  clear hlen
  go_enter Try.func26, Try.ntmps26
  go_wp2_with (first | (refine flat_load met_flat (.tmp 5) rfl rfl W.heap.size rfl zs HL.out 37 ?_ ?_; (focus (exact M0.out))))
  refine (GL.out _ RR0.out).mono ?_
  rintro e w1 ⟨A1, c1, rfl, ho1, hb1⟩
  have B1 := Lib.hid (HB0.out.trans (hb1.mono HB0.out.size))
  have RR1 := Lib.hid ((RR0.out.below hb1).more hb1.size)
  have RG1 := Lib.hid (row_of_own ho1)
  have hc1 : g.length ≤ c1 ∧ c1 ≤ maxLen := by
    obtain ⟨A', c', hv, h1, h2, -⟩ := owns_nil ho1
    injection hv with _ _ e
    subst e
    exact ⟨h1, h2⟩
  have HC1 := Lib.hid hc1
  clear hc1
  clear ho1 hb1 M0 HB0 RR0 GL HL
  have LA := Lib.hid (fun (w : World) (hR : Row w w.heap.size A1 (i64s (gCells g))) => lines_any g NG.out A1 c1 avail (by unfold I64; omega) w hR)
  unfold LinePost at LA
  have L0 := Lib.hid (linesI_zero avail g)
  have hLl := linesI_length avail g g.length 0 (by omega)
  rw [L0.out] at hLl
  generalize linesL avail g = L at *
  go_wp2_with fail
  refine (LA.out _ RG1.out).mono ?_
  rintro e w2 ⟨A2, c2, rfl, ho2, hb2⟩
  have B2 := Lib.hid (B1.out.trans (hb2.mono B1.out.size))
  have RR := Lib.hid ((RR1.out.below hb2).more hb2.size)
  have RG := Lib.hid ((RG1.out.below hb2).more hb2.size)
  have RL := Lib.hid (row_of_own ho2)
  clear ho2 hb2 B1 RR1 RG1 LA
  have LZ := Lib.hid (fun w => cline_any line w)
  have hst := lineZ_bd line
  generalize lineZ line = st at *
  go_wp2
  go_loopw [12, 13, 26] (fun v12 v13 v26 wr => ∃ (A3 : Option Addr) (m c3 n i : Nat) (y : Int) (cur : List Pc), v12 = .slice A3 m c3 ∧ v13 = .int .i64 y ∧ v26 = .int .i64 n ∧ n ≤ L.length ∧ m ≤ i ∧ i ≤ g.length + 1 ∧ 0 ≤ y ∧ y ≤ 2147483648 * (n : Int) ∧
    Hid (L.drop n = linesI avail g i) ∧ Hid (m = cur.length) ∧ Hid (wr.ownsRow w2.heap.size 56 8 (.slice A3 m c3) m (cur.flatMap pcC)) ∧ Hid (Below w2.heap.size w2 wr) ∧
    Hid (cur ++ (placeL rs g avail st align n y (linesI avail g i)).1.map (pcOf rs g) = PZ.1 ∧ (placeL rs g avail st align n y (linesI avail g i)).2 = PZ.2)) (fun _ _ v26 _ => L.length - (intOf v26).toNat)
  case atStart => exact ⟨none, 0, 0, 0, 0, 0, [], rfl, rfl, rfl, Nat.zero_le _, Nat.le_refl _, by omega, Int.le_refl _, by omega, Lib.hid (by rw [L0.out]; rfl), Lib.hid rfl, Lib.hid (World.ownsRow_nil _ _ _ _), Lib.hid (Below.refl _ _), Lib.hid (by rw [hPZ.out]; exact ⟨rfl, rfl⟩)⟩
  case round =>
    clear L0 hPZ
    obtain ⟨A3, m, c3, n, i, y, cur, rfl, rfl, rfl, hn, hmi, hi, hy0, hy, HD, HM, HO, HB, HP⟩ := hrel
    by_cases hlt : n < L.length
    · have hli : (n : Int) < L.length := by omega
      obtain ⟨t0, w0, hik, hLn0, hla0, hnext0⟩ := lines_next HD.out hlt
      obtain ⟨t, w, H, hla, hit, htl, hLI, hH, hH0, hH1, hp1, hp2⟩ := place_line rs g avail st align hst i n y hik
      have hD := HD.out
      rw [List.drop_eq_getElem_cons hlt, hLI] at hD
      obtain ⟨hLn, hnext⟩ := List.cons.inj hD
      clear t0 w0 hLn0 hla0 hnext0 hD
      obtain ⟨adl, rfl, hbl, s0, s1, s2⟩ := (RL.out.below HB.out).span hlt
      rw [hLn] at s0 s1 s2
      simp only at s0 s1 s2
      have hP := HP.out
      rw [hp1, hp2] at hP
      have HP2 := Lib.hid hP
      have hwb := sumT_bd NG.out i t hit htl
      rw [← hla.sum] at hwb
      obtain ⟨hw1, hw2⟩ := hwb
      have hwb2 : -4611686018427387904 ≤ w ∧ w ≤ 4611686018427387904 := by omega
      have hxb : 0 ≤ startX avail w align ∧ startX avail w align ≤ 2305843009213693952 := by unfold startX; split <;> (try split) <;> omega
      have SX := Lib.hid (fun w' => start_any avail w align w' ha hwb2)
      generalize startX avail w align = X0 at *
      have HNX := Lib.hid hnext
      have HHI := Lib.hid hH
      have hpl := partG_length g i t hit htl
      have FP : Hid (FineG (partG g i t)) := Lib.hid (fine_part NG.out i (t - i))
      have hpx := Lib.hid (fun (q : Pc) (hq : q ∈ rawL rs (partG g i t)) => (by
        obtain ⟨j, h1, h2, h3, h4⟩ := rawL_mem rs _ q hq
        obtain ⟨a1, a2⟩ := sumT_bd FP.out 0 j (by omega) h1
        rw [hpl] at h1
        exact ⟨⟨by omega, by omega⟩, h3, h4⟩ : (-9223372036854775808 ≤ q.x + X0 ∧ q.x + X0 < 9223372036854775808) ∧ 0 ≤ q.h ∧ q.h ≤ 1073741824))
      have hrl := rawL_length rs (partG g i t)
      rw [hpl] at hrl
      clear hp1 hp2 hP HP HD hnext hH hLn hLI hla
      have GP : Hid (∀ k (h : k < (partG g i t).length), ∃ r : Nat, r < rs.length ∧ (partG g i t)[k].run = r) := Lib.hid fun k h => by
        rw [hpl] at h
        have := partG_get? g i t k h
        rw [List.getElem?_eq_getElem (by omega), List.getElem?_eq_getElem (by omega)] at this
        rw [Option.some.inj this]
        exact GR.out _ _
      have GQ : Hid (∀ k (h : k < (partG g i t).length), 0 ≤ (partG g i t)[k].at_ ∧ (partG g i t)[k].at_ ≤ 100000) := Lib.hid fun k h => by
        rw [hpl] at h
        have := partG_get? g i t k h
        rw [List.getElem?_eq_getElem (by omega), List.getElem?_eq_getElem (by omega)] at this
        rw [Option.some.inj this]
        exact GA.out _ _
      obtain ⟨adg, hA, hbg, -, -, -, -⟩ := (RG.out.below HB.out).gl hik
      subst hA
      have RP := Lib.hid (fun w' (hb : Below w2.heap.size w2 w') => (row_part (RG.out.below hb) i (t - i) : Row w' w2.heap.size (some (adg.add (i * 4))) (i64s (gCells (partG g i t)))))
      obtain ⟨hc1, hc2⟩ := HC1.out
      unfold maxLen at hc2
      have hic : i < c1 := by omega
      have htc : t ≤ c1 := by omega
      go_upto_region 8 with fail
      have X3 := Lib.hid (Whole.mk wr 28 #[.int .i64 i, .int .i64 t, .int .i64 w])
      have HO3 := Lib.hid (HO.out.alloc (.cells #[.int .i64 i, .int .i64 t, .int .i64 w] 28))
      have HB3 := Lib.hid (HB.out.alloc HB.out.size (.cells #[.int .i64 i, .int .i64 t, .int .i64 w] 28))
      have hne : Hid (∀ x ∈ (Value.slice A3 m c3).ownBlock.toList, x ≠ wr.heap.size) := Lib.hid fun x hx e => by have := owns_lt HO.out (g := x) (by simpa using hx); omega
      clear HO HB s0 s1 s2
      generalize wr.alloc _ = w3 at *
      generalize wr.heap.size = gs at *
      have z3 := HB3.out.size
      have AP := Lib.hid (by
        have h := appPc_any rs (partG g i t) FP.out GP.out GQ.out cur w2.heap.size A3 m c3 (some (adg.add (i * 4))) (c1 - i) A c w3 HM.out z3 (by omega) (RP.out w3 HB3.out) (RR.out.below HB3.out) HO3.out
        rw [hpl] at h
        exact h : Calls Try.prog 40 #[.slice A3 m c3, .slice (some (adg.add (i * 4))) (t - i) (c1 - i), .slice A rs.length c] w3 (AppPost rs (partG g i t) cur w2.heap.size (Value.slice A3 m c3).ownBlock.toList w3))
      clear FP GP GQ
      have x0 := X3.out.cell 0
      have x1 := X3.out.cell 1
      go_wp2_with fail
      refine AP.out.mono ?_
      rintro o w4 ⟨A4, m4, c4, rfl, hm4, hS4⟩
      have HO4 := Lib.hid hS4.own
      have HB4 := Lib.hid (HB3.out.trans (hS4.only.below (fun x hx => (hS4.old x hx).2) z3))
      have X4 := Lib.hid (hS4.only.whole X3.out fun hm => hne.out _ hm rfl)
      have z4 := HB4.out.size
      obtain ⟨R, hR⟩ : ∃ R, rawL rs (partG g i t) = R := ⟨_, rfl⟩
      rw [hR] at HP2 HHI hpx hrl HO4 hm4
      rw [List.length_append, ← HM.out] at hm4
      have HRL : Hid (R.length = m4 - m) := Lib.hid (by omega)
      have hm4c : m4 ≤ c4 := by
        obtain ⟨A', c', hv, h1, h2, -⟩ := owns_nil HO4.out
        injection hv with _ _ e
        subst e
        exact h1
      have hmm4 : m ≤ m4 := by omega
      have hm4i : m4 ≤ t + 1 := by omega
      have hnil : A4 = none → c4 = 0 := by
        obtain ⟨A', c', hv, h1, h2, h3⟩ := owns_nil HO4.out
        injection hv with e1 _ e
        subst e e1
        exact h3
      clear hS4 AP X3 HO3 HB3 hne x0 x1 hR hm4 z3
      -- the rest of the row, as it is cut off
      have HRW := Lib.hid (fun (g4 : Nat) (hA : A4 = some ⟨g4, 0, none⟩) (w' : World) (hb : Below w4.heap.size w4 w') => (by
        have h := (row_of_own (own_below HO4.out hb (Nat.le_refl _)))
        rw [hA] at h
        have h := h.dropped (m * 8)
        rw [rec_drop pcC_len, HM.out, List.drop_left, head_add] at h
        exact h : Row w' w'.heap.size (some ⟨g4, cur.length * 8, none⟩) (R.flatMap pcC)))
      rw [← HM.out] at HRW
      go_upto_region 9 with fail
      have hUB := upZ_bd H hH0
      go_cut [18] from 42 to 47 (fun v wx => v = .int .i64 H ∧ Below w4.heap.size w4 wx)
      case first =>
        rcases Nat.eq_zero_or_pos (m4 - m) with h0 | h0
        · have hH2 : H = st := by
            have := HHI.out
            rw [List.eq_nil_of_length_eq_zero (show R.length = 0 by rw [HRL.out]; exact h0)] at this
            exact this.symm
          have hmm : m4 = m := by omega
          clear HRL HRW hpx HHI
          subst hmm
          subst hH2
          rcases A4 with _ | ad4
          · obtain rfl := hnil rfl
            obtain rfl : m4 = 0 := by omega
            have HG := Lib.hid (fun (w' : World) => high_nil H none 0 w')
            refine region_lane [] [0, 1, 2, 3, 4, 5] [6] (by kernel_rfl) (by kernel_rfl) (fun _ _ _ _ _ h => h) ?_
            simp only [pick, List.map_nil]
            refine wpQuiet_nil ⟨rfl, ?_⟩
            simp only [List.map_cons, List.map_nil, List.getD_cons_zero, List.getD_cons_succ, List.drop_succ_cons, List.drop_zero]
            refine laneO_run 1 (by kernel_rfl) ?_
            simp only [List.take_succ_cons, List.take_zero, List.drop_succ_cons, List.drop_zero]
            repeat (go_big_quiet_step (fail))
            refine wpQuiet_nil ?_
            refine laneO_call (v := .int .i64 H) (by kernel_rfl) (by rfl) (fun C hC h0 => ?_) ?_
            focus (go_big_quiet_op; exact ⟨_, fun w hw => (LZ.out w).mono fun e w' ⟨he, hb⟩ => ⟨he, hb ▸ hw⟩, rfl⟩)
            simp only [Act.put, List.setIfInBounds_toArray, List.set_cons_zero, List.set_cons_succ]
            refine laneO_run 3 (by kernel_rfl) ?_
            simp only [List.take_succ_cons, List.take_zero, List.drop_succ_cons, List.drop_zero]
            repeat (go_big_quiet_step (fail))
            refine wpQuiet_nil ?_
            refine laneO_call (v := .int .i64 H) (by kernel_rfl) (by rfl) (fun C hC h0x => ?_) ?_
            focus (go_big_quiet_op; exact ⟨_, fun w hw => (HG.out w).mono fun e w' ⟨he, hb⟩ => ⟨he, hC _ _ hw hb⟩, rfl⟩)
            simp only [Act.put, List.setIfInBounds_toArray, List.set_cons_zero, List.set_cons_succ]
            refine laneO_end0 rfl rfl fun w9 hb0 => ?_
            go_wp2
            go_meet
            exact ⟨rfl, hb0⟩
          · by_cases hcm : c4 = m4
            · subst hcm
              have HG := Lib.hid (fun (w' : World) => high_nil H (some ad4) 0 w')
              refine region_lane [] [0, 1, 2, 3, 4, 5] [6] (by kernel_rfl) (by kernel_rfl) (fun _ _ _ _ _ h => h) ?_
              simp only [pick, List.map_nil]
              refine wpQuiet_nil ⟨rfl, ?_⟩
              simp only [List.map_cons, List.map_nil, List.getD_cons_zero, List.getD_cons_succ, List.drop_succ_cons, List.drop_zero]
              refine laneO_run 1 (by kernel_rfl) ?_
              simp only [List.take_succ_cons, List.take_zero, List.drop_succ_cons, List.drop_zero]
              repeat (go_big_quiet_step (fail))
              refine wpQuiet_nil ?_
              refine laneO_call (v := .int .i64 H) (by kernel_rfl) (by rfl) (fun C hC h0 => ?_) ?_
              focus (go_big_quiet_op; exact ⟨_, fun w hw => (LZ.out w).mono fun e w' ⟨he, hb⟩ => ⟨he, hb ▸ hw⟩, rfl⟩)
              simp only [Act.put, List.setIfInBounds_toArray, List.set_cons_zero, List.set_cons_succ]
              refine laneO_run 3 (by kernel_rfl) ?_
              simp only [List.take_succ_cons, List.take_zero, List.drop_succ_cons, List.drop_zero]
              repeat (go_big_quiet_step (fail))
              refine wpQuiet_nil ?_
              refine laneO_call (v := .int .i64 H) (by kernel_rfl) (by rfl) (fun C hC h0x => ?_) ?_
              focus (go_big_quiet_op; exact ⟨_, fun w hw => (HG.out w).mono fun e w' ⟨he, hb⟩ => ⟨he, hC _ _ hw hb⟩, rfl⟩)
              simp only [Act.put, List.setIfInBounds_toArray, List.set_cons_zero, List.set_cons_succ]
              refine laneO_end0 rfl rfl fun w9 hb0 => ?_
              go_wp2
              go_meet
              exact ⟨rfl, hb0⟩
            · have HG := Lib.hid (fun (w' : World) => high_nil H (some (ad4.add (m4 * 8))) (c4 - m4) w')
              refine region_lane [] [0, 1, 2, 3, 4, 5] [6] (by kernel_rfl) (by kernel_rfl) (fun _ _ _ _ _ h => h) ?_
              simp only [pick, List.map_nil]
              refine wpQuiet_nil ⟨rfl, ?_⟩
              simp only [List.map_cons, List.map_nil, List.getD_cons_zero, List.getD_cons_succ, List.drop_succ_cons, List.drop_zero]
              refine laneO_run 1 (by kernel_rfl) ?_
              simp only [List.take_succ_cons, List.take_zero, List.drop_succ_cons, List.drop_zero]
              repeat (go_big_quiet_step (fail))
              refine wpQuiet_nil ?_
              refine laneO_call (v := .int .i64 H) (by kernel_rfl) (by rfl) (fun C hC h0 => ?_) ?_
              focus (go_big_quiet_op; exact ⟨_, fun w hw => (LZ.out w).mono fun e w' ⟨he, hb⟩ => ⟨he, hb ▸ hw⟩, rfl⟩)
              simp only [Act.put, List.setIfInBounds_toArray, List.set_cons_zero, List.set_cons_succ]
              refine laneO_run 3 (by kernel_rfl) ?_
              simp only [List.take_succ_cons, List.take_zero, List.drop_succ_cons, List.drop_zero]
              repeat (go_big_quiet_step (fail))
              refine wpQuiet_nil ?_
              refine laneO_call (v := .int .i64 H) (by kernel_rfl) (by rfl) (fun C hC h0x => ?_) ?_
              focus (go_big_quiet_op; exact ⟨_, fun w hw => (HG.out w).mono fun e w' ⟨he, hb⟩ => ⟨he, hC _ _ hw hb⟩, rfl⟩)
              simp only [Act.put, List.setIfInBounds_toArray, List.set_cons_zero, List.set_cons_succ]
              refine laneO_end0 rfl rfl fun w9 hb0 => ?_
              go_wp2
              go_meet
              exact ⟨rfl, hb0⟩
        · obtain ⟨g4, c5, hv, -, -, -⟩ := owns_some HO4.out (by omega)
          injection hv with e1 _ e2
          subst e1 e2
          have hcm : ¬ c4 = m := by omega
          have HG := Lib.hid (fun (w' : World) (hb : Below w4.heap.size w4 w') => (by
            have h := high_any st R (some ⟨g4, m * 8, none⟩) (c4 - m) w' (HRW.out g4 rfl w' hb) (by omega)
            rw [HRL.out, HHI.out] at h
            exact h : Calls Try.prog 41 #[.int .i64 st, .slice (some ⟨g4, m * 8, none⟩) (m4 - m) (c4 - m)] w' fun e w'' => e = .returned (.int .i64 H) ∧ Below w'.heap.size w' w''))
          refine region_lane [] [0, 1, 2, 3, 4, 5] [6] (by kernel_rfl) (by kernel_rfl) (fun _ _ _ _ _ h => h) ?_
          simp only [pick, List.map_nil]
          refine wpQuiet_nil ⟨rfl, ?_⟩
          simp only [List.map_cons, List.map_nil, List.getD_cons_zero, List.getD_cons_succ, List.drop_succ_cons, List.drop_zero]
          refine laneO_run 1 (by kernel_rfl) ?_
          simp only [List.take_succ_cons, List.take_zero, List.drop_succ_cons, List.drop_zero]
          repeat (go_big_quiet_step (fail))
          refine wpQuiet_nil ?_
          refine laneO_call (v := .int .i64 st) (by kernel_rfl) (by rfl) (fun C hC h0 => ?_) ?_
          focus (go_big_quiet_op; exact ⟨_, fun w hw => (LZ.out w).mono fun e w' ⟨he, hb⟩ => ⟨he, hb ▸ hw⟩, rfl⟩)
          simp only [Act.put, List.setIfInBounds_toArray, List.set_cons_zero, List.set_cons_succ]
          refine laneO_run 3 (by kernel_rfl) ?_
          simp only [List.take_succ_cons, List.take_zero, List.drop_succ_cons, List.drop_zero]
          repeat (go_big_quiet_step (fail))
          refine wpQuiet_nil ?_
          refine laneO_call (v := .int .i64 H) (by kernel_rfl) (by rfl) (fun C hC h0x => ?_) ?_
          focus (go_big_quiet_op; exact ⟨_, fun w hw => (HG.out w (h0x w hw)).mono fun e w' ⟨he, hb⟩ => ⟨he, hC _ _ hw hb⟩, rfl⟩)
          simp only [Act.put, List.setIfInBounds_toArray, List.set_cons_zero, List.set_cons_succ]
          refine laneO_end0 rfl rfl fun w9 hb0 => ?_
          go_wp2
          go_meet
          exact ⟨rfl, hb0⟩
      case rest =>
        obtain ⟨rfl, hBc⟩ := hcut
        have HO5 := Lib.hid (own_below HO4.out hBc (Nat.le_refl _))
        have HB5 := Lib.hid (HB4.out.trans (hBc.mono z4))
        have X5 := Lib.hid (X4.out.under hBc X4.out.size)
        have z5 := HB5.out.size
        clear hBc HO4 HB4 X4 HRW HHI z4
        have UP := Lib.hid (fun w' => up_any H w' (by omega) (by omega))
        have zX := X5.out.size
        have hyb : 0 ≤ y + upZ H ∧ y + upZ H ≤ 2305843009213693952 := by omega
        go_upto_region 10 with fail
        go_cut [] from 48 to 61 (fun wx => Hid (wx.ownsRow w2.heap.size 56 8 (.slice A4 m4 c4) m4 ((cur ++ R.map (setP n X0 (y + upZ H))).flatMap pcC)) ∧ Hid (Below w2.heap.size w2 wx))
        case first =>
          have y2 : ∀ q : Later wc.heap.size wc, q.w.cell? ⟨gs, 2, none⟩ = some (.int .i64 w) := fun q => (X5.out.under q.h zX).cell 2
          rcases Nat.eq_zero_or_pos (m4 - m) with h0 | h0
          · have hmm : m4 = m := by omega
            obtain rfl : R = [] := List.eq_nil_of_length_eq_zero (by rw [HRL.out]; exact h0)
            clear HRL hpx
            subst hmm
            have R6 : Hid (∀ wA, Below wc.heap.size wc wA → Hid (wA.ownsRow w2.heap.size 56 8 (.slice A4 m4 c4) m4 ((cur ++ ([] : List Pc).map (setP n X0 (y + upZ H))).flatMap pcC)) ∧ Hid (Below w2.heap.size w2 wA)) := Lib.hid fun wA hb0 => ⟨Lib.hid (by
              have h := own_below HO5.out hb0 (Nat.le_refl _)
              exact h), Lib.hid (HB5.out.trans (hb0.mono z5))⟩
            rcases A4 with _ | ad4
            · obtain rfl := hnil rfl
              obtain rfl : m4 = 0 := by omega
              refine region_lane [] [0, 1, 2, 3, 4, 5, 6, 7, 8, 9, 10, 11, 12] [13] (by kernel_rfl) (by kernel_rfl) (fun _ _ _ _ _ h => h) ?_
              simp only [pick, List.map_nil]
              refine wpQuiet_nil ⟨rfl, ?_⟩
              simp only [List.map_cons, List.map_nil, List.getD_cons_zero, List.getD_cons_succ, List.drop_succ_cons, List.drop_zero]
              refine laneO_run 8 (by kernel_rfl) ?_
              simp only [List.take_succ_cons, List.take_zero, List.drop_succ_cons, List.drop_zero]
              repeat (go_big_quiet_step (fail))
              refine wpQuiet_nil ?_
              refine laneO_call (v := .int .i64 X0) (by kernel_rfl) (by rfl) (fun C hC h0 => ?_) ?_
              focus (go_big_quiet_op; exact ⟨_, fun w hw => (SX.out w).mono fun e w' ⟨he, hb⟩ => ⟨he, hb ▸ hw⟩, rfl⟩)
              simp only [Act.put, List.setIfInBounds_toArray, List.set_cons_zero, List.set_cons_succ]
              refine laneO_run 2 (by kernel_rfl) ?_
              simp only [List.take_succ_cons, List.take_zero, List.drop_succ_cons, List.drop_zero]
              repeat (go_big_quiet_step (fail))
              refine wpQuiet_nil ?_
              refine laneO_call (v := .int .i64 (upZ H)) (by kernel_rfl) (by rfl) (fun C hC h0 => ?_) ?_
              focus (go_big_quiet_op; exact ⟨_, fun w hw => (UP.out w).mono fun e w' ⟨he, hb⟩ => ⟨he, hb ▸ hw⟩, rfl⟩)
              simp only [Act.put, List.setIfInBounds_toArray, List.set_cons_zero, List.set_cons_succ]
              refine laneO_run 1 (by kernel_rfl) ?_
              simp only [List.take_succ_cons, List.take_zero, List.drop_succ_cons, List.drop_zero]
              repeat (go_big_quiet_step (fail))
              refine wpQuiet_nil ?_
              refine laneO_end0 rfl rfl fun wA hb0 => ?_
              have R7 := R6.out wA hb0
              have ST := Lib.hid (fun w' => set_nil (none) (0) n X0 (y + upZ H) w')
              clear R6 hb0
              go_wp2_with fail
              refine (ST.out wA).mono ?_
              rintro o w' ⟨rfl, rfl⟩
              go_wp2
              go_meet
              exact R7
            · by_cases hcm : c4 = m4
              · subst hcm
                refine region_lane [] [0, 1, 2, 3, 4, 5, 6, 7, 8, 9, 10, 11, 12] [13] (by kernel_rfl) (by kernel_rfl) (fun _ _ _ _ _ h => h) ?_
                simp only [pick, List.map_nil]
                refine wpQuiet_nil ⟨rfl, ?_⟩
                simp only [List.map_cons, List.map_nil, List.getD_cons_zero, List.getD_cons_succ, List.drop_succ_cons, List.drop_zero]
                refine laneO_run 8 (by kernel_rfl) ?_
                simp only [List.take_succ_cons, List.take_zero, List.drop_succ_cons, List.drop_zero]
                repeat (go_big_quiet_step (fail))
                refine wpQuiet_nil ?_
                refine laneO_call (v := .int .i64 X0) (by kernel_rfl) (by rfl) (fun C hC h0 => ?_) ?_
                focus (go_big_quiet_op; exact ⟨_, fun w hw => (SX.out w).mono fun e w' ⟨he, hb⟩ => ⟨he, hb ▸ hw⟩, rfl⟩)
                simp only [Act.put, List.setIfInBounds_toArray, List.set_cons_zero, List.set_cons_succ]
                refine laneO_run 2 (by kernel_rfl) ?_
                simp only [List.take_succ_cons, List.take_zero, List.drop_succ_cons, List.drop_zero]
                repeat (go_big_quiet_step (fail))
                refine wpQuiet_nil ?_
                refine laneO_call (v := .int .i64 (upZ H)) (by kernel_rfl) (by rfl) (fun C hC h0 => ?_) ?_
                focus (go_big_quiet_op; exact ⟨_, fun w hw => (UP.out w).mono fun e w' ⟨he, hb⟩ => ⟨he, hb ▸ hw⟩, rfl⟩)
                simp only [Act.put, List.setIfInBounds_toArray, List.set_cons_zero, List.set_cons_succ]
                refine laneO_run 1 (by kernel_rfl) ?_
                simp only [List.take_succ_cons, List.take_zero, List.drop_succ_cons, List.drop_zero]
                repeat (go_big_quiet_step (fail))
                refine wpQuiet_nil ?_
                refine laneO_end0 rfl rfl fun wA hb0 => ?_
                have R7 := R6.out wA hb0
                have ST := Lib.hid (fun w' => set_nil (some ad4) (0) n X0 (y + upZ H) w')
                clear R6 hb0
                go_wp2_with fail
                refine (ST.out wA).mono ?_
                rintro o w' ⟨rfl, rfl⟩
                go_wp2
                go_meet
                exact R7
              · generalize hQ4 : cur ++ ([] : List Pc).map (setP n X0 (y + upZ H)) = Q4 at *
                refine region_lane [] [0, 1, 2, 3, 4, 5, 6, 7, 8, 9, 10, 11, 12] [13] (by kernel_rfl) (by kernel_rfl) (fun _ _ _ _ _ h => h) ?_
                simp only [pick, List.map_nil]
                refine wpQuiet_nil ⟨rfl, ?_⟩
                simp only [List.map_cons, List.map_nil, List.getD_cons_zero, List.getD_cons_succ, List.drop_succ_cons, List.drop_zero]
                refine laneO_run 8 (by kernel_rfl) ?_
                simp only [List.take_succ_cons, List.take_zero, List.drop_succ_cons, List.drop_zero]
                repeat (go_big_quiet_step (fail))
                refine wpQuiet_nil ?_
                refine laneO_call (v := .int .i64 X0) (by kernel_rfl) (by rfl) (fun C hC h0 => ?_) ?_
                focus (go_big_quiet_op; exact ⟨_, fun w hw => (SX.out w).mono fun e w' ⟨he, hb⟩ => ⟨he, hb ▸ hw⟩, rfl⟩)
                simp only [Act.put, List.setIfInBounds_toArray, List.set_cons_zero, List.set_cons_succ]
                refine laneO_run 2 (by kernel_rfl) ?_
                simp only [List.take_succ_cons, List.take_zero, List.drop_succ_cons, List.drop_zero]
                repeat (go_big_quiet_step (fail))
                refine wpQuiet_nil ?_
                refine laneO_call (v := .int .i64 (upZ H)) (by kernel_rfl) (by rfl) (fun C hC h0 => ?_) ?_
                focus (go_big_quiet_op; exact ⟨_, fun w hw => (UP.out w).mono fun e w' ⟨he, hb⟩ => ⟨he, hb ▸ hw⟩, rfl⟩)
                simp only [Act.put, List.setIfInBounds_toArray, List.set_cons_zero, List.set_cons_succ]
                refine laneO_run 1 (by kernel_rfl) ?_
                simp only [List.take_succ_cons, List.take_zero, List.drop_succ_cons, List.drop_zero]
                repeat (go_big_quiet_step (fail))
                refine wpQuiet_nil ?_
                refine laneO_end0 rfl rfl fun wA hb0 => ?_
                have R7 := R6.out wA hb0
                have ST := Lib.hid (fun w' => set_nil (some (ad4.add (m4 * 8))) (c4 - m4) n X0 (y + upZ H) w')
                clear R6 hb0
                go_wp2_with fail
                refine (ST.out wA).mono ?_
                rintro o w' ⟨rfl, rfl⟩
                go_wp2
                go_meet
                exact R7
          · obtain ⟨g4, c5, hv, -, -, -⟩ := owns_some HO5.out (by omega)
            injection hv with e1 _ e2
            subst e1 e2
            have hcm : ¬ c4 = m := by omega
            have hlow := own_low HO5.out g4 rfl
            have ST := Lib.hid (fun (w' : World) (hb : Below wc.heap.size wc w') => (by
              have h := set_any cur R g4 m4 c4 w2.heap.size ⟨g4, m * 8, none⟩ (c4 - m) n X0 (y + upZ H) w' (by rw [HM.out]) (own_below HO5.out hb (Nat.le_refl _)) (fun q hq => (hpx.out q hq).1) (fun q hq => (hpx.out q hq).2) hyb (by omega)
              rw [HRL.out] at h
              exact h : Calls Try.prog 43 #[.slice (some ⟨g4, m * 8, none⟩) (m4 - m) (c4 - m), .int .i64 n, .int .i64 X0, .int .i64 (y + upZ H)] w' fun e w'' => e = .returned (.tuple #[]) ∧ w''.ownsRow w2.heap.size 56 8 (.slice (some ⟨g4, 0, none⟩) m4 c4) m4 ((cur ++ R.map (setP n X0 (y + upZ H))).flatMap pcC) ∧ Only [g4] w' w''))
            refine region_lane [] [0, 1, 2, 3, 4, 5, 6, 7, 8, 9, 10, 11, 12] [13] (by kernel_rfl) (by kernel_rfl) (fun _ _ _ _ _ h => h) ?_
            simp only [pick, List.map_nil]
            refine wpQuiet_nil ⟨rfl, ?_⟩
            simp only [List.map_cons, List.map_nil, List.getD_cons_zero, List.getD_cons_succ, List.drop_succ_cons, List.drop_zero]
            refine laneO_run 8 (by kernel_rfl) ?_
            simp only [List.take_succ_cons, List.take_zero, List.drop_succ_cons, List.drop_zero]
            repeat (go_big_quiet_step (fail))
            refine wpQuiet_nil ?_
            refine laneO_call (v := .int .i64 X0) (by kernel_rfl) (by rfl) (fun C hC h0 => ?_) ?_
            focus (go_big_quiet_op; exact ⟨_, fun w hw => (SX.out w).mono fun e w' ⟨he, hb⟩ => ⟨he, hb ▸ hw⟩, rfl⟩)
            simp only [Act.put, List.setIfInBounds_toArray, List.set_cons_zero, List.set_cons_succ]
            refine laneO_run 2 (by kernel_rfl) ?_
            simp only [List.take_succ_cons, List.take_zero, List.drop_succ_cons, List.drop_zero]
            repeat (go_big_quiet_step (fail))
            refine wpQuiet_nil ?_
            refine laneO_call (v := .int .i64 (upZ H)) (by kernel_rfl) (by rfl) (fun C hC h0 => ?_) ?_
            focus (go_big_quiet_op; exact ⟨_, fun w hw => (UP.out w).mono fun e w' ⟨he, hb⟩ => ⟨he, hb ▸ hw⟩, rfl⟩)
            simp only [Act.put, List.setIfInBounds_toArray, List.set_cons_zero, List.set_cons_succ]
            refine laneO_run 1 (by kernel_rfl) ?_
            simp only [List.take_succ_cons, List.take_zero, List.drop_succ_cons, List.drop_zero]
            repeat (go_big_quiet_step (fail))
            refine wpQuiet_nil ?_
            refine laneO_end0 rfl rfl fun wA hb0 => ?_
            go_wp2_with fail
            refine (ST.out wA hb0).mono ?_
            rintro o w6 ⟨rfl, ho6, hn6⟩
            have H6 := Lib.hid ho6
            have H7 := Lib.hid (HB5.out.trans ((hb0.mono z5).trans (hn6.below (fun x hx => by rw [List.mem_singleton] at hx; subst hx; exact hlow) (Nat.le_trans z5 hb0.size))))
            clear ho6 hn6
            go_wp2
            go_meet
            exact ⟨H6, H7⟩
        case rest =>
          obtain ⟨HO6, HB6⟩ := hcut
          have HP3 : Hid ((cur ++ R.map (setP n X0 (y + upZ H))) ++ (placeL rs g avail st align (n + 1) (y + H) (linesI avail g (t + 1))).1.map (pcOf rs g) = PZ.1 ∧ (placeL rs g avail st align (n + 1) (y + H) (linesI avail g (t + 1))).2 = PZ.2) := Lib.hid (by rw [List.append_assoc]; exact HP2.out)
          have HM3 : Hid (m4 = (cur ++ R.map (setP n X0 (y + upZ H))).length) := Lib.hid (by rw [List.length_append, List.length_map, HRL.out, ← HM.out]; omega)
          have hy2 : y + H ≤ 2147483648 * ((n + 1 : Nat) : Int) := by omega
          generalize cur ++ R.map (setP n X0 (y + upZ H)) = cur2 at *
          clear HP2 HM HO5 HB5 X5
          go_wp2_with fail
          go_roundw
          case rel => exact ⟨A4, m4, c4, n + 1, t + 1, y + H, cur2, rfl, by go_num, by go_num, by omega, by omega, by omega, by omega, hy2, HNX, HM3, HO6, HB6, HP3⟩
          case measure => simp [intOf]; omega
    · have hli : ¬ (n : Int) < L.length := by omega
      have hP := HP.out
      have hD := HD.out
      rw [show n = L.length by omega] at hD
      rw [place_end rs g avail st align i n y (lines_last hD), List.map_nil, List.append_nil] at hP
      obtain ⟨h1, h2⟩ := hP
      have HY := Lib.hid h2
      have HC := Lib.hid h1
      clear h1 h2 hD HD HP
      go_wp2
      refine bodyPost_ret (v := .tuple #[.slice A3 m c3, .int .i64 y]) ?_ rfl ?_
      · simp [results, Try.results26, go_sem]
      · unfold PlacePost
        rw [← HC.out, ← HM.out]
        exact ⟨A3, c3, by rw [← HY.out], own_base HO.out B2.out.size, B2.out.trans (HB.out.mono B2.out.size)⟩
end Go.Proofs.Ytmlnpphblicghaa
