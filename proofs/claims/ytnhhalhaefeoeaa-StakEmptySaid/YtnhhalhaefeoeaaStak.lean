import Derived.Test.YtnhhalhaefeoeaaStkNum
import Derived.Test.YtnhhalhaefeoeaaFold
import Derived.Test.YtnhhalhaefeoeaaLaneC
import Derived.Test.YtnhhalhaefeoeaaRowTold
import Derived.Test.YtnhhalhaefeoeaaMinTwo
import Derived.Test.YtnhhalhaefeoeaaOnly
import Derived.Lib.MinMax
/- stak.Stack's own: next, place, end. -/
namespace Go.Proofs.Ytnhhalhaefeoeaa
open Go Go.RowKit
set_option linter.unusedVariables false
set_option linter.unusedSimpArgs false
set_option maxRecDepth 20000
set_option maxHeartbeats 4000000

def ldC (x : Ld) : List Value := [.int .i64 x.h, .int .i64 x.t.p, .int .i64 x.t.q, .int .i64 x.b.p, .int .i64 x.b.q, .bool x.th]
def skC (s : Sk) : List Value := [.int .i64 (tH s.y), .int .u64 (tL s.y), .int .i64 s.f.p, .int .i64 s.f.q, .bool s.a, .int .i64 s.t.p, .int .i64 s.t.q]
def sdC (x : Sd) : List Value := [.int .i64 x.t.p, .int .i64 x.t.q, .int .i64 x.b.p, .int .i64 x.b.q, .bool x.th, .int .i64 x.h]
theorem ldC_len (x : Ld) : (ldC x).length = 6 := rfl
theorem sum_flat : FlatT Try.prog 41 2 := ⟨⟨_, Try.underlying41, rfl⟩, by kernel_rfl⟩
theorem next_any (s : Sk) (hs : StOk 100 s) (g : Nat) (W : World) (hW : Whole W g 43 (skC s)) :
    Calls Try.prog 19 #[.pointer (some ⟨g, 0, none⟩)] W fun e w' => e = .returned (totV (posS s s.f)) ∧ Below W.heap.size W w' := by
  obtain ⟨y, ⟨p, q⟩, a, ⟨tp, tq⟩⟩ := s
  obtain ⟨b1, b2, b3, b4, -, -, -, -, b5, b6, -⟩ := hs
  simp only at b1 b2 b3 b4 b5 b6
  have HW := Lib.hid hW
  have hz := hW.size
  have R0 := Lib.hid (Whole.mk W 41 #[.int .i64 0, .int .u64 0])
  have B0 := Lib.hid ((Below.refl W.heap.size W).alloc (Nat.le_refl _) (.cells #[.int .i64 0, .int .u64 0] 41))
  have H0 := Lib.hid (hW.made (.cells #[.int .i64 0, .int .u64 0] 41))
  clear hW
  have V := Lib.hid (fun w => fval_any ⟨p, q⟩ (by unfold I64; simp only; omega) (by unfold I64; simp only; omega) (by unfold I64; simp only; omega) w)
  have PL := Lib.hid (fun w => plus_any y (p + q) (by unfold Tot; omega) (by unfold I64; omega) w)
  clear b1 b2 b3 b4 b5 b6
  go_enter Try.func19, Try.ntmps19
  go_upto_region 1 with fail
  generalize W.alloc _ = w1 at *
  have c0 : w1.cell? ⟨g, 0, none⟩ = some (.int .i64 (tH y)) := H0.out.cell 0
  have c1 : w1.cell? ⟨g, 1, none⟩ = some (.int .u64 (tL y)) := H0.out.cell 1
  have c4 : w1.cell? ⟨g, 4, none⟩ = some (.bool a) := H0.out.cell 4
  have f0 := R0.out.free 0
  have f1 := R0.out.free 1
  have e0 := R0.out.cell 0
  have e1 := R0.out.cell 1
  simp only [List.getElem?_cons_zero, List.getElem?_cons_succ] at e0 e1
  have hne : g ≠ W.heap.size := by omega
  cases a
  · clear c0 c1 c4
    have Y0 : ∀ t : Later w1.heap.size w1, t.w.cell? ⟨g, 0, none⟩ = some (.int .i64 (tH y)) := fun t => (H0.out.under t.h H0.out.size).cell 0
    have Y1 : ∀ t : Later w1.heap.size w1, t.w.cell? ⟨g, 1, none⟩ = some (.int .u64 (tL y)) := fun t => (H0.out.under t.h H0.out.size).cell 1
    have Y2 : ∀ t : Later w1.heap.size w1, t.w.cell? ⟨g, 2, none⟩ = some (.int .i64 p) := fun t => (H0.out.under t.h H0.out.size).cell 2
    have Y3 : ∀ t : Later w1.heap.size w1, t.w.cell? ⟨g, 3, none⟩ = some (.int .i64 q) := fun t => (H0.out.under t.h H0.out.size).cell 3
    have Y4 : w1.cell? ⟨g, 4, none⟩ = some (.bool false) := H0.out.cell 4
    go_upto_region 3 with fail
    clear Y4 f0 f1 e0 e1
    refine region_lane [] [0, 1, 2, 3, 4, 5, 6, 7, 8, 9] [10] (by kernel_rfl) (by kernel_rfl) (fun _ _ _ _ _ h => h) ?_
    simp only [pick, List.map_nil]
    refine wpQuiet_nil ⟨rfl, ?_⟩
    simp only [List.map_cons, List.map_nil, List.getD_cons_zero, List.getD_cons_succ, List.drop_succ_cons, List.drop_zero]
    refine laneO_run 8 (by kernel_rfl) ?_
    simp only [List.take_succ_cons, List.take_zero, List.drop_succ_cons, List.drop_zero]
    repeat (go_big_quiet_step (fail))
    refine wpQuiet_nil ?_
    refine laneO_call (v := (.int .i64 (p + q))) (by kernel_rfl) (by rfl) (fun C hC h0 => ?_) ?_
    focus (go_big_quiet_op; exact ⟨_, fun w hw => (V.out w).mono fun e w' ⟨he, hb⟩ => ⟨he, hC _ _ hw hb⟩, rfl⟩)
    simp only [Act.put, List.setIfInBounds_toArray, List.set_cons_zero, List.set_cons_succ]
    refine laneO_call (v := (totV (y + (p + q)))) (by kernel_rfl) (by rfl) (fun C hC h0 => ?_) ?_
    focus (go_big_quiet_op; exact ⟨_, fun w hw => (PL.out w).mono fun e w' ⟨he, hb⟩ => ⟨he, hC _ _ hw hb⟩, rfl⟩)
    simp only [Act.put, List.setIfInBounds_toArray, List.set_cons_zero, List.set_cons_succ]
    refine laneO_end0 rfl rfl fun w2 hb0 => ?_
    have R2 := Lib.hid (R0.out.under hb0 R0.out.size)
    have f0 := R2.out.free 0
    have f1 := R2.out.free 1
    have e0 := R2.out.cell 0
    have e1 := R2.out.cell 1
    simp only [List.getElem?_cons_zero, List.getElem?_cons_succ] at e0 e1
    have B2 := Lib.hid (((B0.out.trans (hb0.mono B0.out.size)).setCell (p := ⟨W.heap.size, 0, none⟩) (by simp) (.int .i64 (tH (y + (p + q))))).setCell (p := ⟨W.heap.size, 1, none⟩) (by simp) (.int .u64 (tL (y + (p + q)))))
    have R := Lib.hid ((R2.out.put 0 (.int .i64 (tH (y + (p + q))))).put 1 (.int .u64 (tL (y + (p + q)))))
    clear Y0 Y1 Y2 Y3 R2
    go_wp2_with fail
    exact cells_end (n := 2) sum_flat rfl W.heap.size rfl [.int .i64 (tH (y + (p + q))), .int .u64 (tL (y + (p + q)))] rfl 41 R.out rfl ⟨rfl, B2.out⟩
  · have R := Lib.hid ((R0.out.put 0 (.int .i64 (tH y))).put 1 (.int .u64 (tL y)))
    have B2 := Lib.hid ((B0.out.setCell (p := ⟨W.heap.size, 0, none⟩) (by simp) (.int .i64 (tH y))).setCell (p := ⟨W.heap.size, 1, none⟩) (by simp) (.int .u64 (tL y)))
    go_wp2_with fail
    exact cells_end (n := 2) sum_flat rfl W.heap.size rfl [.int .i64 (tH y), .int .u64 (tL y)] rfl 41 R.out rfl ⟨rfl, B2.out⟩
/- place -/
theorem fjoin_told (f t : Fd) (hs : Sgn f) {x : Value} {w : World} (h : madeT 2 25 [.int .i64 f.p, .int .i64 f.q, .int .i64 t.p, .int .i64 t.q] x w) :
    Calls Try.prog 18 #[x] w fun e w' => e = .returned (fdV (joinS f t)) ∧ Below w.heap.size w w' := by
  obtain ⟨g, rfl, hg⟩ := h
  have := fjoin_any [f, t] (some ⟨g, 0, none⟩) 2 w (row_told hg) (by simp)
  rwa [foldF_two f t hs] at this
/-- Region 1: the margins that meet so far, with those at the box's top. -/
theorem place_any (s : Sk) (x : Ld) (k : Nat) (hk : k < 99) (hs : StOk k s) (hx : LdOk x) (g : Nat) (p : Addr) (W : World) (hW : Whole W g 43 (skC s)) (hp : p.block < W.heap.size) (hpg : p.block ≠ g)
    (h0 : W.cell? p = some (.int .i64 x.h)) (hc : ∀ j v, 0 < j → (ldC x)[j]? = some v → W.cell? ⟨p.block, p.off + j, none⟩ = some v) :
    Calls Try.prog 14 #[.pointer (some ⟨g, 0, none⟩), .pointer (some p)] W fun e w' => e = .returned (.int .i64 (atZ s x)) ∧ Whole w' g 43 (skC (putS s x)) ∧ Only [g] W w' := by
  obtain ⟨b1, b2, b3, b4, b5, b6, b7, b8, b9, b10, b11⟩ := putS_ok hs hx |>.1
  obtain ⟨a1, a2, a3, a4, a5, a6, a7, a8, a9, a10, a11⟩ := hs
  have HAT := (putS_ok (⟨a1, a2, a3, a4, a5, a6, a7, a8, a9, a10, a11⟩ : StOk k s) hx).2
  have HX := Lib.hid hx
  obtain ⟨y, ⟨fp, fq⟩, a, ⟨tp, tq⟩⟩ := s
  obtain ⟨h, ⟨xp, xq⟩, ⟨bp, bq⟩, th⟩ := x
  have HW := Lib.hid hW
  have H0 := Lib.hid h0
  have HC := Lib.hid hc
  have hz := hW.size
  clear hW h0 hc
  obtain ⟨jp, hjp⟩ : ∃ z, max fp xp = z := ⟨_, rfl⟩
  obtain ⟨jq, hjq⟩ : ∃ z, min fq xq = z := ⟨_, rfl⟩
  have HJ : Hid (joinS ⟨fp, fq⟩ ⟨xp, xq⟩ = ⟨jp, jq⟩) := Lib.hid (by rw [← hjp, ← hjq]; rfl)
  have J1 := Lib.hid (fun (v : Value) (w : World) (h : madeT 2 25 [.int .i64 fp, .int .i64 fq, .int .i64 xp, .int .i64 xq] v w) => fjoin_told ⟨fp, fq⟩ ⟨xp, xq⟩ ⟨a1, a3⟩ h)
  rw [HJ.out] at J1
  have HB : Hid (0 ≤ jp ∧ jp < 4294967296 ∧ jq ≤ 0 ∧ -4294967296 < jq) := Lib.hid (by
    obtain ⟨c1, c2, c3, c4, c5, c6, c7, c8, c9, c10, -⟩ := hx
    simp only at *; omega)
  obtain ⟨at_, hat⟩ : ∃ z, atZ ⟨y, ⟨fp, fq⟩, a, ⟨tp, tq⟩⟩ ⟨h, ⟨xp, xq⟩, ⟨bp, bq⟩, th⟩ = z := ⟨_, rfl⟩
  have HA : Hid (posS ⟨y, ⟨jp, jq⟩, a, ⟨tp, tq⟩⟩ ⟨jp, jq⟩ = at_) := Lib.hid (by rw [← hat]; unfold atZ; rw [HJ.out]; rfl)
  have NX := Lib.hid (fun w (hw : Whole w g 43 (skC ⟨y, ⟨jp, jq⟩, a, ⟨tp, tq⟩⟩)) => next_any ⟨y, ⟨jp, jq⟩, a, ⟨tp, tq⟩⟩ ⟨HB.out.1, HB.out.2.1, HB.out.2.2.1, HB.out.2.2.2, a5, a6, a7, a8, by simp only at a9 ⊢; omega, by simp only at a10 ⊢; omega, a11⟩ g w hw)
  rw [HA.out] at NX
  rw [hat] at HAT ⊢
  have HP : Hid (putS ⟨y, ⟨fp, fq⟩, a, ⟨tp, tq⟩⟩ ⟨h, ⟨xp, xq⟩, ⟨bp, bq⟩, th⟩ = if th then ⟨y, joinS ⟨jp, jq⟩ ⟨bp, bq⟩, a, ⟨tp, tq⟩⟩ else ⟨at_ + h, ⟨bp, bq⟩, false, if a then ⟨jp, jq⟩ else ⟨tp, tq⟩⟩) := Lib.hid (by
    unfold putS; simp only [hat, HJ.out])
  rw [HP.out]
  have HE := Lib.hid HAT
  have HT := Lib.hid (fun w => held_any at_ (by obtain ⟨h1, h2⟩ := HE.out; unfold I64; omega) w)
  have PL := Lib.hid (fun w => plus_any at_ h (by obtain ⟨h1, h2⟩ := HE.out; unfold Tot; omega) (by have := HX.out.h0; have := HX.out.h1; simp only at *; unfold I64; omega) w)
  clear hjp hjq hat HAT a1 a2 a3 a4 a5 a6 a7 a8 a9 a10 a11 b1 b2 b3 b4 b5 b6 b7 b8 b9 b10 b11 hx
  go_enter Try.func14, Try.ntmps14
  go_upto_region 1 with fail
  have Y2 : ∀ t : Later W.heap.size W, t.w.cell? ⟨g, 2, none⟩ = some (.int .i64 fp) := fun t => (HW.out.under t.h hz).cell 2
  have Y3 : ∀ t : Later W.heap.size W, t.w.cell? ⟨g, 3, none⟩ = some (.int .i64 fq) := fun t => (HW.out.under t.h hz).cell 3
  have Z1 : ∀ t : Later W.heap.size W, t.w.cell? ⟨p.block, p.off + 1, none⟩ = some (.int .i64 xp) := fun t => (t.h.cell (p := ⟨p.block, p.off + 1, none⟩) hp).trans (HC.out 1 _ (by decide) rfl)
  have Z2 : ∀ t : Later W.heap.size W, t.w.cell? ⟨p.block, p.off + 2, none⟩ = some (.int .i64 xq) := fun t => (t.h.cell (p := ⟨p.block, p.off + 2, none⟩) hp).trans (HC.out 2 _ (by decide) rfl)
  refine region_lane [] (List.range 13) [13] (by kernel_rfl) (by kernel_rfl) (fun _ _ _ _ _ h => h) ?_
  simp only [pick, List.map_nil]
  refine wpQuiet_nil ⟨rfl, ?_⟩
  rw [show List.range 13 = [0, 1, 2, 3, 4, 5, 6, 7, 8, 9, 10, 11, 12] from rfl]
  simp only [List.map_cons, List.map_nil, List.getD_cons_zero, List.getD_cons_succ, List.drop_succ_cons, List.drop_zero]
  refine laneO_run 9 (by kernel_rfl) ?_
  simp only [List.take_succ_cons, List.take_zero, List.drop_succ_cons, List.drop_zero]
  repeat (go_big_quiet_step (fail))
  refine wpQuiet_nil ?_
  refine laneO_told (madeT 2 25 [.int .i64 fp, .int .i64 fq, .int .i64 xp, .int .i64 xq]) (madeT_steady _ _ _) (by kernel_rfl) rfl (fun w hw => .inl ⟨by rfl, ?_⟩) ?_
  · unfold gives
    simp [go_sem]
    exact madeT_new 2 25 #[.int .i64 fp, .int .i64 fq, .int .i64 xp, .int .i64 xq] w
  refine laneO_useCall (v := (.agg #[.int .i64 jp, .int .i64 jq])) rfl rfl (of_decide_eq_true (by rfl)) rfl (by rfl) (by rfl) rfl Try.func18 (by kernel_rfl) rfl (fun x w hw hx => J1.out x w hx) ?_
  simp only [Act.put, List.setIfInBounds_toArray, List.set_cons_zero, List.set_cons_succ]
  refine laneO_run 2 (by kernel_rfl) ?_
  simp only [List.take_succ_cons, List.take_zero, List.drop_succ_cons, List.drop_zero]
  repeat (go_big_quiet_step (fail))
  refine wpQuiet_nil ?_
  refine laneO_end (by simp) (by rfl) rfl rfl fun w1 hb0 => ?_
  rintro v1 ⟨gv, rfl, -⟩
  simp only [fillAll, Act.put, List.setIfInBounds_toArray, List.set_cons_zero, List.set_cons_succ]
  clear Y2 Y3 Z1 Z2 J1
  have W1 := Lib.hid (HW.out.under hb0 hz)
  have c2 := W1.out.cell 2
  have c3 := W1.out.cell 3
  have f2 := W1.out.free 2
  have f3 := W1.out.free 3
  simp only [skC, List.getElem?_cons_zero, List.getElem?_cons_succ] at c2 c3
  have O1 : Hid (Only [g] W w1) := Lib.hid (Only.of_below hb0)
  have W2 : Hid (Whole ((w1.setCell ⟨g, 2, none⟩ (.int .i64 jp)).setCell ⟨g, 3, none⟩ (.int .i64 jq)) g 43 (skC ⟨y, ⟨jp, jq⟩, a, ⟨tp, tq⟩⟩)) := Lib.hid ((W1.out.put 2 _).put 3 _)
  have O2 : Hid (Only [g] W ((w1.setCell ⟨g, 2, none⟩ (.int .i64 jp)).setCell ⟨g, 3, none⟩ (.int .i64 jq))) := Lib.hid ((O1.out.setCell _ (.inl (by simp)) _).setCell _ (.inl (by simp)) _)
  clear hb0 W1 O1
  go_upto_region 2 with fail
  generalize (w1.setCell _ _).setCell _ _ = w2 at *
  go_wp2_with fail
  refine (NX.out _ W2.out).mono ?_
  rintro e w3 ⟨rfl, hb⟩
  have W3 := Lib.hid (W2.out.under hb W2.out.size)
  have O3 : Hid (Only [g] W w3) := Lib.hid (O2.out.then (Only.of_below hb))
  have N3 := Lib.hid (Whole.mk w3 41 #[.int .i64 (tH at_), .int .u64 (tL at_)])
  have W4 := Lib.hid (W3.out.made (.cells #[.int .i64 (tH at_), .int .u64 (tL at_)] 41))
  have O4 := Lib.hid (O3.out.alloc (.cells #[.int .i64 (tH at_), .int .u64 (tL at_)] 41))
  have hn : g < w3.heap.size := W3.out.size
  have hsz := O3.out.size
  clear hb W2 O2 W3 O3 NX HJ HA HP
  go_upto_region 3 with fail
  generalize w3.alloc _ = w4 at *
  obtain ⟨G, hG⟩ : ∃ G, w3.heap.size = G := ⟨_, rfl⟩
  rw [hG] at N3 hn hsz
  have hgG : G ≠ g := by omega
  have hpG : p.block ≠ G := by omega
  have Q0 := (O4.out.cell hp (by simpa using hpg)).trans H0.out
  have Q3 := (O4.out.cell (p := ⟨p.block, p.off + 3, none⟩) hp (by simpa using hpg)).trans (HC.out 3 _ (by decide) rfl)
  have Q4 := (O4.out.cell (p := ⟨p.block, p.off + 4, none⟩) hp (by simpa using hpg)).trans (HC.out 4 _ (by decide) rfl)
  have Q5 := (O4.out.cell (p := ⟨p.block, p.off + 5, none⟩) hp (by simpa using hpg)).trans (HC.out 5 _ (by decide) rfl)
  have hp4 : p.block < w4.heap.size := by have := O4.out.size; omega
  simp only at Q0 Q3 Q4 Q5
  clear c2 c3 f2 f3 hn hsz H0 HC HW hz
  rw [hG]
  clear hG
  cases th
  · clear HB
    have c4 : w4.cell? ⟨g, 4, none⟩ = some (.bool a) := W4.out.cell 4
    cases a
    · go_upto_region 8 with fail
      clear c4
      have Y0 : ∀ t : Later w4.heap.size w4, t.w.cell? ⟨G, 0, none⟩ = some (.int .i64 (tH at_)) := fun t => (N3.out.under t.h N3.out.size).cell 0
      have Y1 : ∀ t : Later w4.heap.size w4, t.w.cell? ⟨G, 1, none⟩ = some (.int .u64 (tL at_)) := fun t => (N3.out.under t.h N3.out.size).cell 1
      have Z0 : ∀ t : Later w4.heap.size w4, t.w.cell? p = some (.int .i64 h) := fun t => (t.h.cell hp4).trans Q0
      have Z3 : ∀ t : Later w4.heap.size w4, t.w.cell? ⟨p.block, p.off + 3, none⟩ = some (.int .i64 bp) := fun t => (t.h.cell (p := ⟨p.block, p.off + 3, none⟩) hp4).trans Q3
      have Z4 : ∀ t : Later w4.heap.size w4, t.w.cell? ⟨p.block, p.off + 4, none⟩ = some (.int .i64 bq) := fun t => (t.h.cell (p := ⟨p.block, p.off + 4, none⟩) hp4).trans Q4
      clear Q0 Q3 Q4 Q5
      refine region_lane [1, 8, 9, 10] [0, 2, 3, 4, 5, 6, 7, 11] [12, 13, 14, 15, 16, 17] (by kernel_rfl) (by kernel_rfl) (by intro _ _ _ _ _ h; exact h) ?_
      simp only [pick, List.map_cons, List.map_nil, List.getD_cons_zero, List.getD_cons_succ, List.drop_succ_cons, List.drop_zero]
      repeat (go_big_quiet_step (fail))
      refine wpQuiet_nil ⟨rfl, ?_⟩
      refine laneO_run 6 (by kernel_rfl) ?_
      simp only [List.take_succ_cons, List.take_zero, List.drop_succ_cons, List.drop_zero]
      repeat (go_big_quiet_step (fail))
      refine wpQuiet_nil ?_
      refine laneO_call (v := (totV (at_ + h))) (by kernel_rfl) (by rfl) (fun C hC h0 => ?_) ?_
      focus (go_big_quiet_op; exact ⟨_, fun w hw => (PL.out w).mono fun e w' ⟨he, hb⟩ => ⟨he, hC _ _ hw hb⟩, rfl⟩)
      simp only [Act.put, List.setIfInBounds_toArray, List.set_cons_zero, List.set_cons_succ]
      refine laneO_run 1 (by kernel_rfl) ?_
      simp only [List.take_succ_cons, List.take_zero, List.drop_succ_cons, List.drop_zero]
      repeat (go_big_quiet_step (fail))
      refine wpQuiet_nil ?_
      refine laneO_end0 rfl rfl fun w5 hb0 => ?_
      have W5 := Lib.hid (W4.out.under hb0 W4.out.size)
      have N5 := Lib.hid (N3.out.under hb0 N3.out.size)
      have c0 := W5.out.cell 0
      have c1 := W5.out.cell 1
      have c2 := W5.out.cell 2
      have c3 := W5.out.cell 3
      have f0 := W5.out.free 0
      have f1 := W5.out.free 1
      have f2 := W5.out.free 2
      have f3 := W5.out.free 3
      have n0 := N5.out.cell 0
      have n1 := N5.out.cell 1
      simp only [skC, List.getElem?_cons_zero, List.getElem?_cons_succ] at c0 c1 c2 c3 n0 n1
      have W6 : Hid (Whole ((((w5.setCell ⟨g, 0, none⟩ (.int .i64 (tH (at_ + h)))).setCell ⟨g, 1, none⟩ (.int .u64 (tL (at_ + h)))).setCell ⟨g, 2, none⟩ (.int .i64 bp)).setCell ⟨g, 3, none⟩ (.int .i64 bq)) g 43 (skC ⟨at_ + h, ⟨bp, bq⟩, false, ⟨tp, tq⟩⟩)) := Lib.hid ((((W5.out.put 0 _).put 1 _).put 2 _).put 3 _)
      have O6 : Hid (Only [g] W ((((w5.setCell ⟨g, 0, none⟩ (.int .i64 (tH (at_ + h)))).setCell ⟨g, 1, none⟩ (.int .u64 (tL (at_ + h)))).setCell ⟨g, 2, none⟩ (.int .i64 bp)).setCell ⟨g, 3, none⟩ (.int .i64 bq))) := Lib.hid (((((O4.out.then (Only.of_below hb0)).setCell _ (.inl (by simp)) _).setCell _ (.inl (by simp)) _).setCell _ (.inl (by simp)) _).setCell _ (.inl (by simp)) _)
      clear hb0 W5 N5 W4 O4 N3 Y0 Y1 Z0 Z3 Z4
      go_upto_region 9 with fail
      go_wp2_with fail
      refine (HT.out _).mono ?_
      rintro e w7 ⟨rfl, hb⟩
      have W7 := Lib.hid (W6.out.under hb W6.out.size)
      have O7 : Hid (Only [g] W w7) := Lib.hid (O6.out.then (Only.of_below hb))
      clear hb W6 O6
      go_wp2_with fail
      go_ret
      exact ⟨rfl, W7.out, O7.out⟩
    · have c2 := W4.out.cell 2
      have c3 := W4.out.cell 3
      have c5 := W4.out.cell 5
      have c6 := W4.out.cell 6
      have f4 := W4.out.free 4
      have f5 := W4.out.free 5
      have f6 := W4.out.free 6
      simp only [skC, List.getElem?_cons_zero, List.getElem?_cons_succ] at c2 c3 c5 c6
      have W4' : Hid (Whole (((w4.setCell ⟨g, 5, none⟩ (.int .i64 jp)).setCell ⟨g, 6, none⟩ (.int .i64 jq)).setCell ⟨g, 4, none⟩ (.bool false)) g 43 (skC ⟨y, ⟨jp, jq⟩, false, ⟨jp, jq⟩⟩)) := Lib.hid (((W4.out.put 5 _).put 6 _).put 4 _)
      have O4' : Hid (Only [g] W (((w4.setCell ⟨g, 5, none⟩ (.int .i64 jp)).setCell ⟨g, 6, none⟩ (.int .i64 jq)).setCell ⟨g, 4, none⟩ (.bool false))) := Lib.hid (((O4.out.setCell _ (.inl (by simp)) _).setCell _ (.inl (by simp)) _).setCell _ (.inl (by simp)) _)
      have N3' : Hid (Whole (((w4.setCell ⟨g, 5, none⟩ (.int .i64 jp)).setCell ⟨g, 6, none⟩ (.int .i64 jq)).setCell ⟨g, 4, none⟩ (.bool false)) G 41 [.int .i64 (tH at_), .int .u64 (tL at_)]) := Lib.hid (((N3.out.other (p := ⟨g, 5, none⟩) hgG _).other (p := ⟨g, 6, none⟩) hgG _).other (p := ⟨g, 4, none⟩) hgG _)
      have O44 : Hid (Only [g] w4 (((w4.setCell ⟨g, 5, none⟩ (.int .i64 jp)).setCell ⟨g, 6, none⟩ (.int .i64 jq)).setCell ⟨g, 4, none⟩ (.bool false))) := Lib.hid ((((Only.refl [g] w4).setCell _ (.inl (by simp)) _).setCell _ (.inl (by simp)) _).setCell _ (.inl (by simp)) _)
      have Q0' := (O44.out.cell hp4 (by simpa using hpg)).trans Q0
      have Q3' := (O44.out.cell (p := ⟨p.block, p.off + 3, none⟩) hp4 (by simpa using hpg)).trans Q3
      have Q4' := (O44.out.cell (p := ⟨p.block, p.off + 4, none⟩) hp4 (by simpa using hpg)).trans Q4
      have hp4' : p.block < (((w4.setCell ⟨g, 5, none⟩ (.int .i64 jp)).setCell ⟨g, 6, none⟩ (.int .i64 jq)).setCell ⟨g, 4, none⟩ (.bool false)).heap.size := by have := O44.out.size; omega
      clear W4 O4 N3 O44 Q0 Q3 Q4 hp4
      go_upto_region 8 with fail
      generalize ((w4.setCell _ _).setCell _ _).setCell _ _ = w4' at *
      clear c2 c3 c4 c5 c6 f4 f5 f6
      have Y0 : ∀ t : Later w4'.heap.size w4', t.w.cell? ⟨G, 0, none⟩ = some (.int .i64 (tH at_)) := fun t => (N3'.out.under t.h N3'.out.size).cell 0
      have Y1 : ∀ t : Later w4'.heap.size w4', t.w.cell? ⟨G, 1, none⟩ = some (.int .u64 (tL at_)) := fun t => (N3'.out.under t.h N3'.out.size).cell 1
      have Z0 : ∀ t : Later w4'.heap.size w4', t.w.cell? p = some (.int .i64 h) := fun t => (t.h.cell hp4').trans Q0'
      have Z3 : ∀ t : Later w4'.heap.size w4', t.w.cell? ⟨p.block, p.off + 3, none⟩ = some (.int .i64 bp) := fun t => (t.h.cell (p := ⟨p.block, p.off + 3, none⟩) hp4').trans Q3'
      have Z4 : ∀ t : Later w4'.heap.size w4', t.w.cell? ⟨p.block, p.off + 4, none⟩ = some (.int .i64 bq) := fun t => (t.h.cell (p := ⟨p.block, p.off + 4, none⟩) hp4').trans Q4'
      clear Q0' Q3' Q4' Q5
      refine region_lane [1, 8, 9, 10] [0, 2, 3, 4, 5, 6, 7, 11] [12, 13, 14, 15, 16, 17] (by kernel_rfl) (by kernel_rfl) (by intro _ _ _ _ _ h; exact h) ?_
      simp only [pick, List.map_cons, List.map_nil, List.getD_cons_zero, List.getD_cons_succ, List.drop_succ_cons, List.drop_zero]
      repeat (go_big_quiet_step (fail))
      refine wpQuiet_nil ⟨rfl, ?_⟩
      refine laneO_run 6 (by kernel_rfl) ?_
      simp only [List.take_succ_cons, List.take_zero, List.drop_succ_cons, List.drop_zero]
      repeat (go_big_quiet_step (fail))
      refine wpQuiet_nil ?_
      refine laneO_call (v := (totV (at_ + h))) (by kernel_rfl) (by rfl) (fun C hC h0 => ?_) ?_
      focus (go_big_quiet_op; exact ⟨_, fun w hw => (PL.out w).mono fun e w' ⟨he, hb⟩ => ⟨he, hC _ _ hw hb⟩, rfl⟩)
      simp only [Act.put, List.setIfInBounds_toArray, List.set_cons_zero, List.set_cons_succ]
      refine laneO_run 1 (by kernel_rfl) ?_
      simp only [List.take_succ_cons, List.take_zero, List.drop_succ_cons, List.drop_zero]
      repeat (go_big_quiet_step (fail))
      refine wpQuiet_nil ?_
      refine laneO_end0 rfl rfl fun w5 hb0 => ?_
      have W5 := Lib.hid (W4'.out.under hb0 W4'.out.size)
      have N5 := Lib.hid (N3'.out.under hb0 N3'.out.size)
      have c0 := W5.out.cell 0
      have c1 := W5.out.cell 1
      have c2 := W5.out.cell 2
      have c3 := W5.out.cell 3
      have f0 := W5.out.free 0
      have f1 := W5.out.free 1
      have f2 := W5.out.free 2
      have f3 := W5.out.free 3
      have n0 := N5.out.cell 0
      have n1 := N5.out.cell 1
      simp only [skC, List.getElem?_cons_zero, List.getElem?_cons_succ] at c0 c1 c2 c3 n0 n1
      have W6 : Hid (Whole ((((w5.setCell ⟨g, 0, none⟩ (.int .i64 (tH (at_ + h)))).setCell ⟨g, 1, none⟩ (.int .u64 (tL (at_ + h)))).setCell ⟨g, 2, none⟩ (.int .i64 bp)).setCell ⟨g, 3, none⟩ (.int .i64 bq)) g 43 (skC ⟨at_ + h, ⟨bp, bq⟩, false, ⟨jp, jq⟩⟩)) := Lib.hid ((((W5.out.put 0 _).put 1 _).put 2 _).put 3 _)
      have O6 : Hid (Only [g] W ((((w5.setCell ⟨g, 0, none⟩ (.int .i64 (tH (at_ + h)))).setCell ⟨g, 1, none⟩ (.int .u64 (tL (at_ + h)))).setCell ⟨g, 2, none⟩ (.int .i64 bp)).setCell ⟨g, 3, none⟩ (.int .i64 bq))) := Lib.hid (((((O4'.out.then (Only.of_below hb0)).setCell _ (.inl (by simp)) _).setCell _ (.inl (by simp)) _).setCell _ (.inl (by simp)) _).setCell _ (.inl (by simp)) _)
      clear hb0 W5 N5 W4' O4' N3' Y0 Y1 Z0 Z3 Z4
      go_upto_region 9 with fail
      go_wp2_with fail
      refine (HT.out _).mono ?_
      rintro e w7 ⟨rfl, hb⟩
      have W7 := Lib.hid (W6.out.under hb W6.out.size)
      have O7 : Hid (Only [g] W w7) := Lib.hid (O6.out.then (Only.of_below hb))
      clear hb W6 O6
      go_wp2_with fail
      go_ret
      exact ⟨rfl, W7.out, O7.out⟩
  · have J2 := Lib.hid (fun (v : Value) (w : World) (h : madeT 2 25 [.int .i64 jp, .int .i64 jq, .int .i64 bp, .int .i64 bq] v w) => fjoin_told ⟨jp, jq⟩ ⟨bp, bq⟩ ⟨HB.out.1, HB.out.2.2.1⟩ h)
    obtain ⟨kp, hkp⟩ : ∃ z, max jp bp = z := ⟨_, rfl⟩
    obtain ⟨kq, hkq⟩ : ∃ z, min jq bq = z := ⟨_, rfl⟩
    have HJ : Hid (joinS ⟨jp, jq⟩ ⟨bp, bq⟩ = ⟨kp, kq⟩) := Lib.hid (by rw [← hkp, ← hkq]; rfl)
    rw [HJ.out] at J2
    clear hkp hkq HB
    go_upto_region 4 with fail
    have Y2 : ∀ t : Later w4.heap.size w4, t.w.cell? ⟨g, 2, none⟩ = some (.int .i64 jp) := fun t => (W4.out.under t.h W4.out.size).cell 2
    have Y3 : ∀ t : Later w4.heap.size w4, t.w.cell? ⟨g, 3, none⟩ = some (.int .i64 jq) := fun t => (W4.out.under t.h W4.out.size).cell 3
    have Z1 : ∀ t : Later w4.heap.size w4, t.w.cell? ⟨p.block, p.off + 3, none⟩ = some (.int .i64 bp) := fun t => (t.h.cell (p := ⟨p.block, p.off + 3, none⟩) hp4).trans Q3
    have Z2 : ∀ t : Later w4.heap.size w4, t.w.cell? ⟨p.block, p.off + 4, none⟩ = some (.int .i64 bq) := fun t => (t.h.cell (p := ⟨p.block, p.off + 4, none⟩) hp4).trans Q4
    clear Q0 Q3 Q4 Q5
    refine region_lane [] (List.range 13) [13] (by kernel_rfl) (by kernel_rfl) (fun _ _ _ _ _ h => h) ?_
    simp only [pick, List.map_nil]
    refine wpQuiet_nil ⟨rfl, ?_⟩
    rw [show List.range 13 = [0, 1, 2, 3, 4, 5, 6, 7, 8, 9, 10, 11, 12] from rfl]
    simp only [List.map_cons, List.map_nil, List.getD_cons_zero, List.getD_cons_succ, List.drop_succ_cons, List.drop_zero]
    refine laneO_run 9 (by kernel_rfl) ?_
    simp only [List.take_succ_cons, List.take_zero, List.drop_succ_cons, List.drop_zero]
    repeat (go_big_quiet_step (fail))
    refine wpQuiet_nil ?_
    refine laneO_told (madeT 2 25 [.int .i64 jp, .int .i64 jq, .int .i64 bp, .int .i64 bq]) (madeT_steady _ _ _) (by kernel_rfl) rfl (fun w hw => .inl ⟨by rfl, ?_⟩) ?_
    · unfold gives
      simp [go_sem]
      exact madeT_new 2 25 #[.int .i64 jp, .int .i64 jq, .int .i64 bp, .int .i64 bq] w
    refine laneO_useCall (v := (.agg #[.int .i64 kp, .int .i64 kq])) rfl rfl (of_decide_eq_true (by rfl)) rfl (by rfl) (by rfl) rfl Try.func18 (by kernel_rfl) rfl (fun x w hw hx => J2.out x w hx) ?_
    simp only [Act.put, List.setIfInBounds_toArray, List.set_cons_zero, List.set_cons_succ]
    refine laneO_run 2 (by kernel_rfl) ?_
    simp only [List.take_succ_cons, List.take_zero, List.drop_succ_cons, List.drop_zero]
    repeat (go_big_quiet_step (fail))
    refine wpQuiet_nil ?_
    refine laneO_end (by simp) (by rfl) rfl rfl fun w5 hb0 => ?_
    rintro v2 ⟨gu, rfl, -⟩
    simp only [fillAll, Act.put, List.setIfInBounds_toArray, List.set_cons_zero, List.set_cons_succ]
    clear Y2 Y3 Z1 Z2 J2
    have W5 := Lib.hid (W4.out.under hb0 W4.out.size)
    have N5 := Lib.hid (N3.out.under hb0 N3.out.size)
    have c2 := W5.out.cell 2
    have c3 := W5.out.cell 3
    have f2 := W5.out.free 2
    have f3 := W5.out.free 3
    have n0 := N5.out.cell 0
    have n1 := N5.out.cell 1
    simp only [skC, List.getElem?_cons_zero, List.getElem?_cons_succ] at c2 c3 n0 n1
    have W6 : Hid (Whole ((w5.setCell ⟨g, 2, none⟩ (.int .i64 kp)).setCell ⟨g, 3, none⟩ (.int .i64 kq)) g 43 (skC ⟨y, ⟨kp, kq⟩, a, ⟨tp, tq⟩⟩)) := Lib.hid ((W5.out.put 2 _).put 3 _)
    have O6 : Hid (Only [g] W ((w5.setCell ⟨g, 2, none⟩ (.int .i64 kp)).setCell ⟨g, 3, none⟩ (.int .i64 kq))) := Lib.hid (((O4.out.then (Only.of_below hb0)).setCell _ (.inl (by simp)) _).setCell _ (.inl (by simp)) _)
    clear hb0 W5 N5 W4 O4 N3
    go_wp2_with fail
    refine (HT.out _).mono ?_
    rintro e w7 ⟨rfl, hb⟩
    have W7 := Lib.hid (W6.out.under hb W6.out.size)
    have O7 : Hid (Only [g] W w7) := Lib.hid (O6.out.then (Only.of_below hb))
    clear hb W6 O6
    go_wp2_with fail
    go_ret
    exact ⟨rfl, by have h := W7.out; rw [← HJ.out] at h; exact h, O7.out⟩

abbrev sdV (x : Sd) : Value := .agg #[.int .i64 x.t.p, .int .i64 x.t.q, .int .i64 x.b.p, .int .i64 x.b.q, .bool x.th, .int .i64 x.h]
theorem sd_flat : FlatT Try.prog 31 6 := ⟨⟨_, Try.underlying31, rfl⟩, by kernel_rfl⟩
theorem end_any (s : Sk) (b : Bool) (hs : StOk 90 s) (g : Nat) (W : World) (hW : Whole W g 43 (skC s)) :
    Calls Try.prog 15 #[.pointer (some ⟨g, 0, none⟩), .bool b] W fun e w' => e = .returned (sdV (endS s b)) ∧ Below W.heap.size W w' := by
  have HN := Lib.hid (fun w (hw : Whole w g 43 (skC s)) => next_any s ⟨hs.fp, hs.fP, hs.fq, hs.fQ, hs.tp, hs.tP, hs.tq, hs.tQ, by have := hs.yl; omega, by have := hs.yh; omega, hs.top⟩ g w hw)
  have HI : Hid (I64 s.y ∧ I64 (posS s s.f)) := Lib.hid (by
    obtain ⟨c1, c2, c3, c4, -, -, -, -, c5, c6, -⟩ := hs
    unfold I64 posS; split <;> omega)
  clear hs
  obtain ⟨y, ⟨p, q⟩, a, ⟨tp, tq⟩⟩ := s
  simp only at HN HI
  have HW := Lib.hid hW
  have hz := hW.size
  have R0 := Lib.hid (Whole.mk W 31 #[.int .i64 0, .int .i64 0, .int .i64 0, .int .i64 0, .bool false, .int .i64 0])
  have B0 := Lib.hid ((Below.refl W.heap.size W).alloc (Nat.le_refl _) (.cells #[.int .i64 0, .int .i64 0, .int .i64 0, .int .i64 0, .bool false, .int .i64 0] 31))
  have H0 := Lib.hid (hW.made (.cells #[.int .i64 0, .int .i64 0, .int .i64 0, .int .i64 0, .bool false, .int .i64 0] 31))
  clear hW HW
  go_enter Try.func15, Try.ntmps15
  go_upto_region 1 with fail
  generalize W.alloc _ = w1 at *
  have hne : g ≠ W.heap.size := by omega
  have c4 : w1.cell? ⟨g, 4, none⟩ = some (.bool a) := H0.out.cell 4
  cases a
  · have Y0 : ∀ t : Later w1.heap.size w1, t.w.cell? ⟨g, 0, none⟩ = some (.int .i64 (tH y)) := fun t => (H0.out.under t.h H0.out.size).cell 0
    have Y1 : ∀ t : Later w1.heap.size w1, t.w.cell? ⟨g, 1, none⟩ = some (.int .u64 (tL y)) := fun t => (H0.out.under t.h H0.out.size).cell 1
    have Y2 : ∀ t : Later w1.heap.size w1, t.w.cell? ⟨g, 2, none⟩ = some (.int .i64 p) := fun t => (H0.out.under t.h H0.out.size).cell 2
    have Y3 : ∀ t : Later w1.heap.size w1, t.w.cell? ⟨g, 3, none⟩ = some (.int .i64 q) := fun t => (H0.out.under t.h H0.out.size).cell 3
    have Y5 : ∀ t : Later w1.heap.size w1, t.w.cell? ⟨g, 5, none⟩ = some (.int .i64 tp) := fun t => (H0.out.under t.h H0.out.size).cell 5
    have Y6 : ∀ t : Later w1.heap.size w1, t.w.cell? ⟨g, 6, none⟩ = some (.int .i64 tq) := fun t => (H0.out.under t.h H0.out.size).cell 6
    have HT := Lib.hid (fun w => held_any y HI.out.1 w)
    have HQ := Lib.hid (fun w => held_any (y + (p + q)) HI.out.2 w)
    have NX := Lib.hid (fun w (hb : Behind w1 w) => HN.out w (H0.out.under hb H0.out.size))
    rw [show posS ⟨y, ⟨p, q⟩, false, ⟨tp, tq⟩⟩ ⟨p, q⟩ = y + (p + q) from rfl] at NX
    clear HN HI
    cases b
    · go_upto_region 5 with fail
      clear c4 Y0 Y1 Y2 Y3 HT
      refine region_lane [] [0, 1, 2, 3, 4, 5, 6, 7, 8] [9] (by kernel_rfl) (by kernel_rfl) (fun _ _ _ _ _ h => h) ?_
      simp only [pick, List.map_nil]
      refine wpQuiet_nil ⟨rfl, ?_⟩
      simp only [List.map_cons, List.map_nil, List.getD_cons_zero, List.getD_cons_succ, List.drop_succ_cons, List.drop_zero]
      refine laneO_run 5 (by kernel_rfl) ?_
      simp only [List.take_succ_cons, List.take_zero, List.drop_succ_cons, List.drop_zero]
      repeat (go_big_quiet_step (fail))
      refine wpQuiet_nil ?_
      refine laneO_call (v := (totV (y + (p + q)))) (by kernel_rfl) (by rfl) (fun C hC h0 => ?_) ?_
      focus (go_big_quiet_op; exact ⟨_, fun w hw => (NX.out w (h0 _ hw)).mono fun e w' ⟨he, hb⟩ => ⟨he, hC _ _ hw hb⟩, rfl⟩)
      simp only [Act.put, List.setIfInBounds_toArray, List.set_cons_zero, List.set_cons_succ]
      refine laneO_call (v := (.int .i64 (y + (p + q)))) (by kernel_rfl) (by rfl) (fun C hC h0 => ?_) ?_
      focus (go_big_quiet_op; exact ⟨_, fun w hw => (HQ.out w).mono fun e w' ⟨he, hb⟩ => ⟨he, hC _ _ hw hb⟩, rfl⟩)
      simp only [Act.put, List.setIfInBounds_toArray, List.set_cons_zero, List.set_cons_succ]
      refine laneO_fixed (v := .int .i64 (max (y + (p + q)) 0)) (by kernel_rfl) (fun w hw => .inl ⟨by rfl, ?_⟩) ?_
      focus (unfold gives; simp [go_sem, run_max_two]; exact Behind.refl w)
      simp only [Act.put, List.setIfInBounds_toArray, List.set_cons_zero, List.set_cons_succ]
      refine laneO_fixed (v := .agg #[.int .i64 tp, .int .i64 tq, .int .i64 0, .int .i64 0, .bool false, .int .i64 (max (y + (p + q)) 0)]) (by kernel_rfl) (fun w hw => .inl ⟨by rfl, built_gives _ _ rfl _ (by kernel_rfl)⟩) ?_
      simp only [Act.put, List.setIfInBounds_toArray, List.set_cons_zero, List.set_cons_succ]
      refine laneO_end0 rfl rfl fun w2 hb0 => ?_
      have R2 := Lib.hid (R0.out.under hb0 R0.out.size)
      have B2 := Lib.hid (B0.out.trans (hb0.mono B0.out.size))
      clear hb0 R0 B0 H0 NX HQ Y5 Y6
      have f0 := R2.out.free 0
      have f1 := R2.out.free 1
      have f2 := R2.out.free 2
      have f3 := R2.out.free 3
      have f4 := R2.out.free 4
      have f5 := R2.out.free 5
      have e0 := R2.out.cell 0
      have e1 := R2.out.cell 1
      have e2 := R2.out.cell 2
      have e3 := R2.out.cell 3
      have e4 := R2.out.cell 4
      have e5 := R2.out.cell 5
      simp only [List.getElem?_cons_zero, List.getElem?_cons_succ] at e0 e1 e2 e3 e4 e5
      have R3 := Lib.hid ((((((R2.out.put 0 (.int .i64 tp)).put 1 (.int .i64 tq)).put 2 (.int .i64 0)).put 3 (.int .i64 0)).put 4 (.bool false)).put 5 (.int .i64 (max (y + (p + q)) 0)))
      have B3 := Lib.hid ((((((B2.out.setCell (p := ⟨W.heap.size, 0, none⟩) (by simp) (.int .i64 tp)).setCell (p := ⟨W.heap.size, 1, none⟩) (by simp) (.int .i64 tq)).setCell (p := ⟨W.heap.size, 2, none⟩) (by simp) (.int .i64 0)).setCell (p := ⟨W.heap.size, 3, none⟩) (by simp) (.int .i64 0)).setCell (p := ⟨W.heap.size, 4, none⟩) (by simp) (.bool false)).setCell (p := ⟨W.heap.size, 5, none⟩) (by simp) (.int .i64 (max (y + (p + q)) 0)))
      clear R2 B2
      go_wp2_with fail
      exact cells_end (n := 6) sd_flat rfl W.heap.size rfl [.int .i64 tp, .int .i64 tq, .int .i64 0, .int .i64 0, .bool false, .int .i64 (max (y + (p + q)) 0)] rfl 31 R3.out rfl ⟨rfl, B3.out⟩
    · go_upto_region 4 with fail
      clear c4 NX HQ
      refine region_lane [] (List.range 15) [15] (by kernel_rfl) (by kernel_rfl) (fun _ _ _ _ _ h => h) ?_
      simp only [pick, List.map_nil]
      refine wpQuiet_nil ⟨rfl, ?_⟩
      rw [show List.range 15 = [0, 1, 2, 3, 4, 5, 6, 7, 8, 9, 10, 11, 12, 13, 14] from rfl]
      simp only [List.map_cons, List.map_nil, List.getD_cons_zero, List.getD_cons_succ, List.drop_succ_cons, List.drop_zero]
      refine laneO_run 12 (by kernel_rfl) ?_
      simp only [List.take_succ_cons, List.take_zero, List.drop_succ_cons, List.drop_zero]
      repeat (go_big_quiet_step (fail))
      refine wpQuiet_nil ?_
      refine laneO_call (v := (.int .i64 y)) (by kernel_rfl) (by rfl) (fun C hC h0 => ?_) ?_
      focus (go_big_quiet_op; exact ⟨_, fun w hw => (HT.out w).mono fun e w' ⟨he, hb⟩ => ⟨he, hC _ _ hw hb⟩, rfl⟩)
      simp only [Act.put, List.setIfInBounds_toArray, List.set_cons_zero, List.set_cons_succ]
      refine laneO_fixed (v := .int .i64 (max y 0)) (by kernel_rfl) (fun w hw => .inl ⟨by rfl, ?_⟩) ?_
      focus (unfold gives; simp [go_sem, run_max_two]; exact Behind.refl w)
      simp only [Act.put, List.setIfInBounds_toArray, List.set_cons_zero, List.set_cons_succ]
      refine laneO_fixed (v := .agg #[.int .i64 tp, .int .i64 tq, .int .i64 p, .int .i64 q, .bool false, .int .i64 (max y 0)]) (by kernel_rfl) (fun w hw => .inl ⟨by rfl, built_gives _ _ rfl _ (by kernel_rfl)⟩) ?_
      simp only [Act.put, List.setIfInBounds_toArray, List.set_cons_zero, List.set_cons_succ]
      refine laneO_end0 rfl rfl fun w2 hb0 => ?_
      have R2 := Lib.hid (R0.out.under hb0 R0.out.size)
      have B2 := Lib.hid (B0.out.trans (hb0.mono B0.out.size))
      clear hb0 R0 B0 H0 HT Y0 Y1 Y2 Y3 Y5 Y6
      have f0 := R2.out.free 0
      have f1 := R2.out.free 1
      have f2 := R2.out.free 2
      have f3 := R2.out.free 3
      have f4 := R2.out.free 4
      have f5 := R2.out.free 5
      have e0 := R2.out.cell 0
      have e1 := R2.out.cell 1
      have e2 := R2.out.cell 2
      have e3 := R2.out.cell 3
      have e4 := R2.out.cell 4
      have e5 := R2.out.cell 5
      simp only [List.getElem?_cons_zero, List.getElem?_cons_succ] at e0 e1 e2 e3 e4 e5
      have R3 := Lib.hid ((((((R2.out.put 0 (.int .i64 tp)).put 1 (.int .i64 tq)).put 2 (.int .i64 p)).put 3 (.int .i64 q)).put 4 (.bool false)).put 5 (.int .i64 (max y 0)))
      have B3 := Lib.hid ((((((B2.out.setCell (p := ⟨W.heap.size, 0, none⟩) (by simp) (.int .i64 tp)).setCell (p := ⟨W.heap.size, 1, none⟩) (by simp) (.int .i64 tq)).setCell (p := ⟨W.heap.size, 2, none⟩) (by simp) (.int .i64 p)).setCell (p := ⟨W.heap.size, 3, none⟩) (by simp) (.int .i64 q)).setCell (p := ⟨W.heap.size, 4, none⟩) (by simp) (.bool false)).setCell (p := ⟨W.heap.size, 5, none⟩) (by simp) (.int .i64 (max y 0)))
      clear R2 B2
      go_wp2_with fail
      exact cells_end (n := 6) sd_flat rfl W.heap.size rfl [.int .i64 tp, .int .i64 tq, .int .i64 p, .int .i64 q, .bool false, .int .i64 (max y 0)] rfl 31 R3.out rfl ⟨rfl, B3.out⟩
  · clear HN HI
    have c2 : w1.cell? ⟨g, 2, none⟩ = some (.int .i64 p) := H0.out.cell 2
    have c3 : w1.cell? ⟨g, 3, none⟩ = some (.int .i64 q) := H0.out.cell 3
    have R2 := R0
    have B2 := B0
    clear R0 B0 H0 
    have f0 := R2.out.free 0
    have f1 := R2.out.free 1
    have f2 := R2.out.free 2
    have f3 := R2.out.free 3
    have f4 := R2.out.free 4
    have f5 := R2.out.free 5
    have e0 := R2.out.cell 0
    have e1 := R2.out.cell 1
    have e2 := R2.out.cell 2
    have e3 := R2.out.cell 3
    have e4 := R2.out.cell 4
    have e5 := R2.out.cell 5
    simp only [List.getElem?_cons_zero, List.getElem?_cons_succ] at e0 e1 e2 e3 e4 e5
    have R3 := Lib.hid ((((((R2.out.put 0 (.int .i64 p)).put 1 (.int .i64 q)).put 2 (.int .i64 0)).put 3 (.int .i64 0)).put 4 (.bool b)).put 5 (.int .i64 0))
    have B3 := Lib.hid ((((((B2.out.setCell (p := ⟨W.heap.size, 0, none⟩) (by simp) (.int .i64 p)).setCell (p := ⟨W.heap.size, 1, none⟩) (by simp) (.int .i64 q)).setCell (p := ⟨W.heap.size, 2, none⟩) (by simp) (.int .i64 0)).setCell (p := ⟨W.heap.size, 3, none⟩) (by simp) (.int .i64 0)).setCell (p := ⟨W.heap.size, 4, none⟩) (by simp) (.bool b)).setCell (p := ⟨W.heap.size, 5, none⟩) (by simp) (.int .i64 0))
    clear R2 B2
    go_wp2_with fail
    exact cells_end (n := 6) sd_flat rfl W.heap.size rfl [.int .i64 p, .int .i64 q, .int .i64 0, .int .i64 0, .bool b, .int .i64 0] rfl 31 R3.out rfl ⟨rfl, B3.out⟩
/- stack -/
theorem i64cell_info : (Try.prog.info? 2).map (fun i => (i.zero, i.size, i.bytes)) = some (some (.int .i64 0), 1, 8) := by kernel_rfl
theorem results_tmp_cell {fn : Func} {p u : Tmp} {ty : TypeId} (h : fn.results = #[.tmp u, .cell p ty]) (tmps : Array Value) (P : Program) (w : World) :
    (results fn tmps).run P w =
      ((asAddr (tmps.getD p undef)).run P w).andThen fun a w₁ => ((loadVar ty a).run P w₁).andThen fun v w₂ => .ok (.tuple #[tmps.getD u undef, v]) w₂ := by
  simp only [results, h]
  simp [Sem.run_bind, Result.andThen]
theorem cells_end1 {P : Program} {t : TypeId} {n : Nat} (ht : FlatT P t n) {fn : Func} {p u : Tmp} {R : Ending → World → Prop} {a : Act} {w : World} (hr : fn.results = #[.tmp u, .cell p t]) (g : Nat) (hp : a.tmps.getD p undef = .pointer (some ⟨g, 0, none⟩)) (cs : List Value) (hz : cs.length = n) (t0 : TypeId)
    (hw : Whole w g t0 cs) (hd : a.defers = []) (hR : R (.returned (.tuple #[a.tmps.getD u undef, .agg cs.toArray])) w) : bodyPost P fn R .ret a w := by
  obtain ⟨⟨d, hd', hm⟩, hs⟩ := ht
  have h1 := run_loadVar_row (P := P) w g t0 t cs.toArray (0, 0) d hw hd' (by cases d <;> first | rfl | exact hm) (by rw [hs]; simp [hz])
  exact bodyPost_ret (v := .tuple #[a.tmps.getD u undef, .agg cs.toArray]) (by rw [results_tmp_cell hr, hp]; simp [asAddr, h1, Result.andThen]) hd hR
theorem Row.ld {w : World} {B : Nat} {A : Option Addr} {l : List Ld} (h : Row w B A (l.flatMap ldC)) {i : Nat} (hi : i < l.length) :
    ∃ ad, A = some ad ∧ ad.block < B ∧ w.cell? (ad.add (i * 6)) = some (.int .i64 l[i].h) ∧ ∀ j v, 0 < j → (ldC l[i])[j]? = some v → w.cell? ⟨(ad.add (i * 6)).block, (ad.add (i * 6)).off + j, none⟩ = some v := by
  obtain ⟨ad, e, hb, h0, h1⟩ := h.rc ldC_len (by decide) hi
  exact ⟨ad, e, hb, h0 _ rfl, h1⟩
/-- The row of places so far, with zeros behind. -/
def sofar (s : Sk) (l : List Ld) (k : Nat) : List Value := i64s (atL s (l.take k)) ++ (List.replicate (l.length - k) (Value.int .i64 0))
theorem sofar_set (s : Sk) (l : List Ld) (k : Nat) (h : k < l.length) : (sofar s l k).set k (.int .i64 (atZ (runS s (l.take k)) l[k])) = sofar s l (k + 1) := by
  have hl : (i64s (atL s (l.take k))).length = k := by rw [i64s_length, atL_length, List.length_take]; omega
  unfold sofar
  rw [List.set_append_right _ _ (by omega), hl, Nat.sub_self, show l.length - k = (l.length - (k + 1)) + 1 by omega, List.replicate_succ, List.set_cons_zero, atL_take s l k h]
  simp [i64s]
theorem sofar_all (s : Sk) (l : List Ld) : sofar s l l.length = i64s (atL s l) := by unfold sofar; rw [List.take_length, Nat.sub_self]; simp
theorem stack_any (l : List Ld) (hl : l.length ≤ 80) (hok : ∀ x ∈ l, LdOk x) (A : Option Addr) (c : Nat) (top bottom : Bool) (W : World) (hR : Row W W.heap.size A (l.flatMap ldC)) :
    Calls Try.prog 10 #[.slice A l.length c, .bool top, .bool bottom] W fun e w' => ∃ A' c', e = .returned (.tuple #[.slice A' l.length c', sdV (endS (runS (startS top) l) bottom)]) ∧
      w'.ownsRow W.heap.size 2 1 (.slice A' l.length c') l.length (i64s (atL (startS top) l)) ∧ Below W.heap.size W w' := by
  have HR := Lib.hid hR
  have HOK := Lib.hid hok
  clear hR hok
  obtain ⟨i0, hi, hz0, hz1, hz2⟩ := info_parts i64cell_info
  have R0 : Hid (Whole ((W.alloc (.cells #[.int .i64 0, .int .i64 0, .int .i64 0, .int .i64 0, .bool false, .int .i64 0] 31)).alloc (.cells #[.int .i64 0, .int .u64 0, .int .i64 0, .int .i64 0, .bool top, .int .i64 0, .int .i64 0] 43)) W.heap.size 31 [.int .i64 0, .int .i64 0, .int .i64 0, .int .i64 0, .bool false, .int .i64 0]) := Lib.hid ((Whole.mk W 31 #[.int .i64 0, .int .i64 0, .int .i64 0, .int .i64 0, .bool false, .int .i64 0]).made _)
  have K0 : Hid (Whole ((W.alloc (.cells #[.int .i64 0, .int .i64 0, .int .i64 0, .int .i64 0, .bool false, .int .i64 0] 31)).alloc (.cells #[.int .i64 0, .int .u64 0, .int .i64 0, .int .i64 0, .bool top, .int .i64 0, .int .i64 0] 43)) (W.heap.size + 1) 43 (skC (startS top))) := Lib.hid (by
    have h := Whole.mk (W.alloc (.cells #[.int .i64 0, .int .i64 0, .int .i64 0, .int .i64 0, .bool false, .int .i64 0] 31)) 43 #[.int .i64 0, .int .u64 0, .int .i64 0, .int .i64 0, .bool top, .int .i64 0, .int .i64 0]
    have e : skC (startS top) = [.int .i64 0, .int .u64 0, .int .i64 0, .int .i64 0, .bool top, .int .i64 0, .int .i64 0] := by
      unfold skC startS zF
      rw [show tH 0 = 0 by decide, show tL 0 = 0 by decide]
    rw [e]
    simpa using h)
  have B0 : Hid (Below W.heap.size W ((W.alloc (.cells #[.int .i64 0, .int .i64 0, .int .i64 0, .int .i64 0, .bool false, .int .i64 0] 31)).alloc (.cells #[.int .i64 0, .int .u64 0, .int .i64 0, .int .i64 0, .bool top, .int .i64 0, .int .i64 0] 43))) := Lib.hid (((Below.refl W.heap.size W).alloc (Nat.le_refl _) _).alloc (by simp) _)
  have hs0 : ((W.alloc (.cells #[.int .i64 0, .int .i64 0, .int .i64 0, .int .i64 0, .bool false, .int .i64 0] 31)).alloc (.cells #[.int .i64 0, .int .u64 0, .int .i64 0, .int .i64 0, .bool top, .int .i64 0, .int .i64 0] 43)).heap.size = W.heap.size + 2 := by simp
  go_enter Try.func10, Try.ntmps10
  go_upto_region 2 with fail
  generalize (W.alloc _).alloc _ = w1 at *
  have HS := Lib.hid hs0
  clear hs0
  go_upto_region 3 with (at_make; refine wpList_make_full _ rfl _ _ 29 rfl W.heap.size 2 i0 (.int .i64 0) 1 Try.underlying29 hi hz0 hz1 .i64 .i64 _ _ l.length rfl rfl rfl rfl (by rw [hz2]; omega) (by unfold maxLen; omega) B0.out.size ?_; intro w2 r1 r2; have O2 := Lib.hid r1; have G2 := Lib.hid (Only.of_grown r2); clear r1 r2)
  rw [HS.out] at O2
  rw [HS.out]
  have R2 := Lib.hid (G2.out.whole R0.out (by simp))
  have K2 := Lib.hid (G2.out.whole K0.out (by simp))
  have B2 : Hid (Below W.heap.size W w2) := Lib.hid (B0.out.trans ((G2.out.below (B := W.heap.size) (by simp) B0.out.size)))
  have hc0 : (madeCells (Value.int .i64 0).cells (l.length * 1)).toList = sofar (startS top) l 0 := by
    rw [Nat.mul_one]
    exact toList_madeCells_one _ _
  rw [hc0] at O2
  clear hc0 R0 K0 B0 G2 HS hi hz0 hz1 hz2
  go_upto_region 4 with fail
  go_loopw [10, 18] (fun v10 v18 wr => ∃ k : Nat, k ≤ l.length ∧ v18 = .int .i64 k ∧ Hid (wr.ownsRow W.heap.size 2 1 (.slice (some ⟨W.heap.size + 2, 0, none⟩) l.length l.length) l.length (sofar (startS top) l k)) ∧ Hid (Whole wr W.heap.size 31 [.int .i64 0, .int .i64 0, .int .i64 0, .int .i64 0, .bool false, .int .i64 0]) ∧ Hid (Whole wr (W.heap.size + 1) 43 (skC (runS (startS top) (l.take k)))) ∧ Hid (Below W.heap.size W wr)) (fun _ v18 _ => l.length - (intOf v18).toNat)
  case atStart => exact ⟨0, Nat.zero_le _, rfl, O2, R2, K2, B2⟩
  case round =>
    clear O2 R2 K2 B2
    obtain ⟨k, hk, rfl, O, R, K, B⟩ := hrel
    by_cases hlt : k < l.length
    · have hki : (k : Int) < l.length := by omega
      obtain ⟨ad, rfl, hb, r0, r1⟩ := (HR.out.below B.out).ld hlt
      have PP := Lib.hid (fun (w : World) (hw : Whole w (W.heap.size + 1) 43 (skC (runS (startS top) (l.take k)))) (hp : (ad.add (k * 6)).block < w.heap.size) (h0 : w.cell? (ad.add (k * 6)) = some (.int .i64 l[k].h)) (hc : ∀ j v, 0 < j → (ldC l[k])[j]? = some v → w.cell? ⟨(ad.add (k * 6)).block, (ad.add (k * 6)).off + j, none⟩ = some v) =>
        place_any (runS (startS top) (l.take k)) l[k] k (by omega) (take_ok HOK.out top k hk) (HOK.out _ (List.getElem_mem hlt)) (W.heap.size + 1) (ad.add (k * 6)) w hw hp (by rw [add_block]; omega) h0 hc)
      rw [← runS_take _ l k hlt] at PP
      have ES := Lib.hid (sofar_set (startS top) l k hlt)
      obtain ⟨z, hz⟩ : ∃ z, atZ (runS (startS top) (l.take k)) l[k] = z := ⟨_, rfl⟩
      rw [hz] at PP ES
      clear hz
      have hsz := K.out.size
      have P1 := Lib.hid (PP.out wr K.out (by rw [add_block]; omega) r0 r1)
      clear r0 r1 PP
      go_wp2_with fail
      refine P1.out.mono ?_
      rintro e w4 ⟨rfl, hw, ho⟩
      have K4 := Lib.hid hw
      have O4 := Lib.hid (ho.owns O.out (by intro g hg; simp [Value.ownBlock] at hg; subst hg; simp))
      have R4 := Lib.hid (ho.whole R.out (by simp))
      have B4 := Lib.hid (B.out.trans (ho.below (B := W.heap.size) (by simp) B.out.size))
      clear hw ho P1 K O R B
      have q0 : ∃ v, w4.cell? ⟨W.heap.size + 2, k, none⟩ = some v := by
        have := O4.out.cellAt k (by omega)
        rw [this, List.getElem?_eq_getElem (by have := O4.out.1; omega)]
        exact ⟨_, rfl⟩
      obtain ⟨v0, q0⟩ := q0
      have q1 := O4.out.frozenAt k
      have O5 := Lib.hid (O4.out.stored k (.int .i64 z)).1
      rw [ES.out] at O5
      have R5 := Lib.hid (R4.out.other (p := ⟨W.heap.size + 2, k, none⟩) (by simp) (.int .i64 z))
      have K5 := Lib.hid (K4.out.other (p := ⟨W.heap.size + 2, k, none⟩) (by simp) (.int .i64 z))
      have B5 := Lib.hid (B4.out.setCell (p := ⟨W.heap.size + 2, k, none⟩) (by simp) (.int .i64 z))
      clear R4 K4 B4 O4
      go_wp2_with fail
      go_roundw
      case rel => exact ⟨k + 1, by omega, by go_num, O5, R5, K5, B5⟩
      case measure => simp [intOf]; omega
    · have hq : k = l.length := by omega
      subst hq
      have HE := Lib.hid (fun w (hw : Whole w (W.heap.size + 1) 43 (skC (runS (startS top) (l.take l.length)))) => end_any (runS (startS top) (l.take l.length)) bottom (by
        have h := take_ok HOK.out top l.length (Nat.le_refl _)
        exact ⟨h.fp, h.fP, h.fq, h.fQ, h.tp, h.tP, h.tq, h.tQ, by have := h.yl; omega, by have := h.yh; omega, h.top⟩) (W.heap.size + 1) w hw)
      rw [List.take_length] at HE K
      rw [sofar_all] at O
      obtain ⟨x, hx⟩ : ∃ x, endS (runS (startS top) l) bottom = x := ⟨_, rfl⟩
      have HX := Lib.hid hx
      rw [hx] at HE
      clear hx
      obtain ⟨⟨tp, tq⟩, ⟨bp, bq⟩, th, h⟩ := x
      have E1 := Lib.hid (HE.out wr K.out)
      clear HE K hlt hk
      go_wp2_with fail
      refine E1.out.mono ?_
      rintro e w5 ⟨rfl, hb⟩
      have O5 := Lib.hid (own_below O.out hb (Nat.le_refl _))
      have R5 := Lib.hid (R.out.under hb R.out.size)
      have B5 := Lib.hid (B.out.trans (hb.mono B.out.size))
      clear hb O R B E1
      have f0 := R5.out.free 0
      have f1 := R5.out.free 1
      have f2 := R5.out.free 2
      have f3 := R5.out.free 3
      have f4 := R5.out.free 4
      have f5 := R5.out.free 5
      have e0 := R5.out.cell 0
      have e1 := R5.out.cell 1
      have e2 := R5.out.cell 2
      have e3 := R5.out.cell 3
      have e4 := R5.out.cell 4
      have e5 := R5.out.cell 5
      simp only [List.getElem?_cons_zero, List.getElem?_cons_succ] at e0 e1 e2 e3 e4 e5
      have R6 := Lib.hid ((((((R5.out.put 0 (.int .i64 tp)).put 1 (.int .i64 tq)).put 2 (.int .i64 bp)).put 3 (.int .i64 bq)).put 4 (.bool th)).put 5 (.int .i64 h))
      have B6 := Lib.hid ((((((B5.out.setCell (p := ⟨W.heap.size, 0, none⟩) (by simp) (.int .i64 tp)).setCell (p := ⟨W.heap.size, 1, none⟩) (by simp) (.int .i64 tq)).setCell (p := ⟨W.heap.size, 2, none⟩) (by simp) (.int .i64 bp)).setCell (p := ⟨W.heap.size, 3, none⟩) (by simp) (.int .i64 bq)).setCell (p := ⟨W.heap.size, 4, none⟩) (by simp) (.bool th)).setCell (p := ⟨W.heap.size, 5, none⟩) (by simp) (.int .i64 h))
      have O6 := Lib.hid (ownsRow_setCell_other (ownsRow_setCell_other (ownsRow_setCell_other (ownsRow_setCell_other (ownsRow_setCell_other (ownsRow_setCell_other O5.out (a := ⟨W.heap.size, 0, none⟩) (by simp [Value.ownBlock]) (.int .i64 tp)) (a := ⟨W.heap.size, 1, none⟩) (by simp [Value.ownBlock]) (.int .i64 tq)) (a := ⟨W.heap.size, 2, none⟩) (by simp [Value.ownBlock]) (.int .i64 bp)) (a := ⟨W.heap.size, 3, none⟩) (by simp [Value.ownBlock]) (.int .i64 bq)) (a := ⟨W.heap.size, 4, none⟩) (by simp [Value.ownBlock]) (.bool th)) (a := ⟨W.heap.size, 5, none⟩) (by simp [Value.ownBlock]) (.int .i64 h))
      clear R5 B5 O5
      go_wp2_with fail
      exact cells_end1 (n := 6) sd_flat rfl W.heap.size rfl [.int .i64 tp, .int .i64 tq, .int .i64 bp, .int .i64 bq, .bool th, .int .i64 h] rfl 31 R6.out rfl ⟨_, _, by rw [HX.out]; rfl, O6.out, B6.out⟩
end Go.Proofs.Ytnhhalhaefeoeaa
