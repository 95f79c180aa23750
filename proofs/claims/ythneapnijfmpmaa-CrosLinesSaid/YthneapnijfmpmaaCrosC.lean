import Derived.Test.YthneapnijfmpmaaRefCr
import Derived.Test.YthneapnijfmpmaaSumOf
import Derived.Test.YthneapnijfmpmaaTotHeld
import Derived.Test.YthneapnijfmpmaaTotAbove
import Derived.Test.YthneapnijfmpmaaExactOf
import Derived.Lib.MinMax
/- cros.Self, Stretch, pushed, aligned, Off. -/
namespace Go.Proofs.Ythneapnijfmpmaa
open Go Go.RowKit
set_option linter.unusedVariables false
set_option linter.unusedSimpArgs false
set_option maxRecDepth 20000
set_option maxHeartbeats 4000000

theorem cself_any (items self : Int) (w : World) : Calls Try.prog 9 #[.int .i64 items, .int .i64 self] w fun e w' => e = .returned (.int .i64 (selfZ items self)) ∧ Below w.heap.size w w' := by
  by_cases h : self = 0
  · have z : (self == 0) = true := by rw [beq_iff_eq]; exact h
    have HZ : Hid (selfZ items self = items) := Lib.hid (by unfold selfZ; rw [if_pos h])
    have H0 := Lib.hid h
    clear h
    go_enter Try.func9, Try.ntmps9
    go_wp2_with fail
    go_ret
    exact ⟨ret_int (by rw [HZ.out]), Below.refl _ _⟩
  · have z : (self == 0) = false := by rw [beq_eq_false_iff_ne]; exact h
    have HZ : Hid (selfZ items self = wrap64 (self - 1)) := Lib.hid (by unfold selfZ; rw [if_neg h])
    clear h
    go_enter Try.func9, Try.ntmps9
    go_wp2_with fail
    go_ret
    exact ⟨ret_int (by rw [HZ.out]), Below.refl _ _⟩
theorem tot_i64 {n : Int} (h : I64 n) : Tot n := by obtain ⟨a, b⟩ := h; unfold Tot; omega
theorem cfill_any (line around least most : Int) (w : World) (h : (-9223372036854775808 ≤ line ∧ line ≤ 9223372036854775807) ∧ (-9223372036854775808 ≤ around ∧ around ≤ 9223372036854775807) ∧ -9223372036854775808 ≤ line - around ∧ line - around ≤ 9223372036854775807) : Calls Try.prog 7 #[.int .i64 line, .int .i64 around, .int .i64 least, .int .i64 most] w fun e w' => e = .returned (.int .i64 (fillZ line around least most)) ∧ Below w.heap.size w w' := by
  obtain ⟨h1, h2, h3⟩ := h
  have O1 := Lib.hid (fun g w h => of_one1 line h1 g w h)
  have O2 := Lib.hid (fun g w h => of_one1 around h2 g w h)
  have MI := Lib.hid (fun w => minus_any line around (tot_i64 h1) (tot_i64 h2) w)
  have HH := Lib.hid (fun w => held_any (line - around) h3 w)
  have L1 := Lib.hid (Whole.mk w 2 #[.int .i64 line])
  have FZ : ∀ m, (if 0 ≤ most then min (line - around) most else line - around) = m → Hid (fillZ line around least most = max (max m least) 0) := fun m hm => Lib.hid (by unfold fillZ; rw [hm]; omega)
  obtain ⟨d, hd⟩ : ∃ d, line - around = d := ⟨_, rfl⟩
  rw [hd] at MI HH FZ
  clear hd h1 h2 h3
  by_cases hm : most ≥ 0
  · have E := FZ (min d most) (if_pos hm)
    clear FZ
    go_enter Try.func7, Try.ntmps7
    go_wp2_with fail
    refine (O1.out _ _ L1.out).mono ?_
    rintro e w1 ⟨rfl, hb1⟩
    have B1 := Lib.hid (((Below.refl w.heap.size w).alloc (Nat.le_refl _) (.cells #[.int .i64 line] 2)).trans (hb1.mono (by simp)))
    have L2 := Lib.hid (Whole.mk w1 2 #[.int .i64 around])
    clear hb1
    go_wp2_with fail
    refine (O2.out _ _ L2.out).mono ?_
    rintro e w2 ⟨rfl, hb1⟩
    have B2 := Lib.hid ((B1.out.alloc B1.out.size (.cells #[.int .i64 around] 2)).trans (hb1.mono (by have := B1.out.size; simp; omega)))
    clear hb1 B1 L2
    go_wp2_with fail
    refine (MI.out _).mono ?_
    rintro e w3 ⟨rfl, hb1⟩
    have B3 := Lib.hid (B2.out.trans (hb1.mono B2.out.size))
    clear hb1 B2
    go_wp2_with fail
    refine (HH.out _).mono ?_
    rintro e w4 ⟨rfl, hb1⟩
    have B4 := Lib.hid (B3.out.trans (hb1.mono B3.out.size))
    clear hb1 B3
    go_wp2_with fail
    all_goals (go_ret; exact ⟨ret_int (by rw [E.out]; clear E HH MI O1 O2; first | omega | (rename_i q; split at q <;> omega)), B4.out⟩)
  · have E := FZ d (if_neg hm)
    clear FZ
    go_enter Try.func7, Try.ntmps7
    go_wp2_with fail
    refine (O1.out _ _ L1.out).mono ?_
    rintro e w1 ⟨rfl, hb1⟩
    have B1 := Lib.hid (((Below.refl w.heap.size w).alloc (Nat.le_refl _) (.cells #[.int .i64 line] 2)).trans (hb1.mono (by simp)))
    have L2 := Lib.hid (Whole.mk w1 2 #[.int .i64 around])
    clear hb1
    go_wp2_with fail
    refine (O2.out _ _ L2.out).mono ?_
    rintro e w2 ⟨rfl, hb1⟩
    have B2 := Lib.hid ((B1.out.alloc B1.out.size (.cells #[.int .i64 around] 2)).trans (hb1.mono (by have := B1.out.size; simp; omega)))
    clear hb1 B1 L2
    go_wp2_with fail
    refine (MI.out _).mono ?_
    rintro e w3 ⟨rfl, hb1⟩
    have B3 := Lib.hid (B2.out.trans (hb1.mono B2.out.size))
    clear hb1 B2
    go_wp2_with fail
    refine (HH.out _).mono ?_
    rintro e w4 ⟨rfl, hb1⟩
    have B4 := Lib.hid (B3.out.trans (hb1.mono B3.out.size))
    clear hb1 B3
    go_wp2_with fail
    all_goals (go_ret; exact ⟨ret_int (by rw [E.out]; clear E HH MI O1 O2; first | omega | (rename_i q; split at q <;> omega)), B4.out⟩)
theorem sum_zero : tH 0 = 0 ∧ tL 0 = 0 := by decide
theorem above_zero (f : Int) (w : World) : Calls Try.prog 27 #[totV f, .agg #[.int .i64 0, .int .u64 0]] w fun e w' => e = .returned (.bool (decide (0 < f))) ∧ Below w.heap.size w w' := above_any f 0 w
def pushZ (f : Int) (before after : Bool) : Int := if f ≤ 0 ∨ before = false then 0 else if after then f / 2 else f
def alignZ (f self : Int) (rev : Bool) : Int := if self = 2 then f / 2 else if decide (self = 1) != rev then f else 0
/-- The argument's block, the answer's, and one of nothing. -/
structure PushM (w w' : World) (f : Int) : Prop where
  a : Whole w' w.heap.size 36 [.int .i64 (tH f), .int .u64 (tL f)]
  r : Whole w' (w.heap.size + 1) 36 [.int .i64 0, .int .u64 0]
  low : Below w.heap.size w w'
theorem AlM.mk0 (w : World) (f : Int) : PushM w ((w.alloc (.cells #[.int .i64 (tH f), .int .u64 (tL f)] 36)).alloc (.cells #[.int .i64 0, .int .u64 0] 36)) f :=
  ⟨(Whole.mk w 36 #[.int .i64 (tH f), .int .u64 (tL f)]).made _, by have h := Whole.mk (w.alloc (.cells #[.int .i64 (tH f), .int .u64 (tL f)] 36)) 36 #[.int .i64 0, .int .u64 0]; simpa using h, ((Below.refl w.heap.size w).alloc (Nat.le_refl _) _).alloc (by simp) _⟩
theorem PushM.made {w w' : World} {f : Int} (h : PushM w w' f) (o : Obj) : PushM w (w'.alloc o) f := ⟨h.a.made o, h.r.made o, h.low.alloc h.low.size o⟩
theorem PushM.under {w w' w2 : World} {f : Int} (h : PushM w w' f) (hb : Below w'.heap.size w' w2) : PushM w w2 f :=
  ⟨h.a.under hb h.a.size, h.r.under hb h.r.size, h.low.trans (hb.mono h.low.size)⟩
theorem PushM.end_ {w w' : World} {f : Int} (h : PushM w w' f) (z : Int) : Whole ((w'.setCell ⟨w.heap.size + 1, 0, none⟩ (.int .i64 (tH z))).setCell ⟨w.heap.size + 1, 1, none⟩ (.int .u64 (tL z))) (w.heap.size + 1) 36 [.int .i64 (tH z), .int .u64 (tL z)] ∧
    Below w.heap.size w ((w'.setCell ⟨w.heap.size + 1, 0, none⟩ (.int .i64 (tH z))).setCell ⟨w.heap.size + 1, 1, none⟩ (.int .u64 (tL z))) :=
  ⟨(h.r.put 0 _).put 1 _, (h.low.setCell (p := ⟨w.heap.size + 1, 0, none⟩) (by simp) _).setCell (p := ⟨w.heap.size + 1, 1, none⟩) (by simp) _⟩
theorem cpushed_any (f : Int) (hf : Tot f) (before after : Bool) (w : World) : Calls Try.prog 21 #[totV f, .bool before, .bool after] w fun e w' => e = .returned (totV (pushZ f before after)) ∧ Below w.heap.size w w' := by
  have TZ := Lib.hid sum_zero
  have HA := Lib.hid (fun w => half_any f hf w)
  have P0 := Lib.hid ((AlM.mk0 w f).made (.cells #[.int .i64 0, .int .u64 0] 36))
  have N0 : Hid (Whole (((w.alloc (.cells #[.int .i64 (tH f), .int .u64 (tL f)] 36)).alloc (.cells #[.int .i64 0, .int .u64 0] 36)).alloc (.cells #[.int .i64 0, .int .u64 0] 36)) (w.heap.size + 1 + 1) 36 [.int .i64 0, .int .u64 0]) := Lib.hid (by
    have h := Whole.mk ((w.alloc (.cells #[.int .i64 (tH f), .int .u64 (tL f)] 36)).alloc (.cells #[.int .i64 0, .int .u64 0] 36)) 36 #[.int .i64 0, .int .u64 0]
    simpa using h)
  have AB := Lib.hid (fun w => above_zero f w)
  cases before
  · have E : Hid (pushZ f false after = 0) := Lib.hid (by simp [pushZ])
    go_enter Try.func21, Try.ntmps21
    go_wp2_with fail
    refine bodyPost_ret (v := totV 0) (by simp [results, Try.results21, go_sem, TZ.out.1, TZ.out.2]) rfl ⟨by rw [E.out], ?_⟩
    exact P0.out.low
  · by_cases h0 : 0 < f
    · have Z0 : Hid (decide (0 < f) = true) := Lib.hid (decide_eq_true h0)
      rw [Z0.out] at AB
      cases after
      · have E : Hid (pushZ f true false = f) := Lib.hid (by unfold pushZ; rw [if_neg (by simp; omega)]; simp)
        clear h0 HA
        go_enter Try.func21, Try.ntmps21
        go_wp2_with fail
        refine (AB.out _).mono ?_
        rintro e w1 ⟨rfl, hb1⟩
        have P1 := Lib.hid (P0.out.under hb1)
        have N1 := Lib.hid (N0.out.under hb1 N0.out.size)
        clear hb1 AB P0 N0
        have E1 := Lib.hid (P1.out.end_ (f))
        have a0 := P1.out.a.cell 0
        have a1 := P1.out.a.cell 1
        have r0 := P1.out.r.cell 0
        have r1 := P1.out.r.cell 1
        have g0 := P1.out.r.free 0
        have g1 := P1.out.r.free 1
        simp only [List.getElem?_cons_zero, List.getElem?_cons_succ] at a0 a1 r0 r1
        go_wp2_with fail
        exact cells_end (n := 2) ⟨⟨_, Try.underlying36, rfl⟩, by kernel_rfl⟩ rfl (w.heap.size + 1) rfl [.int .i64 (tH (f)), .int .u64 (tL (f))] rfl 36 E1.out.1 rfl ⟨by rw [E.out], E1.out.2⟩
      · have E : Hid (pushZ f true true = f / 2) := Lib.hid (by unfold pushZ; rw [if_neg (by simp; omega)]; simp)
        clear h0
        go_enter Try.func21, Try.ntmps21
        go_wp2_with fail
        refine (AB.out _).mono ?_
        rintro e w1 ⟨rfl, hb1⟩
        have P1 := Lib.hid (P0.out.under hb1)
        have N1 := Lib.hid (N0.out.under hb1 N0.out.size)
        clear hb1 AB P0 N0
        have a0 := P1.out.a.cell 0
        have a1 := P1.out.a.cell 1
        simp only [List.getElem?_cons_zero, List.getElem?_cons_succ] at a0 a1
        go_wp2_with fail
        refine (HA.out _).mono ?_
        rintro e w2 ⟨rfl, hb1⟩
        clear a0 a1
        have P2 := Lib.hid (P1.out.under hb1)
        clear hb1 P1 N1 HA
        have E1 := Lib.hid (P2.out.end_ (f / 2))
        have a0 := P2.out.a.cell 0
        have a1 := P2.out.a.cell 1
        have r0 := P2.out.r.cell 0
        have r1 := P2.out.r.cell 1
        have g0 := P2.out.r.free 0
        have g1 := P2.out.r.free 1
        simp only [List.getElem?_cons_zero, List.getElem?_cons_succ] at a0 a1 r0 r1
        go_wp2_with fail
        exact cells_end (n := 2) ⟨⟨_, Try.underlying36, rfl⟩, by kernel_rfl⟩ rfl (w.heap.size + 1) rfl [.int .i64 (tH (f / 2)), .int .u64 (tL (f / 2))] rfl 36 E1.out.1 rfl ⟨by rw [E.out], E1.out.2⟩
    · have Z0 : Hid (decide (0 < f) = false) := Lib.hid (decide_eq_false h0)
      have E : Hid (pushZ f true after = 0) := Lib.hid (by unfold pushZ; rw [if_pos (by left; omega)])
      rw [Z0.out] at AB
      clear h0 HA
      go_enter Try.func21, Try.ntmps21
      go_wp2_with fail
      refine (AB.out _).mono ?_
      rintro e w1 ⟨rfl, hb1⟩
      have P1 := Lib.hid (P0.out.under hb1)
      have N1 := Lib.hid (N0.out.under hb1 N0.out.size)
      clear hb1 AB P0 N0
      have n0 := N1.out.cell 0
      have n1 := N1.out.cell 1
      simp only [List.getElem?_cons_zero, List.getElem?_cons_succ] at n0 n1
      have E1 := Lib.hid (P1.out.end_ (0))
      have a0 := P1.out.a.cell 0
      have a1 := P1.out.a.cell 1
      have r0 := P1.out.r.cell 0
      have r1 := P1.out.r.cell 1
      have g0 := P1.out.r.free 0
      have g1 := P1.out.r.free 1
      simp only [List.getElem?_cons_zero, List.getElem?_cons_succ] at a0 a1 r0 r1
      rw [TZ.out.1, TZ.out.2] at E1
      go_wp2_with fail
      exact cells_end (n := 2) ⟨⟨_, Try.underlying36, rfl⟩, by kernel_rfl⟩ rfl (w.heap.size + 1) rfl [.int .i64 0, .int .u64 0] rfl 36 E1.out.1 rfl ⟨by rw [E.out]; rfl, E1.out.2⟩
theorem caligned_any (f self : Int) (rev : Bool) (hf : Tot f) (w : World) : Calls Try.prog 22 #[totV f, .int .i64 self, .bool rev] w fun e w' => e = .returned (totV (alignZ f self rev)) ∧ Below w.heap.size w w' := by
  have TZ := Lib.hid sum_zero
  have HA := Lib.hid (fun w => half_any f hf w)
  have P0 := Lib.hid (AlM.mk0 w f)
  by_cases h2 : self = 2
  · have z2 : (self == 2) = true := by rw [beq_iff_eq]; exact h2
    have E : Hid (alignZ f self rev = f / 2) := Lib.hid (by unfold alignZ; rw [if_pos h2])
    clear h2
    go_enter Try.func22, Try.ntmps22
    go_wp2_with fail
    refine (HA.out _).mono ?_
    rintro e w2 ⟨rfl, hb1⟩
    have P2 := Lib.hid (P0.out.under hb1)
    clear hb1 P0 HA
    have E1 := Lib.hid (P2.out.end_ (f / 2))
    have a0 := P2.out.a.cell 0
    have a1 := P2.out.a.cell 1
    have r0 := P2.out.r.cell 0
    have r1 := P2.out.r.cell 1
    have g0 := P2.out.r.free 0
    have g1 := P2.out.r.free 1
    simp only [List.getElem?_cons_zero, List.getElem?_cons_succ] at a0 a1 r0 r1
    go_wp2_with fail
    exact cells_end (n := 2) ⟨⟨_, Try.underlying36, rfl⟩, by kernel_rfl⟩ rfl (w.heap.size + 1) rfl [.int .i64 (tH (f / 2)), .int .u64 (tL (f / 2))] rfl 36 E1.out.1 rfl ⟨by rw [E.out], E1.out.2⟩
  · have z2 : (self == 2) = false := by rw [beq_eq_false_iff_ne]; exact h2
    have AE : alignZ f self rev = if decide (self = 1) != rev then f else 0 := by unfold alignZ; rw [if_neg h2]
    by_cases h1 : self = 1
    · have z1 : (self == 1) = true := by rw [beq_iff_eq]; exact h1
      cases rev
      · have E : Hid (alignZ f self false = f) := Lib.hid (by rw [AE]; simp [h1])
        clear h1 h2 AE HA
        go_enter Try.func22, Try.ntmps22
        go_wp2_with fail
        refine bodyPost_ret (v := totV f) (by simp [results, Try.results22, go_sem]) rfl ⟨by rw [E.out], ?_⟩
        exact ((Below.refl w.heap.size w).alloc (Nat.le_refl _) _).alloc (by simp) _
      · have E : Hid (alignZ f self true = 0) := Lib.hid (by rw [AE]; simp [h1])
        clear h1 h2 AE HA
        go_enter Try.func22, Try.ntmps22
        go_wp2_with fail
        refine bodyPost_ret (v := totV 0) (by simp [results, Try.results22, go_sem, TZ.out.1, TZ.out.2]) rfl ⟨by rw [E.out], ?_⟩
        exact ((Below.refl w.heap.size w).alloc (Nat.le_refl _) _).alloc (by simp) _
    · have z1 : (self == 1) = false := by rw [beq_eq_false_iff_ne]; exact h1
      cases rev
      · have E : Hid (alignZ f self false = 0) := Lib.hid (by rw [AE]; simp [h1])
        clear h1 h2 AE HA
        go_enter Try.func22, Try.ntmps22
        go_wp2_with fail
        refine bodyPost_ret (v := totV 0) (by simp [results, Try.results22, go_sem, TZ.out.1, TZ.out.2]) rfl ⟨by rw [E.out], ?_⟩
        exact ((Below.refl w.heap.size w).alloc (Nat.le_refl _) _).alloc (by simp) _
      · have E : Hid (alignZ f self true = f) := Lib.hid (by rw [AE]; simp [h1])
        clear h1 h2 AE HA
        go_enter Try.func22, Try.ntmps22
        go_wp2_with fail
        refine bodyPost_ret (v := totV f) (by simp [results, Try.results22, go_sem]) rfl ⟨by rw [E.out], ?_⟩
        exact ((Below.refl w.heap.size w).alloc (Nat.le_refl _) _).alloc (by simp) _
theorem coff_any (line outer : Int) (before after : Bool) (self : Int) (rev : Bool) (w : World) (h : (-9223372036854775808 ≤ line ∧ line ≤ 9223372036854775807) ∧ (-9223372036854775808 ≤ outer ∧ outer ≤ 9223372036854775807) ∧ -4611686018427387904 ≤ line - outer ∧ line - outer ≤ 4611686018427387904) :
    Calls Try.prog 8 #[.int .i64 line, .int .i64 outer, .bool before, .bool after, .int .i64 self, .bool rev] w fun e w' => e = .returned (.int .i64 (offZ line outer before after self rev)) ∧ Below w.heap.size w w' := by
  obtain ⟨h1, h2, h3⟩ := h
  have O1 := Lib.hid (fun g w h => of_one1 line h1 g w h)
  have O2 := Lib.hid (fun g w h => of_one1 outer h2 g w h)
  have MI := Lib.hid (fun w => minus_any line outer (tot_i64 h1) (tot_i64 h2) w)
  have L1 := Lib.hid (Whole.mk w 2 #[.int .i64 line])
  obtain ⟨f, hf⟩ : ∃ f, line - outer = f := ⟨_, rfl⟩
  have EZ : Hid (offZ line outer before after self rev = if before || after then pushZ f before after else alignZ f self rev) := Lib.hid (by unfold offZ pushZ alignZ; rw [hf])
  rw [hf] at MI h3
  have tf : Tot f := tot_i64 ⟨by omega, by omega⟩
  have HP := Lib.hid (fun w => cpushed_any f tf before after w)
  have HA := Lib.hid (fun w => caligned_any f self rev tf w)
  have hp : I64 (pushZ f before after) := by unfold pushZ I64; split <;> (try split) <;> omega
  have ha : I64 (alignZ f self rev) := by unfold alignZ I64; split <;> (try split) <;> omega
  have HH1 := Lib.hid (fun w => held_any (pushZ f before after) hp w)
  have HH2 := Lib.hid (fun w => held_any (alignZ f self rev) ha w)
  obtain ⟨zp, hzp⟩ : ∃ z, pushZ f before after = z := ⟨_, rfl⟩
  obtain ⟨za, hza⟩ : ∃ z, alignZ f self rev = z := ⟨_, rfl⟩
  rw [hzp] at HH1 HP EZ
  rw [hza] at HH2 HA EZ
  clear hf hzp hza hp ha tf h1 h2 h3
  cases before
  · cases after
    · go_enter Try.func8, Try.ntmps8
      go_wp2_with fail
      refine (O1.out _ _ L1.out).mono ?_
      rintro e w1 ⟨rfl, hb1⟩
      have B1 := Lib.hid (((Below.refl w.heap.size w).alloc (Nat.le_refl _) (.cells #[.int .i64 line] 2)).trans (hb1.mono (by simp)))
      have L2 := Lib.hid (Whole.mk w1 2 #[.int .i64 outer])
      clear hb1
      go_wp2_with fail
      refine (O2.out _ _ L2.out).mono ?_
      rintro e w2 ⟨rfl, hb1⟩
      have B2 := Lib.hid ((B1.out.alloc B1.out.size (.cells #[.int .i64 outer] 2)).trans (hb1.mono (by have := B1.out.size; simp; omega)))
      clear hb1 B1 L2
      go_wp2_with fail
      refine (MI.out _).mono ?_
      rintro e w3 ⟨rfl, hb1⟩
      have B3 := Lib.hid (B2.out.trans (hb1.mono B2.out.size))
      clear hb1 B2
      have B4 := Lib.hid (B3.out.alloc B3.out.size (.cells #[.int .i64 (tH f), .int .u64 (tL f)] 36))
      go_wp2_with fail
      refine (HA.out _).mono ?_
      rintro e w5 ⟨rfl, hb1⟩
      have B5 := Lib.hid (B4.out.trans (hb1.mono B4.out.size))
      clear hb1 B4
      go_wp2_with fail
      refine (HH2.out _).mono ?_
      rintro e w6 ⟨rfl, hb1⟩
      have B6 := Lib.hid (B5.out.trans (hb1.mono B5.out.size))
      clear hb1 B5
      go_wp2_with fail
      go_ret
      exact ⟨ret_int (by rw [EZ.out]; simp), B6.out⟩
    · go_enter Try.func8, Try.ntmps8
      go_wp2_with fail
      refine (O1.out _ _ L1.out).mono ?_
      rintro e w1 ⟨rfl, hb1⟩
      have B1 := Lib.hid (((Below.refl w.heap.size w).alloc (Nat.le_refl _) (.cells #[.int .i64 line] 2)).trans (hb1.mono (by simp)))
      have L2 := Lib.hid (Whole.mk w1 2 #[.int .i64 outer])
      clear hb1
      go_wp2_with fail
      refine (O2.out _ _ L2.out).mono ?_
      rintro e w2 ⟨rfl, hb1⟩
      have B2 := Lib.hid ((B1.out.alloc B1.out.size (.cells #[.int .i64 outer] 2)).trans (hb1.mono (by have := B1.out.size; simp; omega)))
      clear hb1 B1 L2
      go_wp2_with fail
      refine (MI.out _).mono ?_
      rintro e w3 ⟨rfl, hb1⟩
      have B3 := Lib.hid (B2.out.trans (hb1.mono B2.out.size))
      clear hb1 B2
      have B4 := Lib.hid (B3.out.alloc B3.out.size (.cells #[.int .i64 (tH f), .int .u64 (tL f)] 36))
      go_wp2_with fail
      refine (HP.out _).mono ?_
      rintro e w5 ⟨rfl, hb1⟩
      have B5 := Lib.hid (B4.out.trans (hb1.mono B4.out.size))
      clear hb1 B4
      go_wp2_with fail
      refine (HH1.out _).mono ?_
      rintro e w6 ⟨rfl, hb1⟩
      have B6 := Lib.hid (B5.out.trans (hb1.mono B5.out.size))
      clear hb1 B5
      go_wp2_with fail
      go_ret
      exact ⟨ret_int (by rw [EZ.out]; simp), B6.out⟩
  · go_enter Try.func8, Try.ntmps8
    go_wp2_with fail
    refine (O1.out _ _ L1.out).mono ?_
    rintro e w1 ⟨rfl, hb1⟩
    have B1 := Lib.hid (((Below.refl w.heap.size w).alloc (Nat.le_refl _) (.cells #[.int .i64 line] 2)).trans (hb1.mono (by simp)))
    have L2 := Lib.hid (Whole.mk w1 2 #[.int .i64 outer])
    clear hb1
    go_wp2_with fail
    refine (O2.out _ _ L2.out).mono ?_
    rintro e w2 ⟨rfl, hb1⟩
    have B2 := Lib.hid ((B1.out.alloc B1.out.size (.cells #[.int .i64 outer] 2)).trans (hb1.mono (by have := B1.out.size; simp; omega)))
    clear hb1 B1 L2
    go_wp2_with fail
    refine (MI.out _).mono ?_
    rintro e w3 ⟨rfl, hb1⟩
    have B3 := Lib.hid (B2.out.trans (hb1.mono B2.out.size))
    clear hb1 B2
    have B4 := Lib.hid (B3.out.alloc B3.out.size (.cells #[.int .i64 (tH f), .int .u64 (tL f)] 36))
    go_wp2_with fail
    refine (HP.out _).mono ?_
    rintro e w5 ⟨rfl, hb1⟩
    have B5 := Lib.hid (B4.out.trans (hb1.mono B4.out.size))
    clear hb1 B4
    go_wp2_with fail
    refine (HH1.out _).mono ?_
    rintro e w6 ⟨rfl, hb1⟩
    have B6 := Lib.hid (B5.out.trans (hb1.mono B5.out.size))
    clear hb1 B5
    go_wp2_with fail
    go_ret
    exact ⟨ret_int (by rw [EZ.out]; simp), B6.out⟩
end Go.Proofs.Ythneapnijfmpmaa
