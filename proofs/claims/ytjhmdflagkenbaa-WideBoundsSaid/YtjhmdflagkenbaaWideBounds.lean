import Derived.Test.YtjhmdflagkenbaaWdAwake
/- WideBounds answers true. -/
namespace Go.Proofs.Ytjhmdflagkenbaa
open Go Go.RowKit
set_option linter.unusedVariables false
set_option linter.unusedSimpArgs false
set_option maxRecDepth 20000
set_option maxHeartbeats 4000000

def stW (k v lo kh hi : Int) : List Int := [0, 0, 0, 0, 0, 0, 0, 0, 0,  k, v, 0, 0, 1, lo, 0, 0, kh, hi, 0, 0, 0, 0,  0, 0, 1, 0, 0, 0, 1, 0,  0, 0, 0, 0,  0, 0, 0, 0,  0, 0, 0,  0]
theorem stW_in (k v lo kh hi : Int) (h1 : 0 ≤ k ∧ k ≤ 1) (h2 : 0 ≤ v ∧ v < 65536) (h3 : 0 ≤ lo ∧ lo < 65536) (h4 : 0 ≤ kh ∧ kh ≤ 1) (h5 : 0 ≤ hi ∧ hi < 65536) : ∀ z ∈ stW k v lo kh hi, I64 z := by
  intro z hz
  simp only [stW, List.mem_cons, List.not_mem_nil, or_false] at hz
  unfold I64
  omega
theorem bounds_num (k v lo kh hi base want x : Int) (h0 : (k = 1 ∧ v = want) ∨ (k = 0 ∧ want = base)) (hx : 0 ≤ x ∧ x < 65536) (hb : 0 ≤ base ∧ base < 65536)
    (hc : clampZ want (boundZ 1 lo base) (capZ kh hi base) = x) : wleftZ (stW k v lo kh hi) base = 0 ∧ wwZ (stW k v lo kh hi) base = x ∧ wrightZ (stW k v lo kh hi) base = base - x := by
  have ht : (if k = 0 then heldT (base - (0 + 0 + 0 + 0)) else sidZ k v base) = want := by
    rcases h0 with ⟨rfl, rfl⟩ | ⟨rfl, rfl⟩
    · rfl
    · rw [if_pos rfl, show want - (0 + 0 + 0 + 0) = want by omega]; exact heldT_in ⟨by omega, by omega⟩
  obtain ⟨r1, r2, r3⟩ := width_is (stW k v lo kh hi) base 0 0 0 0 (boundZ 1 lo base) (capZ kh hi base) want x 0 rfl rfl (show heldT (0 + 0) = 0 by decide +kernel) (show heldT (0 + 0) = 0 by decide +kernel) rfl rfl ht hc
    (show (if base - (0 + 0 + 0 + 0) - x < 0 ∨ (1 : Int) ≠ 0 then 0 else _) = (0 : Int) by rw [if_pos (.inr (by decide))])
  refine ⟨by rw [r1]; decide +kernel, r2, ?_⟩
  rw [r3, show base - (0 + 0 + 0 + 0) - x - 0 + 0 = base - x by omega]
  exact heldT_in ⟨by omega, by omega⟩
theorem fixB_any (n : Int) (W : World) : Calls Try.prog 11 #[.int .i64 n] W fun e w' => e = .returned (.agg #[.int .i64 1, .int .i64 n]) ∧ Below W.heap.size W w' := by
  go_enter Try.func11, Try.ntmps11
  go_wp2
  refine bodyPost_ret (v := .agg #[.int .i64 1, .int .i64 n]) (by simp [results, Try.results11, go_sem]) rfl ⟨rfl, ?_⟩
  exact (Below.refl _ _).alloc (Nat.le_refl _) _
def tK (told : Bool) : Int := if told = true then 1 else 0
def tV (told : Bool) (w : Int) : Int := if told = true then w else 0
def tW (told : Bool) (w base : Int) : Int := if told = true then w else base
theorem wideBounds_any (w0 lo0 hi0 base0 : Int) (told : Bool) (W : World) : Calls Try.prog 5 #[.int .i64 w0, .int .i64 lo0, .int .i64 hi0, .int .i64 base0, .bool told] W fun e w' => e = .returned (.bool true) ∧ Below W.heap.size W w' := by
  obtain ⟨w, hw, lw⟩ : ∃ k : Int, bits .and .i64 w0 65535 = k ∧ 0 ≤ k ∧ k < 65536 := ⟨w0 % 65536, and_mask_i64 w0 16 (by decide), by omega, by omega⟩
  obtain ⟨lo, hlo, ll⟩ : ∃ k : Int, bits .and .i64 lo0 65535 = k ∧ 0 ≤ k ∧ k < 65536 := ⟨lo0 % 65536, and_mask_i64 lo0 16 (by decide), by omega, by omega⟩
  obtain ⟨hi, hhi, lh⟩ : ∃ k : Int, bits .and .i64 hi0 65535 = k ∧ 0 ≤ k ∧ k < 65536 := ⟨hi0 % 65536, and_mask_i64 hi0 16 (by decide), by omega, by omega⟩
  obtain ⟨base, hbs, lb⟩ : ∃ k : Int, bits .and .i64 base0 65535 = k ∧ 0 ≤ k ∧ k < 65536 := ⟨base0 % 65536, and_mask_i64 base0 16 (by decide), by omega, by omega⟩
  have lW : 0 ≤ tW told w base ∧ tW told w base < 65536 := by unfold tW; split <;> omega
  have lK : 0 ≤ tK told ∧ tK told ≤ 1 := by unfold tK; split <;> omega
  have lV : 0 ≤ tV told w ∧ tV told w < 65536 := by unfold tV; split <;> omega
  have h0 : (tK told = 1 ∧ tV told w = tW told w base) ∨ (tK told = 0 ∧ tW told w base = base) := by cases told <;> simp [tK, tV, tW]
  obtain ⟨n1, n2, n3⟩ := bounds_num (tK told) (tV told w) lo 1 hi base (tW told w base) (max (min (tW told w base) hi) lo) h0 (by omega) lb (by unfold clampZ capZ boundZ; simp; omega)
  obtain ⟨n4, n5, n6⟩ := bounds_num (tK told) (tV told w) 0 0 0 base (tW told w base) (tW told w base) h0 (by omega) lb (by unfold clampZ capZ boundZ; simp; omega)
  have H1 := Lib.hid (fun w' => width_any (stW (tK told) (tV told w) lo 1 hi) rfl (stW_in _ _ _ _ _ lK lV ll (by omega) lh) base (by unfold I64; omega) w')
  have H2 := Lib.hid (fun w' => width_any (stW (tK told) (tV told w) 0 0 0) rfl (stW_in _ _ _ _ _ lK lV (by omega) (by omega) (by omega)) base (by unfold I64; omega) w')
  rw [n1, n2, n3] at H1
  rw [n4, n5, n6] at H2
  clear n1 n2 n3 n4 n5 n6 h0 lK lV
  go_enter Try.func5, Try.ntmps5
  go_wp2_with fail
  refine (fixB_any lo _).mono ?_
  rintro e w1 ⟨rfl, hb⟩
  have B1 := Lib.hid hb
  clear hb
  go_wp2_with fail
  refine (fixB_any hi _).mono ?_
  rintro e w2 ⟨rfl, hb⟩
  have B2 := Lib.hid (B1.out.trans (hb.mono B1.out.size))
  clear hb
  go_wp2_with fail
  refine (fixB_any 0 _).mono ?_
  rintro e w3 ⟨rfl, hb⟩
  have B3 := Lib.hid (B2.out.trans (hb.mono B2.out.size))
  clear hb
  go_wp2_with fail
  refine (fixB_any 0 _).mono ?_
  rintro e w4 ⟨rfl, hb⟩
  have B4 := Lib.hid (B3.out.trans (hb.mono B3.out.size))
  clear hb B1 B2 B3
  have Z4 := Lib.hid (Whole.mk w4 27 (i64s zeros43).toArray)
  have A4 := Lib.hid (B4.out.alloc B4.out.size (.cells (i64s zeros43).toArray 27))
  have gz : W.heap.size ≤ w4.heap.size := B4.out.size
  go_upto_region 4 with (first
    | (refine cells_build 27 _ rfl rfl (i64s (stW 0 0 lo 1 hi)) (by kernel_rfl) ?_)
    | (refine style_store (.tmp 12) (.tmp 35) rfl rfl w4.heap.size rfl (stW 0 0 lo 1 hi) rfl rfl zeros43 ?_ rfl ?_; (focus (exact Z4.out)); intro w5 h5 o5; have S5 := Lib.hid h5; have B5 := Lib.hid (A4.out.trans (o5.below (by intro x hx; simp at hx; omega) A4.out.size)); clear h5 o5))
  clear Z4 A4 B4
  generalize w4.heap.size = g at *
  go_upto_if 37 with fail
  go_cut [13] from 37 to 43 (fun v wx => v = .int .i64 (tW told w base) ∧ Whole wx g 27 (i64s (stW (tK told) (tV told w) lo 1 hi)) ∧ Below W.heap.size W wx)
  case first =>
    cases told
    · go_wp2_with fail
      go_meet
      exact ⟨rfl, S5.out, B5.out⟩
    · go_wp2_with fail
      refine (fixB_any w _).mono ?_
      rintro e w6 ⟨rfl, hb⟩
      have S6 := Lib.hid (S5.out.under hb S5.out.size)
      have B6 := Lib.hid (B5.out.trans (hb.mono B5.out.size))
      clear hb S5 B5
      have c0 : w6.cell? ⟨g, 9, none⟩ = some (.int .i64 0) := S6.out.cell 9
      have c1 : w6.cell? ⟨g, 10, none⟩ = some (.int .i64 0) := S6.out.cell 10
      have f0 := S6.out.free 9
      have f1 := S6.out.free 10
      have S7 : Hid (Whole ((w6.setCell ⟨g, 9, none⟩ (.int .i64 1)).setCell ⟨g, 10, none⟩ (.int .i64 w)) g 27 (i64s (stW 1 w lo 1 hi))) := Lib.hid ((S6.out.putNum 9 1).putNum 10 w)
      have B7 := Lib.hid ((B6.out.setCell (p := ⟨g, 9, none⟩) gz (.int .i64 1)).setCell (p := ⟨g, 10, none⟩) gz (.int .i64 w))
      go_wp2_with fail
      go_meet
      exact ⟨rfl, S7.out, B7.out⟩
  case rest =>
    obtain ⟨rfl, S6, B6⟩ := hcut
    have S6 := Lib.hid S6
    have B6 := Lib.hid B6
    clear S5 B5
    generalize tW told w base = want at *
    generalize tK told = k at *
    generalize tV told w = v at *
    go_wp2_with (refine style_load (.tmp 12) rfl rfl g rfl (stW k v lo 1 hi) rfl ?_ ?_; (focus (exact S6.out)))
    refine (H1.out _).mono ?_
    rintro e w8 ⟨rfl, hb⟩
    have S8 := Lib.hid (S6.out.under hb S6.out.size)
    have B8 := Lib.hid (B6.out.trans (hb.mono B6.out.size))
    clear hb S6 B6 H1
    generalize hX : max (min want hi) lo = x at *
    have R9 := Lib.hid (Whole.mk w8 29 #[.int .i64 0, .int .i64 x, .int .i64 (base - x)])
    have S9 := Lib.hid (S8.out.made (.cells #[.int .i64 0, .int .i64 x, .int .i64 (base - x)] 29))
    have B9 := Lib.hid (B8.out.alloc B8.out.size (.cells #[.int .i64 0, .int .i64 x, .int .i64 (base - x)] 29))
    have gq : g < w8.heap.size := S8.out.size
    go_upto_region 8 with fail
    generalize w8.alloc _ = w9 at *
    generalize w8.heap.size = q at *
    clear S8 B8
    go_wp2_with fail
    refine (fixB_any 0 _).mono ?_
    rintro e w10 ⟨rfl, hb⟩
    have S10 := Lib.hid (S9.out.under hb S9.out.size)
    have R10 := Lib.hid (R9.out.under hb R9.out.size)
    have B10 := Lib.hid (B9.out.trans (hb.mono B9.out.size))
    clear hb S9 B9 R9
    have c0 : w10.cell? ⟨g, 13, none⟩ = some (.int .i64 1) := S10.out.cell 13
    have c1 : w10.cell? ⟨g, 14, none⟩ = some (.int .i64 lo) := S10.out.cell 14
    have c2 : w10.cell? ⟨g, 17, none⟩ = some (.int .i64 1) := S10.out.cell 17
    have c3 : w10.cell? ⟨g, 18, none⟩ = some (.int .i64 hi) := S10.out.cell 18
    have f0 := S10.out.free 13
    have f1 := S10.out.free 14
    have f2 := S10.out.free 17
    have f3 := S10.out.free 18
    have S11 : Hid (Whole ((((w10.setCell ⟨g, 13, none⟩ (.int .i64 1)).setCell ⟨g, 14, none⟩ (.int .i64 0)).setCell ⟨g, 17, none⟩ (.int .i64 0)).setCell ⟨g, 18, none⟩ (.int .i64 0)) g 27 (i64s (stW k v 0 0 0))) := Lib.hid ((((S10.out.putNum 13 1).putNum 14 0).putNum 17 0).putNum 18 0)
    have hgq : q ≠ g := by omega
    have R11 := Lib.hid ((((R10.out.other (p := ⟨g, 13, none⟩) hgq (.int .i64 1)).other (p := ⟨g, 14, none⟩) hgq (.int .i64 0)).other (p := ⟨g, 17, none⟩) hgq (.int .i64 0)).other (p := ⟨g, 18, none⟩) hgq (.int .i64 0))
    have B11 := Lib.hid ((((B10.out.setCell (p := ⟨g, 13, none⟩) gz (.int .i64 1)).setCell (p := ⟨g, 14, none⟩) gz (.int .i64 0)).setCell (p := ⟨g, 17, none⟩) gz (.int .i64 0)).setCell (p := ⟨g, 18, none⟩) gz (.int .i64 0))
    go_upto_region 9 with fail
    clear c0 c1 c2 c3 f0 f1 f2 f3 S10 R10 B10
    generalize (((w10.setCell _ _).setCell _ _).setCell _ _).setCell _ _ = w11 at *
    go_wp2_with (refine style_load (.tmp 12) rfl rfl g rfl (stW k v 0 0 0) rfl ?_ ?_; (focus (exact S11.out)))
    refine (H2.out _).mono ?_
    rintro e w12 ⟨rfl, hb⟩
    have R12 := Lib.hid (R11.out.under hb R11.out.size)
    have B12 := Lib.hid (B11.out.trans (hb.mono B11.out.size))
    clear hb S11 B11 R11 H2
    have T13 := Lib.hid (Whole.mk w12 29 #[.int .i64 0, .int .i64 want, .int .i64 (base - want)])
    have R13 := Lib.hid (R12.out.made (.cells #[.int .i64 0, .int .i64 want, .int .i64 (base - want)] 29))
    have B13 := Lib.hid (B12.out.alloc B12.out.size (.cells #[.int .i64 0, .int .i64 want, .int .i64 (base - want)] 29))
    go_upto_region 10 with fail
    generalize w12.alloc _ = w13 at *
    generalize w12.heap.size = q2 at *
    clear R12 B12
    have c0 : w13.cell? ⟨q, 0, none⟩ = some (.int .i64 0) := R13.out.cell 0
    have c1 : w13.cell? ⟨q, 1, none⟩ = some (.int .i64 x) := R13.out.cell 1
    have c2 : w13.cell? ⟨q, 2, none⟩ = some (.int .i64 (base - x)) := R13.out.cell 2
    have d1 : w13.cell? ⟨q2, 1, none⟩ = some (.int .i64 want) := T13.out.cell 1
    have lx : 0 ≤ x ∧ x < 65536 := by omega
    go_wp2_with fail
    all_goals
      refine (wawake_any _).mono ?_
      rintro e w14 ⟨rfl, hb⟩
      have B14 := Lib.hid (B13.out.trans (hb.mono B13.out.size))
      go_wp2_with fail
      go_ret
      exact ⟨rfl, B14.out⟩
end Go.Proofs.Ytjhmdflagkenbaa
