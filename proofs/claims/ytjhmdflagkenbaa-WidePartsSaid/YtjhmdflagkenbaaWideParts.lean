import Derived.Test.YtjhmdflagkenbaaWdAwake
import Derived.Test.YtjhmdflagkenbaaConv
/- WideParts answers true. -/
namespace Go.Proofs.Ytjhmdflagkenbaa
open Go Go.RowKit
set_option linter.unusedVariables false
set_option linter.unusedSimpArgs false
set_option maxRecDepth 20000
set_option maxHeartbeats 4000000

def stP (h : Int) : List Int := [0, 0, 0, 0, 0, 0, 0, 0, 0,  2, h, 0, 0, 0, 0, 0, 0, 0, 0, 0, 0, 0, 0,  0, 0, 1, 0, 0, 0, 1, 0,  0, 0, 0, 0,  0, 0, 0, 0,  0, 0, 0,  0]
def stQ (h : Int) : List Int := [0, 0, 0, 0, 0, 0, 0, 0, 0,  0, 0, 2, h, 0, 0, 0, 0, 0, 0, 0, 0, 0, 0,  0, 0, 0, 0, 0, 0, 0, 0,  0, 0, 0, 0,  0, 0, 0, 0,  0, 0, 0,  0]
theorem stP_in (h : Int) (h1 : 0 ≤ h ∧ h < 20001) : ∀ z ∈ stP h, I64 z := by
  intro z hz
  simp only [stP, List.mem_cons, List.not_mem_nil, or_false] at hz
  unfold I64
  omega
theorem stQ_in (h : Int) (h1 : 0 ≤ h ∧ h < 20001) : ∀ z ∈ stQ h, I64 z := by
  intro z hz
  simp only [stQ, List.mem_cons, List.not_mem_nil, or_false] at hz
  unfold I64
  omega
/-- The part, as the law asks it. -/
theorem part_is (b h : Int) (h1 : 0 ≤ h ∧ h < 20001) (h2 : 0 ≤ b ∧ b < 1000000) : (0 ≤ pctZ b h ∧ pctZ b h ≤ 2000010) ∧ 20000 * pctZ b h - 2 * b * h ≤ 10000 ∧ -10000 < 20000 * pctZ b h - 2 * b * h ∧ (0 ≤ 2 * b * h ∧ 2 * b * h ≤ 50000000000) := by
  have hb : holdZ b = b := by unfold holdZ; omega
  obtain ⟨p1, p2⟩ := mul_bd b h 1000000 20000 (by omega) (by omega) (by omega) (by omega)
  have p0 : 0 ≤ b * h := Int.mul_nonneg h2.1 h1.1
  have hy : pctZ b h = (b * h + 5000) / 10000 := by
    unfold pctZ nearZ
    rw [hb, show max (-1000000000) (min h 1000000000) = h by omega]
    unfold holdZ
    generalize b * h = p at *
    omega
  have q0 : (2 * b * h) = 2 * (b * h) := Int.mul_assoc _ _ _
  rw [hy, q0]
  generalize b * h = p at *
  omega
theorem parts_num (b h : Int) (h1 : 0 ≤ h ∧ h < 20001) (h2 : 0 ≤ b ∧ b < 1000000) : wleftZ (stP h) b = 0 ∧ wwZ (stP h) b = pctZ b h ∧ wrightZ (stP h) b = b - pctZ b h := by
  obtain ⟨⟨p1, p2⟩, -⟩ := part_is b h h1 h2
  obtain ⟨r1, r2, r3⟩ := width_is (stP h) b 0 0 0 0 0 (-1) (pctZ b h) (pctZ b h) 0 rfl rfl (show heldT (0 + 0) = 0 by decide +kernel) (show heldT (0 + 0) = 0 by decide +kernel) rfl rfl rfl (by unfold clampZ; rw [if_neg (by decide)]; omega)
    (show (if b - (0 + 0 + 0 + 0) - pctZ b h < 0 ∨ (1 : Int) ≠ 0 then 0 else _) = (0 : Int) by rw [if_pos (.inr (by decide))])
  refine ⟨by rw [r1]; decide +kernel, r2, ?_⟩
  rw [r3, show b - (0 + 0 + 0 + 0) - pctZ b h - 0 + 0 = b - pctZ b h by omega]
  exact heldT_in ⟨by omega, by omega⟩
theorem high_num (b h : Int) (h1 : 0 ≤ h ∧ h < 20001) (h2 : 0 ≤ b ∧ b < 1000000) : whiZ (stQ h) b = pctZ b h ∧ whiB (stQ h) b = true := by
  obtain ⟨⟨p1, p2⟩, -⟩ := part_is b h h1 h2
  have hB : whiB (stQ h) b = true := by
    show (true && !(true && decide (b < 0))) = true
    rw [decide_eq_false (by omega : ¬ b < 0)]; rfl
  refine ⟨?_, hB⟩
  unfold whiZ
  rw [if_pos hB]
  show clampZ (pctZ b h) 0 (-1) = _
  unfold clampZ; rw [if_neg (by decide)]; omega
theorem near_any' (n b h : Int) (g : Nat) (W : World) (hc : W.cell? ⟨g, 0, none⟩ = some (.int .i64 h)) (l1 : 0 ≤ n ∧ n ≤ 2000010) (l2 : 0 ≤ b ∧ b < 1000000) (l3 : 0 ≤ 2 * b * h ∧ 2 * b * h ≤ 50000000000)
    (e1 : 20000 * n - 2 * b * h ≤ 10000) (e2 : -10000 < 20000 * n - 2 * b * h) : Calls Try.prog 10 #[.int .i64 n, .int .i64 b, .pointer (some ⟨g, 0, none⟩)] W fun e w' => e = .returned (.bool true) ∧ W = w' := by
  go_enter Try.func10, Try.ntmps10
  go_wp2
  go_ret
  exact ⟨rfl, rfl⟩
theorem wideParts_any (h0 b0 c0 : Int) (W : World) : Calls Try.prog 4 #[.int .i64 h0, .int .i64 b0, .int .i64 c0] W fun e w' => e = .returned (.bool true) ∧ Below W.heap.size W w' := by
  obtain ⟨h, hh, lh⟩ := conv_lt h0 20001 (by omega) (by omega)
  obtain ⟨b, hb, lb⟩ := conv_lt b0 1000000 (by omega) (by omega)
  obtain ⟨c, hc, lc⟩ := conv_lt c0 1000000 (by omega) (by omega)
  have HW := Lib.hid (fun w' => width_any (stP h) rfl (stP_in h lh) b (by unfold I64; omega) w')
  have HH := Lib.hid (fun w' => height_any (stQ h) rfl (stQ_in h lh) c (by unfold I64; omega) w')
  have HN := Lib.hid (fun w' => height_any (stQ h) rfl (stQ_in h lh) (-1) (by unfold I64; omega) w')
  obtain ⟨n1, n2, n3⟩ := parts_num b h lh lb
  obtain ⟨n4, n5⟩ := high_num c h lh lc
  rw [n1, n2, n3] at HW
  rw [n4, n5] at HH
  rw [show whiZ (stQ h) (-1) = 0 from rfl, show whiB (stQ h) (-1) = false from rfl] at HN
  obtain ⟨x1, x2, x3, x4⟩ := part_is b h lh lb
  obtain ⟨y1, y2, y3, y4⟩ := part_is c h lh lc
  generalize pctZ b h = n at *
  generalize pctZ c h = m at *
  have NB := Lib.hid (fun (g : Nat) (w : World) (hg : w.cell? ⟨g, 0, none⟩ = some (.int .i64 h)) => near_any' n b h g w hg x1 lb x4 x2 x3)
  have NC := Lib.hid (fun (g : Nat) (w : World) (hg : w.cell? ⟨g, 0, none⟩ = some (.int .i64 h)) => near_any' m c h g w hg y1 lc y4 y2 y3)
  clear n1 n2 n3 n4 n5 x2 x3 x4 y1 y2 y3 y4 lc
  have B0 := Lib.hid (((Below.refl W.heap.size W).alloc (Nat.le_refl _) (.cells #[.int .i64 h] 2)).alloc (by simp) (.cells #[.int .i64 2, .int .i64 h] 23))
  have H0 := Lib.hid ((Whole.mk W 2 #[.int .i64 h]).made (.cells #[.int .i64 2, .int .i64 h] 23))
  have L0 := Lib.hid (Whole.mk (W.alloc (.cells #[.int .i64 h] 2)) 23 #[.int .i64 2, .int .i64 h])
  simp only [World.size_alloc] at L0
  go_enter Try.func4, Try.ntmps4
  go_upto_region 3 with fail
  generalize (W.alloc _).alloc _ = w0 at *
  have c0 : w0.cell? ⟨W.heap.size + 1, 0, none⟩ = some (.int .i64 2) := L0.out.cell 0
  have c1 : w0.cell? ⟨W.heap.size + 1, 1, none⟩ = some (.int .i64 h) := L0.out.cell 1
  go_wp2_with (refine cells_build 27 _ rfl rfl (i64s (stP h)) (by kernel_rfl) ?_)
  refine (HW.out _).mono ?_
  rintro e w1 ⟨rfl, hb⟩
  have B1 := Lib.hid ((B0.out.trans (hb.mono B0.out.size)).alloc (by have := B0.out.size; have := hb.size; omega) (.cells #[.int .i64 0, .int .i64 n, .int .i64 (b - n)] 29))
  have H1 := Lib.hid ((H0.out.under hb H0.out.size).made (.cells #[.int .i64 0, .int .i64 n, .int .i64 (b - n)] 29))
  have L1 := Lib.hid ((L0.out.under hb L0.out.size).made (.cells #[.int .i64 0, .int .i64 n, .int .i64 (b - n)] 29))
  have R1 := Lib.hid (Whole.mk w1 29 #[.int .i64 0, .int .i64 n, .int .i64 (b - n)])
  clear hb HW c0 c1
  go_upto_region 4 with fail
  generalize w1.alloc _ = w2 at *
  generalize w1.heap.size = q at *
  clear B0 H0 L0
  have c0 : w2.cell? ⟨W.heap.size + 1, 0, none⟩ = some (.int .i64 2) := L1.out.cell 0
  have c1 : w2.cell? ⟨W.heap.size + 1, 1, none⟩ = some (.int .i64 h) := L1.out.cell 1
  go_wp2_with (refine cells_build 27 _ rfl rfl (i64s (stQ h)) (by kernel_rfl) ?_)
  refine (HH.out _).mono ?_
  rintro e w3 ⟨rfl, hb⟩
  have B3 := Lib.hid (B1.out.trans (hb.mono B1.out.size))
  have H3 := Lib.hid (H1.out.under hb H1.out.size)
  have L3 := Lib.hid (L1.out.under hb L1.out.size)
  have R3 := Lib.hid (R1.out.under hb R1.out.size)
  clear hb HH c0 c1 B1 H1 L1 R1
  have c0 : w3.cell? ⟨W.heap.size + 1, 0, none⟩ = some (.int .i64 2) := L3.out.cell 0
  have c1 : w3.cell? ⟨W.heap.size + 1, 1, none⟩ = some (.int .i64 h) := L3.out.cell 1
  go_wp2_with (refine cells_build 27 _ rfl rfl (i64s (stQ h)) (by kernel_rfl) ?_)
  refine (HN.out _).mono ?_
  rintro e w4 ⟨rfl, hb⟩
  have B4 := Lib.hid (B3.out.trans (hb.mono B3.out.size))
  have H4 := Lib.hid (H3.out.under hb H3.out.size)
  have R4 := Lib.hid (R3.out.under hb R3.out.size)
  clear hb HN c0 c1 B3 H3 L3 R3
  have hmf : ∀ (fn : Fn) (first cap : Array Value) (w : World), (Instr.makeFunc fn first cap).run Try.prog w = .ok (.func fn first cap) w := fun _ _ _ _ => rfl
  have c0 : w4.cell? ⟨q, 0, none⟩ = some (.int .i64 0) := R4.out.cell 0
  have c1 : w4.cell? ⟨q, 1, none⟩ = some (.int .i64 n) := R4.out.cell 1
  have c2 : w4.cell? ⟨q, 2, none⟩ = some (.int .i64 (b - n)) := R4.out.cell 2
  have ch : w4.cell? ⟨W.heap.size, 0, none⟩ = some (.int .i64 h) := H4.out.cell 0
  go_wp2_with fail
  refine (NB.out W.heap.size _ ch).mono ?_
  rintro e w5 ⟨rfl, rfl⟩
  go_wp2_with fail
  refine (NC.out W.heap.size _ ch).mono ?_
  rintro e w5 ⟨rfl, rfl⟩
  go_wp2_with fail
  refine (wawake_any _).mono ?_
  rintro e w6 ⟨rfl, hb⟩
  have B6 := Lib.hid (B4.out.trans (hb.mono B4.out.size))
  go_wp2_with fail
  go_ret
  exact ⟨rfl, B6.out⟩
end Go.Proofs.Ytjhmdflagkenbaa
