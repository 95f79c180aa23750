import Derived.Test.YtmlnpphblicghaaBrkLines
import Derived.Test.YtmlnpphblicghaaBrkWide
/- quoinlaw11.Same, awake. -/
namespace Go.Proofs.Ytmlnpphblicghaa
open Go Go.RowKit
set_option linter.unusedVariables false
set_option linter.unusedSimpArgs false
set_option maxRecDepth 20000
set_option maxHeartbeats 4000000

theorem Row.sp {w : World} {B : Nat} {A : Option Addr} {l : List Sp} (h : Row w B A (l.flatMap spC)) {i : Nat} (hi : i < l.length) :
    ∃ ad, A = some ad ∧ ad.block < B ∧ w.cell? (ad.add (i * 3)) = some (.int .i64 l[i].sf) ∧ w.cell? ⟨(ad.add (i * 3)).block, (ad.add (i * 3)).off + 1, none⟩ = some (.int .i64 l[i].st) ∧
      w.cell? ⟨(ad.add (i * 3)).block, (ad.add (i * 3)).off + 2, none⟩ = some (.int .i64 l[i].sw) := by
  obtain ⟨ad, e, hb, h0, hj⟩ := h.rc spC_len (by decide) hi
  exact ⟨ad, e, hb, h0 _ rfl, hj 1 _ (by decide) rfl, hj 2 _ (by decide) rfl⟩
theorem same_any (l : List Sp) (hl : l.length ≤ 4611686018427387904) (A A' : Option Addr) (c c' : Nat) (W : World) (hR : Row W W.heap.size A (l.flatMap spC)) (hR' : Row W W.heap.size A' (l.flatMap spC)) :
    Calls Try.prog 19 #[.slice A l.length c, .slice A' l.length c'] W fun e w' => e = .returned (.bool true) ∧ Below W.heap.size W w' := by
  have HR := Lib.hid hR
  have HR' := Lib.hid hR'
  clear hR hR'
  go_enter Try.func19, Try.ntmps19
  go_wp2
  go_loopw [5] (fun v5 wr => ∃ (k : Nat), v5 = .int .i64 k ∧ k ≤ l.length ∧ Below W.heap.size W wr) (fun v5 _ => l.length - (intOf v5).toNat)
  case atStart => exact ⟨0, rfl, Nat.zero_le _, Below.refl _ _⟩
  case round =>
    obtain ⟨k, rfl, hk, hB⟩ := hrel
    have HB := Lib.hid hB
    clear hB
    by_cases hlt : k < l.length
    · have hki : (k : Int) < l.length := by omega
      obtain ⟨ad, rfl, hab, r0, r1, r2⟩ := (HR.out.below HB.out).sp hlt
      obtain ⟨ad', rfl, hab', s0, s1, s2⟩ := (HR'.out.below HB.out).sp hlt
      generalize l[k] = x at *
      obtain ⟨xf, xt, xw⟩ := x
      simp only at r0 r1 r2 s0 s1 s2
      go_upto_region 6 with fail
      go_quiet (fail)
      go_wp2
      go_roundw
      case rel => exact ⟨k + 1, by go_num, by omega, Below.drewN' HB.out nq⟩
      case measure => simp [intOf]; omega
    · have hki : ¬ (k : Int) < l.length := by omega
      go_wp2
      go_ret
      exact ⟨rfl, HB.out⟩
def awG : List Gl := [⟨1, 0, 0, 5⟩, ⟨2, 0, 0, 2⟩, ⟨1, 0, 0, 5⟩, ⟨4, 0, 0, 0⟩, ⟨4, 0, 0, 0⟩]
theorem awG_a : linesL 11 awG = [⟨0, 1, 5⟩, ⟨2, 3, 5⟩, ⟨4, 4, 0⟩] := by decide +kernel
theorem awG_b : linesL 12 awG = [⟨0, 3, 12⟩, ⟨4, 4, 0⟩] := by decide +kernel
theorem awG_l : widZ [2, 4] awG = 5 := by decide +kernel
theorem awG_m : widZ [4] awG = 12 := by decide +kernel
theorem awG_fine : FineG awG := by unfold FineG awG; decide
theorem bawake_any (W : World) : Calls Try.prog 17 #[] W fun e w' => e = .returned (.bool true) ∧ Below W.heap.size W w' := by
  have hR : Row (W.alloc (.cells #[.int .i64 1, .int .i64 0, .int .i64 0, .int .i64 5, .int .i64 2, .int .i64 0, .int .i64 0, .int .i64 2, .int .i64 1, .int .i64 0, .int .i64 0, .int .i64 5, .int .i64 4, .int .i64 0, .int .i64 0, .int .i64 0, .int .i64 4, .int .i64 0, .int .i64 0, .int .i64 0] 24)) (W.heap.size + 1) (some ⟨W.heap.size, 0, none⟩) (i64s (gCells awG)) :=
    row_new W #[.int .i64 1, .int .i64 0, .int .i64 0, .int .i64 5, .int .i64 2, .int .i64 0, .int .i64 0, .int .i64 2, .int .i64 1, .int .i64 0, .int .i64 0, .int .i64 5, .int .i64 4, .int .i64 0, .int .i64 0, .int .i64 0, .int .i64 4, .int .i64 0, .int .i64 0, .int .i64 0] 24
  have HB1 := Lib.hid ((Below.refl W.heap.size W).alloc (Nat.le_refl _) (.cells #[.int .i64 1, .int .i64 0, .int .i64 0, .int .i64 5, .int .i64 2, .int .i64 0, .int .i64 0, .int .i64 2, .int .i64 1, .int .i64 0, .int .i64 0, .int .i64 5, .int .i64 4, .int .i64 0, .int .i64 0, .int .i64 0, .int .i64 4, .int .i64 0, .int .i64 0, .int .i64 0] 24))
  have z1 : W.heap.size + 1 ≤ (W.alloc (.cells #[.int .i64 1, .int .i64 0, .int .i64 0, .int .i64 5, .int .i64 2, .int .i64 0, .int .i64 0, .int .i64 2, .int .i64 1, .int .i64 0, .int .i64 0, .int .i64 5, .int .i64 4, .int .i64 0, .int .i64 0, .int .i64 0, .int .i64 4, .int .i64 0, .int .i64 0, .int .i64 0] 24)).heap.size := by simp
  have HR := Lib.hid hR
  have LA := Lib.hid (fun (w : World) (hR : Row w w.heap.size (some ⟨W.heap.size, 0, none⟩) (i64s (gCells awG))) => lines_any awG awG_fine (some ⟨W.heap.size, 0, none⟩) 5 11 (by unfold I64; omega) w hR)
  have LB := Lib.hid (fun (w : World) (hR : Row w w.heap.size (some ⟨W.heap.size, 0, none⟩) (i64s (gCells awG))) => lines_any awG awG_fine (some ⟨W.heap.size, 0, none⟩) 5 12 (by unfold I64; omega) w hR)
  have LL := Lib.hid (fun (w : World) (hR : Row w w.heap.size (some ⟨W.heap.size, 0, none⟩) (i64s (gCells awG))) => least_any awG awG_fine (some ⟨W.heap.size, 0, none⟩) 5 w hR)
  have LM := Lib.hid (fun (w : World) (hR : Row w w.heap.size (some ⟨W.heap.size, 0, none⟩) (i64s (gCells awG))) => most_any awG awG_fine (some ⟨W.heap.size, 0, none⟩) 5 w hR)
  unfold LinePost at LA LB
  simp only [awG_a, awG_b, awG_l, awG_m] at LA LB LL LM
  rw [show awG.length = 5 from rfl] at LA LB LL LM
  clear hR
  go_enter Try.func17, Try.ntmps17
  go_upto_region 2 with fail
  generalize W.alloc _ = w1 at *
  generalize hg0 : W.heap.size = g0 at *
  have HG0 := Lib.hid hg0
  clear hg0
  go_wp2_with fail
  refine (LA.out _ (HR.out.more z1)).mono ?_
  rintro o w2 ⟨A2, c2, rfl, ho2, hb2⟩
  have H2 := Lib.hid ho2
  have R2 := Lib.hid ((HR.out.below (hb2.mono z1)).more (Nat.le_trans z1 hb2.size))
  have B2 := Lib.hid (HB1.out.trans (hb2.mono (by omega)))
  have z2 : g0 + 1 ≤ w2.heap.size := by have := hb2.size; omega
  clear ho2 hb2 HR HB1 z1 LA
  go_wp2_with fail
  refine (LB.out _ (R2.out.more (Nat.le_refl _))).mono ?_
  rintro o w3 ⟨A3, c3, rfl, ho3, hb3⟩
  have H2' := Lib.hid (own_below H2.out hb3 (Nat.le_refl _))
  have H3 := Lib.hid ho3
  have R3 := Lib.hid ((R2.out.below hb3).more hb3.size)
  have B3 := Lib.hid (B2.out.trans (hb3.mono (by omega)))
  have z3 : g0 + 1 ≤ w3.heap.size := by have := hb3.size; omega
  clear ho3 hb3 R2 B2 z2 LB H2
  obtain ⟨ad, rfl, -, a0, a1, a2⟩ := (row_of_own H2'.out).sp (i := 0) (by decide)
  obtain ⟨ga, rfl⟩ := own_addr H2'.out
  obtain ⟨ad', hx, -, b0, b1, b2⟩ := (row_of_own H2'.out).sp (i := 1) (by decide)
  cases hx
  obtain ⟨ad', hx, -, d0, d1, d2⟩ := (row_of_own H2'.out).sp (i := 2) (by decide)
  cases hx
  obtain ⟨ad, rfl, -, e0, e1, e2⟩ := (row_of_own H3.out).sp (i := 0) (by decide)
  obtain ⟨gb, rfl⟩ := own_addr H3.out
  simp only [List.getElem_cons_zero, List.getElem_cons_succ, Nat.reduceMul, Nat.zero_mul, Nat.zero_add, add_zero, Addr.add_lit] at a0 a1 a2 b0 b1 b2 d0 d1 d2 e0 e1 e2
  clear H2' H3
  go_wp2_with fail
  refine (LL.out _ R3.out).mono ?_
  rintro o w4 ⟨rfl, hb4⟩
  have R4 := Lib.hid ((R3.out.below hb4).more hb4.size)
  have B4 := Lib.hid (B3.out.trans (hb4.mono (by omega)))
  have z4 : g0 + 1 ≤ w4.heap.size := by have := hb4.size; omega
  clear hb4 R3 B3 z3 LL
  go_wp2_with fail
  refine (LM.out _ R4.out).mono ?_
  rintro o w5 ⟨rfl, hb5⟩
  have B5 := Lib.hid (B4.out.trans (hb5.mono (by omega)))
  clear hb5 R4 B4 z4 LM
  go_wp2
  go_ret
  exact ⟨rfl, by rw [HG0.out]; exact B5.out⟩
end Go.Proofs.Ytmlnpphblicghaa
