import Derived.Test.YtpbfdfpedpfemaaGreatDoorTreeSaid
/- quoinref4.Same of two lists that read alike. -/
namespace Go.Proofs.YtpbfdfpedpfemaaGreatDoor
open Go Go.RowKit
set_option linter.unusedVariables false
set_option linter.unusedSimpArgs false
set_option maxRecDepth 20000
set_option maxHeartbeats 1000000

theorem dsame_any (l : List Dc) (s1 s2 : Value) (W : World) (h1 : StyAt W s1 l) (h2 : StyAt W s2 l) :
    Calls Tryz.prog 45 #[s1, s2] W fun e w' => e = .returned (.bool true) ∧ Below W.heap.size W w' := by
  obtain ⟨A, ca, rfl, hA, hl, -⟩ := h1
  obtain ⟨B, cb, rfl, hB, -, -⟩ := h2
  have HA := Lib.hid hA
  have HB := Lib.hid hB
  clear hA hB
  go_enter Tryz.func45, Tryz.ntmps45
  go_wp2
  go_loopw [5] (fun v5 wr => ∃ k : Nat, k ≤ l.length ∧ v5 = .int .i64 k ∧ Hid (Below W.heap.size W wr)) (fun v5 _ => l.length - (intOf v5).toNat)
  case atStart => exact ⟨0, Nat.zero_le _, rfl, Lib.hid (Below.refl _ _)⟩
  case round =>
    obtain ⟨k, hk, rfl, hb⟩ := hrel
    by_cases hlt : k < l.length
    · obtain ⟨ad, rfl, ha, a0, a1, a2, a3⟩ := ((HA.out.below hb.out).more hb.out.size).dec hlt
      obtain ⟨bd, rfl, hb', b0, b1, b2, b3⟩ := ((HB.out.below hb.out).more hb.out.size).dec hlt
      have hb := hb
      generalize l[k].p = z0 at *
      generalize l[k].w = z1 at *
      generalize l[k].k = z2 at *
      generalize l[k].n = z3 at *
      go_upto_region 6 with fail
      have ya0 : ∀ x : Later wr.heap.size wr, x.w.cell? (ad.add (k * 4)) = some (.int .i64 z0) := fun x => (Below.cell x.h (show (ad.add (k * 4) : Addr).block < wr.heap.size from by first | exact ha | (rw [add_block]; exact ha))).trans a0
      have ya1 : ∀ x : Later wr.heap.size wr, x.w.cell? (⟨(ad.add (k * 4)).block, (ad.add (k * 4)).off + 1, none⟩) = some (.int .i64 z1) := fun x => (Below.cell x.h (show (⟨(ad.add (k * 4)).block, (ad.add (k * 4)).off + 1, none⟩ : Addr).block < wr.heap.size from by first | exact ha | (rw [add_block]; exact ha))).trans a1
      have ya2 : ∀ x : Later wr.heap.size wr, x.w.cell? (⟨(ad.add (k * 4)).block, (ad.add (k * 4)).off + 2, none⟩) = some (.int .i64 z2) := fun x => (Below.cell x.h (show (⟨(ad.add (k * 4)).block, (ad.add (k * 4)).off + 2, none⟩ : Addr).block < wr.heap.size from by first | exact ha | (rw [add_block]; exact ha))).trans a2
      have ya3 : ∀ x : Later wr.heap.size wr, x.w.cell? (⟨(ad.add (k * 4)).block, (ad.add (k * 4)).off + 3, none⟩) = some (.int .i64 z3) := fun x => (Below.cell x.h (show (⟨(ad.add (k * 4)).block, (ad.add (k * 4)).off + 3, none⟩ : Addr).block < wr.heap.size from by first | exact ha | (rw [add_block]; exact ha))).trans a3
      have yb0 : ∀ x : Later wr.heap.size wr, x.w.cell? (bd.add (k * 4)) = some (.int .i64 z0) := fun x => (Below.cell x.h (show (bd.add (k * 4) : Addr).block < wr.heap.size from by first | exact hb' | (rw [add_block]; exact hb'))).trans b0
      have yb1 : ∀ x : Later wr.heap.size wr, x.w.cell? (⟨(bd.add (k * 4)).block, (bd.add (k * 4)).off + 1, none⟩) = some (.int .i64 z1) := fun x => (Below.cell x.h (show (⟨(bd.add (k * 4)).block, (bd.add (k * 4)).off + 1, none⟩ : Addr).block < wr.heap.size from by first | exact hb' | (rw [add_block]; exact hb'))).trans b1
      have yb2 : ∀ x : Later wr.heap.size wr, x.w.cell? (⟨(bd.add (k * 4)).block, (bd.add (k * 4)).off + 2, none⟩) = some (.int .i64 z2) := fun x => (Below.cell x.h (show (⟨(bd.add (k * 4)).block, (bd.add (k * 4)).off + 2, none⟩ : Addr).block < wr.heap.size from by first | exact hb' | (rw [add_block]; exact hb'))).trans b2
      have yb3 : ∀ x : Later wr.heap.size wr, x.w.cell? (⟨(bd.add (k * 4)).block, (bd.add (k * 4)).off + 3, none⟩) = some (.int .i64 z3) := fun x => (Below.cell x.h (show (⟨(bd.add (k * 4)).block, (bd.add (k * 4)).off + 3, none⟩ : Addr).block < wr.heap.size from by first | exact hb' | (rw [add_block]; exact hb'))).trans b3
      clear a0 a1 a2 a3 b0 b1 b2 b3
      refine region_lane [] [0, 1, 2, 3, 4, 5, 6, 7] [8] (by kernel_rfl) (by kernel_rfl) (fun _ _ _ _ _ h => h) ?_
      simp only [pick, List.map_nil]
      refine wpQuiet_nil ⟨rfl, ?_⟩
      simp only [List.map_cons, List.map_nil, List.getD_cons_zero, List.getD_cons_succ, List.drop_succ_cons, List.drop_zero]
      refine laneO_run 8 (by kernel_rfl) ?_
      simp only [List.take_succ_cons, List.take_zero, List.drop_succ_cons, List.drop_zero]
      repeat (go_big_quiet_step (fail))
      refine wpQuiet_nil ?_
      refine laneO_end0 rfl rfl fun w2 hb2 => ?_
      have B2 := Lib.hid (hb.out.trans (Below.mono hb2 hb.out.size))
      clear ya0 ya1 ya2 ya3 yb0 yb1 yb2 yb3
      go_wp2_with fail
      go_roundw
      case rel => exact ⟨k + 1, by omega, by go_num, B2⟩
      case measure => simp [intOf]; omega
    · go_wp2_with fail
      go_ret
      exact ⟨rfl, hb.out⟩
end Go.Proofs.YtpbfdfpedpfemaaGreatDoor
