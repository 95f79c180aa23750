import Derived.Test.YtpbfdfpedpfemaaGreatDoorDeclSame
import Derived.Test.YtpbfdfpedpfemaaGreatDoorLaneF
/- quoinref6.Same of two rows of nodes that read alike. -/
namespace Go.Proofs.YtpbfdfpedpfemaaGreatDoor
open Go Go.RowKit
set_option linter.unusedVariables false
set_option linter.unusedSimpArgs false
set_option maxRecDepth 20000
set_option maxHeartbeats 2000000

/-- A row of nodes that reads so. -/
def NodesSee (w : World) (v : Value) (l : List Nd) : Prop := ∃ A c svs, v = .slice A l.length c ∧ svs.length = l.length ∧ l.length ≤ 1000000 ∧ Row w w.heap.size A (rowsC l svs) ∧ ∀ k (h : k < l.length) (h2 : k < svs.length), StyAt w svs[k] l[k].sty
theorem NodesOwn.see {w : World} {lo : Nat} {v : Value} {l : List Nd} (h : NodesOwn w lo v l) (hl : l.length ≤ 1000000) : NodesSee w v l := by
  obtain ⟨A, c, svs, e, h1, h2, h3⟩ := h
  exact ⟨A, c, svs, e, h1, hl, row_of_own h2, fun k hk hk2 => (h3 k hk hk2).at_⟩
theorem NodesLow.see {w : World} {B : Nat} {A : Option Addr} {c : Nat} {l : List Nd} {svs : List Value} (h : NodesLow w B A l svs) (hB : B ≤ w.heap.size) : NodesSee w (.slice A l.length c) l :=
  ⟨A, c, svs, rfl, h.len, h.few, h.row.more hB, fun k hk hk2 => (h.sty k hk).at_ hB⟩
theorem Row.ndr {w : World} {B : Nat} {A : Option Addr} {l : List Nd} {svs : List Value} (h : Row w B A (rowsC l svs)) (hs : svs.length = l.length) {k : Nat} (hk : k < l.length) (hk2 : k < svs.length) :
    ∃ ad, A = some ad ∧ ad.block < B ∧ w.cell? (ad.add (k * 5)) = some (.int .i64 l[k].id) ∧ w.cell? ⟨(ad.add (k * 5)).block, (ad.add (k * 5)).off + 1, none⟩ = some (.int .i64 l[k].par) ∧
      w.cell? ⟨(ad.add (k * 5)).block, (ad.add (k * 5)).off + 2, none⟩ = some (.bool l[k].tx) ∧ w.cell? ⟨(ad.add (k * 5)).block, (ad.add (k * 5)).off + 3, none⟩ = some (.string l[k].dat) ∧ w.cell? ⟨(ad.add (k * 5)).block, (ad.add (k * 5)).off + 4, none⟩ = some svs[k] := by
  have hl := rowsC_length l svs hs
  obtain ⟨ad, e, hb, hc⟩ := h (by omega)
  have at_ : ∀ j, j < 5 → ∀ v, (nodeC l[k] svs[k])[j]? = some v → w.cell? (ad.add (k * 5 + j)) = some v := fun j hj v hv => by
    have h1 : k * 5 + j < (rowsC l svs).length := by omega
    rw [hc _ h1]
    have h2 := rowsC_get l svs hs k hk j hj
    rw [List.getElem?_eq_getElem h1, hv] at h2
    exact h2
  have far : ∀ j, 0 < j → (⟨(ad.add (k * 5)).block, (ad.add (k * 5)).off + j, none⟩ : Addr) = ad.add (k * 5 + j) := fun j hj => by
    have : (ad.add (k * 5)).add j = ad.add (k * 5 + j) := add_of_add _ _ _
    rw [← this]
    generalize ad.add (k * 5) = b
    unfold Addr.add
    rw [if_neg (by omega)]
  refine ⟨ad, e, hb, ?_, ?_, ?_, ?_, ?_⟩
  · exact at_ 0 (by omega) _ rfl
  · rw [far 1 (by omega)]; exact at_ 1 (by omega) _ rfl
  · rw [far 2 (by omega)]; exact at_ 2 (by omega) _ rfl
  · rw [far 3 (by omega)]; exact at_ 3 (by omega) _ rfl
  · rw [far 4 (by omega)]; exact at_ 4 (by omega) _ rfl
theorem nsame_any (l : List Nd) (v1 v2 : Value) (W : World) (h1 : NodesSee W v1 l) (h2 : NodesSee W v2 l) :
    Calls Tryz.prog 19 #[v1, v2] W fun e w' => e = .returned (.bool true) ∧ Below W.heap.size W w' := by
  obtain ⟨A, ca, sa, rfl, la, hl, hA, ga⟩ := h1
  obtain ⟨B, cb, sb, rfl, lb, -, hB, gb⟩ := h2
  have HA := Lib.hid hA
  have HB := Lib.hid hB
  have GA := Lib.hid ga
  have GB := Lib.hid gb
  clear hA hB ga gb
  go_enter Tryz.func19, Tryz.ntmps19
  go_wp2
  go_loopw [5] (fun v5 wr => ∃ k : Nat, k ≤ l.length ∧ v5 = .int .i64 k ∧ Hid (Below W.heap.size W wr)) (fun v5 _ => l.length - (intOf v5).toNat)
  case atStart => exact ⟨0, Nat.zero_le _, rfl, Lib.hid (Below.refl _ _)⟩
  case round =>
    obtain ⟨k, hk, rfl, hb⟩ := hrel
    by_cases hlt : k < l.length
    · obtain ⟨ad, rfl, ha, a0, a1, a2, a3, a4⟩ := ((HA.out.below hb.out).more hb.out.size).ndr la hlt (by omega)
      obtain ⟨bd, rfl, hb3, b0, b1, b2, b3, b4⟩ := ((HB.out.below hb.out).more hb.out.size).ndr lb hlt (by omega)
      have SA := (GA.out k hlt (by omega)).below hb.out
      have SB := (GB.out k hlt (by omega)).below hb.out
      have SAH := Lib.hid SA
      have SBH := Lib.hid SB
      generalize sa[k] = xa at *
      generalize sb[k] = xb at *
      obtain ⟨As, cs, rfl, -⟩ := SA
      obtain ⟨Bs, ds, rfl, -⟩ := SB
      have DS := Lib.hid (fun w (hw : Below wr.heap.size wr w) => dsame_any l[k].sty _ _ w (SAH.out.below hw) (SBH.out.below hw))
      have DS2 := Lib.hid (fun w (hw : Below wr.heap.size wr w) => dsame_any l[k].sty _ _ w (SBH.out.below hw) (SBH.out.below hw))
      clear SAH SBH
      generalize l[k].id = z0 at *
      generalize l[k].par = z1 at *
      generalize l[k].tx = z2 at *
      generalize l[k].dat = z3 at *
      generalize l[k].sty.length = m at *
      go_upto_region 6 with fail
      have ya0 : ∀ x : Later wr.heap.size wr, x.w.cell? (ad.add (k * 5)) = some (.int .i64 z0) := fun x => (Below.cell x.h (show (ad.add (k * 5) : Addr).block < wr.heap.size from by first | exact ha | (rw [add_block]; exact ha))).trans a0
      have ya1 : ∀ x : Later wr.heap.size wr, x.w.cell? (⟨(ad.add (k * 5)).block, (ad.add (k * 5)).off + 1, none⟩) = some (.int .i64 z1) := fun x => (Below.cell x.h (show (⟨(ad.add (k * 5)).block, (ad.add (k * 5)).off + 1, none⟩ : Addr).block < wr.heap.size from by first | exact ha | (rw [add_block]; exact ha))).trans a1
      have ya2 : ∀ x : Later wr.heap.size wr, x.w.cell? (⟨(ad.add (k * 5)).block, (ad.add (k * 5)).off + 2, none⟩) = some (.bool z2) := fun x => (Below.cell x.h (show (⟨(ad.add (k * 5)).block, (ad.add (k * 5)).off + 2, none⟩ : Addr).block < wr.heap.size from by first | exact ha | (rw [add_block]; exact ha))).trans a2
      have ya3 : ∀ x : Later wr.heap.size wr, x.w.cell? (⟨(ad.add (k * 5)).block, (ad.add (k * 5)).off + 3, none⟩) = some (.string z3) := fun x => (Below.cell x.h (show (⟨(ad.add (k * 5)).block, (ad.add (k * 5)).off + 3, none⟩ : Addr).block < wr.heap.size from by first | exact ha | (rw [add_block]; exact ha))).trans a3
      have ya4 : ∀ x : Later wr.heap.size wr, x.w.cell? (⟨(ad.add (k * 5)).block, (ad.add (k * 5)).off + 4, none⟩) = some (.slice As m cs) := fun x => (Below.cell x.h (show (⟨(ad.add (k * 5)).block, (ad.add (k * 5)).off + 4, none⟩ : Addr).block < wr.heap.size from by first | exact ha | (rw [add_block]; exact ha))).trans a4
      have yb0 : ∀ x : Later wr.heap.size wr, x.w.cell? (bd.add (k * 5)) = some (.int .i64 z0) := fun x => (Below.cell x.h (show (bd.add (k * 5) : Addr).block < wr.heap.size from by first | exact hb3 | (rw [add_block]; exact hb3))).trans b0
      have yb1 : ∀ x : Later wr.heap.size wr, x.w.cell? (⟨(bd.add (k * 5)).block, (bd.add (k * 5)).off + 1, none⟩) = some (.int .i64 z1) := fun x => (Below.cell x.h (show (⟨(bd.add (k * 5)).block, (bd.add (k * 5)).off + 1, none⟩ : Addr).block < wr.heap.size from by first | exact hb3 | (rw [add_block]; exact hb3))).trans b1
      have yb2 : ∀ x : Later wr.heap.size wr, x.w.cell? (⟨(bd.add (k * 5)).block, (bd.add (k * 5)).off + 2, none⟩) = some (.bool z2) := fun x => (Below.cell x.h (show (⟨(bd.add (k * 5)).block, (bd.add (k * 5)).off + 2, none⟩ : Addr).block < wr.heap.size from by first | exact hb3 | (rw [add_block]; exact hb3))).trans b2
      have yb3 : ∀ x : Later wr.heap.size wr, x.w.cell? (⟨(bd.add (k * 5)).block, (bd.add (k * 5)).off + 3, none⟩) = some (.string z3) := fun x => (Below.cell x.h (show (⟨(bd.add (k * 5)).block, (bd.add (k * 5)).off + 3, none⟩ : Addr).block < wr.heap.size from by first | exact hb3 | (rw [add_block]; exact hb3))).trans b3
      have yb4 : ∀ x : Later wr.heap.size wr, x.w.cell? (⟨(bd.add (k * 5)).block, (bd.add (k * 5)).off + 4, none⟩) = some (.slice Bs m ds) := fun x => (Below.cell x.h (show (⟨(bd.add (k * 5)).block, (bd.add (k * 5)).off + 4, none⟩ : Addr).block < wr.heap.size from by first | exact hb3 | (rw [add_block]; exact hb3))).trans b4
      clear a0 a1 a2 a3 a4 b0 b1 b2 b3 b4
      refine region_float [0, 1, 4, 5] [2, 3, 6, 7] [8, 9] [10, 11] (by kernel_rfl) (by kernel_rfl) (fun _ _ _ _ _ h => h) ?_
      simp only [pick, List.map_cons, List.map_nil, List.getD_cons_zero, List.getD_cons_succ, List.drop_succ_cons, List.drop_zero]
      repeat (go_big_quiet_step (fail))
      refine wpQuiet_nil ?_
      repeat (go_big_quiet_step (fail))
      refine wpQuiet_nil ⟨rfl, ?_⟩
      refine laneO_told (newT wr.heap.size 32 [.int .i64 0, .int .i64 0, .bool false, .string ⟨#[]⟩, .slice none 0 0]) (newT_steady _ _ _) (by kernel_rfl) rfl (fun w hw => .inl ⟨by rfl, ?_⟩) ?_
      focus (unfold gives; simp [go_sem]; exact newT_new wr.heap.size 32 #[.int .i64 0, .int .i64 0, .bool false, .string ⟨#[]⟩, .slice none 0 0] w hw.size)
      refine laneO_told (newT wr.heap.size 32 [.int .i64 0, .int .i64 0, .bool false, .string ⟨#[]⟩, .slice none 0 0]) (newT_steady _ _ _) (by kernel_rfl) rfl (fun w hw => .inl ⟨by rfl, ?_⟩) ?_
      focus (unfold gives; simp [go_sem]; exact newT_new wr.heap.size 32 #[.int .i64 0, .int .i64 0, .bool false, .string ⟨#[]⟩, .slice none 0 0] w hw.size)
      refine laneO_tail (by simp) (by rfl) rfl rfl fun w1 hb1 => ?_
      rintro x ⟨gb, rfl, hgb, hWb⟩ y ⟨ga, rfl, hga, hWa⟩
      simp only [Act.put, List.setIfInBounds_toArray, List.set_cons_zero, List.set_cons_succ, fillAll]
      clear ya0 ya1 ya2 ya3 ya4 yb0 yb1 yb2 yb3 yb4
      have ZA := Lib.hid hWa
      have ZB := Lib.hid hWb
      have B1 := Lib.hid (show Below wr.heap.size wr w1 from hb1)
      clear hWa hWb hb1
      refine tail_step (by rfl) fun K hK => ?_
      refine wp_store_row 32 (.tmp 6) (.tmp 22) rfl ga #[.int .i64 z0, .int .i64 z1, .bool z2, .string z3, .slice As m cs] rfl rfl 32 #[.int .i64 0, .int .i64 0, .bool false, .string ⟨#[]⟩, .slice none 0 0] ZA.out (by kernel_rfl) rfl (by simp [Value.oneCell']) ?_
      have Z2 := Lib.hid (setRow_heap w1 ga _ #[.int .i64 z0, .int .i64 z1, .bool z2, .string z3, .slice As m cs] _ _ ZA.out)
      have O2 : Hid (Only [ga] w1 (w1.setRow ga #[.int .i64 z0, .int .i64 z1, .bool z2, .string z3, .slice As m cs])) := Lib.hid ⟨rfl, rfl, rfl, by simp, fun k _ hk => setRow_other w1 ga k _ (by simpa using hk)⟩
      have B2 := Lib.hid (B1.out.trans (O2.out.below (by simp; omega) B1.out.size))
      have ZB2 : Hid (∃ old : List Value, old.length = 5 ∧ Whole (w1.setRow ga #[.int .i64 z0, .int .i64 z1, .bool z2, .string z3, .slice As m cs]) gb 32 old) := Lib.hid (by
        by_cases e : gb = ga
        · subst e; exact ⟨_, rfl, (show Whole _ _ _ [.int .i64 z0, .int .i64 z1, .bool z2, .string z3, .slice As m cs] from Z2.out)⟩
        · exact ⟨_, rfl, O2.out.whole ZB.out (by simp; exact e)⟩)
      refine hK _ _ B2.out ?_
      clear hK K
      generalize w1.setRow ga _ = w2 at *
      obtain ⟨old, hold, hZB⟩ := ZB2.out
      refine tail_step (by rfl) fun K hK => ?_
      refine wp_store_row 32 (.tmp 7) (.tmp 26) rfl gb #[.int .i64 z0, .int .i64 z1, .bool z2, .string z3, .slice Bs m ds] rfl rfl 32 old.toArray hZB (by kernel_rfl) (by simp [hold]) (by simp [Value.oneCell']) ?_
      have Z3 := Lib.hid (show Whole _ gb 32 [.int .i64 z0, .int .i64 z1, .bool z2, .string z3, .slice Bs m ds] from setRow_heap w2 gb _ #[.int .i64 z0, .int .i64 z1, .bool z2, .string z3, .slice Bs m ds] _ _ hZB)
      have O3 : Hid (Only [gb] w2 (w2.setRow gb #[.int .i64 z0, .int .i64 z1, .bool z2, .string z3, .slice Bs m ds])) := Lib.hid ⟨rfl, rfl, rfl, by simp, fun k _ hk => setRow_other w2 gb k _ (by simpa using hk)⟩
      have B3 := Lib.hid (B2.out.trans (O3.out.below (by simp; omega) B2.out.size))
      have ZA3 : Hid (∃ sv, (sv = .slice As m cs ∨ sv = .slice Bs m ds) ∧ Whole (w2.setRow gb #[.int .i64 z0, .int .i64 z1, .bool z2, .string z3, .slice Bs m ds]) ga 32 [.int .i64 z0, .int .i64 z1, .bool z2, .string z3, sv]) := Lib.hid (by
        by_cases e : ga = gb
        · subst e; exact ⟨_, .inr rfl, Z3.out⟩
        · exact ⟨_, .inl rfl, O3.out.whole (show Whole _ ga 32 [.int .i64 z0, .int .i64 z1, .bool z2, .string z3, .slice As m cs] from Z2.out) (by simp; exact e)⟩)
      refine hK _ _ B3.out ?_
      clear hK K
      refine tail_end ?_
      generalize w2.setRow gb _ = w3 at *
      obtain ⟨sv, hsv, hZA⟩ := ZA3.out
      have ZA3 := Lib.hid hZA
      clear hZA hZB
      have p0 : w3.cell? ⟨ga, 0, none⟩ = some (.int .i64 z0) := ZA3.out.cell 0
      have p1 : w3.cell? ⟨ga, 1, none⟩ = some (.int .i64 z1) := ZA3.out.cell 1
      have p2 : w3.cell? ⟨ga, 2, none⟩ = some (.bool z2) := ZA3.out.cell 2
      have p3 : w3.cell? ⟨ga, 3, none⟩ = some (.string z3) := ZA3.out.cell 3
      have p4 : w3.cell? ⟨ga, 4, none⟩ = some sv := ZA3.out.cell 4
      have q0 : w3.cell? ⟨gb, 0, none⟩ = some (.int .i64 z0) := Z3.out.cell 0
      have q1 : w3.cell? ⟨gb, 1, none⟩ = some (.int .i64 z1) := Z3.out.cell 1
      have q2 : w3.cell? ⟨gb, 2, none⟩ = some (.bool z2) := Z3.out.cell 2
      have q3 : w3.cell? ⟨gb, 3, none⟩ = some (.string z3) := Z3.out.cell 3
      have q4 : w3.cell? ⟨gb, 4, none⟩ = some (.slice Bs m ds) := Z3.out.cell 4
      have D3 : Hid (Calls Tryz.prog 45 #[sv, .slice Bs m ds] w3 fun e w' => e = .returned (.bool true) ∧ Below w3.heap.size w3 w') := Lib.hid (by
        rcases hsv with rfl | rfl
        · exact DS.out w3 B3.out
        · exact DS2.out w3 B3.out)
      go_wp2_with fail
      refine D3.out.mono ?_
      rintro e w4 ⟨rfl, hb4⟩
      have B4 := Lib.hid (hb.out.trans ((B3.out.trans (hb4.mono B3.out.size)).mono hb.out.size))
      clear hb4 DS D3 p0 p1 p2 p3 p4 q0 q1 q2 q3 q4 ZA3 Z3
      go_wp2_with fail
      go_roundw
      case rel => exact ⟨k + 1, by omega, by go_num, B4⟩
      case measure => simp [intOf]; omega
    · go_wp2_with fail
      go_ret
      exact ⟨rfl, hb.out⟩
end Go.Proofs.YtpbfdfpedpfemaaGreatDoor
