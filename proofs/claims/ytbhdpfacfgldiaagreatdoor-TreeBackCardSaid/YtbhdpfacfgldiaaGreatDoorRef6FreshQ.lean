import Derived.Test.YtbhdpfacfgldiaaGreatDoorZTQ
import Derived.Test.YtbhdpfacfgldiaaGreatDoorZUQ
/- quoinref6: a node made. -/
namespace Go.Proofs.YtbhdpfacfgldiaaGreatDoor
open Go Go.RowKit
set_option linter.unusedVariables false
set_option linter.unusedSimpArgs false
set_option maxRecDepth 20000
set_option maxHeartbeats 4000000

def newN (op : Op6) : Nd := ⟨op.id, op.at_, op.k == 2, ⟨#[]⟩, []⟩
def freshE (m : Int) (L : List Nd) (op : Op6) : Int :=
  if op.id < 0 ∨ 1000 < op.id then 9 else if hasZ L op.id = true then 10 else if m ≤ L.length then 2 else if whereZ L op 1 ≠ 0 then whereZ L op 1 else givenE op (newN op)
def freshL (m : Int) (L : List Nd) (op : Op6) : List Nd := if freshE m L op = 0 then L.take (placeN L op.at_ op.bf) ++ [givenN op (newN op)] ++ L.drop (placeN L op.at_ op.bf) else L
theorem where_ok {L : List Nd} {op : Op6} {d : Int} (h : whereZ L op d = 0) : hasZ L op.at_ = true ∧ txZ L op.at_ = false ∧ placeB L op = false ∧ deepZ L op.at_ + d ≤ 20 := by
  unfold whereZ at h
  cases h1 : hasZ L op.at_
  · rw [h1, if_pos rfl] at h; cases h
  · rw [h1, if_neg (by decide)] at h
    cases h2 : txZ L op.at_
    · rw [h2, if_neg (by decide)] at h
      split at h
      · cases h
      · cases h3 : placeB L op
        · rw [h3, if_neg (by decide)] at h
          split at h
          · cases h
          · exact ⟨rfl, rfl, rfl, by omega⟩
        · rw [h3, if_pos rfl] at h; cases h
    · rw [h2, if_pos rfl] at h; cases h
theorem place_ok {L : List Nd} {op : Op6} (hOK : TreeOk L) (ha : hasZ L op.at_ = true) (hp : placeB L op = false) : (0 ≤ op.bf → hasZ L op.bf = true ∧ parZ L op.bf = op.at_) ∧ 0 < placeN L op.at_ op.bf ∧ placeN L op.at_ op.bf ≤ L.length := by
  have h1 : 0 ≤ op.bf → hasZ L op.bf = true ∧ parZ L op.bf = op.at_ := fun h0 => by
    unfold placeB at hp
    have e : (op.bf != -1) = true := by simp; omega
    rw [e, Bool.true_and, Bool.or_eq_false_iff, Bool.or_eq_false_iff] at hp
    exact ⟨by simpa using hp.1.1, by simpa using hp.1.2⟩
  refine ⟨h1, ?_⟩
  unfold placeN
  by_cases h0 : 0 ≤ op.bf
  · rw [if_pos h0]
    obtain ⟨g1, g2⟩ := h1 h0
    have hs := hOK.step g1
    obtain ⟨n, hn, e⟩ := has_iff.1 ha
    have hr := hOK.rng n hn
    rcases hs.2 with ⟨e1, e2⟩ | ⟨e1, e2⟩
    · omega
    · omega
  · rw [if_neg h0]
    have hs := (hOK.step ha).1
    unfold endZ
    have hle := (List.takeWhile_sublist (l := L.drop (rkZ L op.at_ + 1)) fun x => belowZ L x.id op.at_).length_le
    rw [List.length_drop] at hle
    omega
theorem below_only {W0 W w w2 : World} {S : List Nat} (hW : Below W0.heap.size W0 W) (hz : W0.heap.size ≤ W.heap.size) (hb : Below W.heap.size W w) (ho : Only S w w2) (hS : ∀ g ∈ S, W0.heap.size ≤ g ∧ g < W.heap.size) : Below W0.heap.size W0 w2 :=
  (hW.trans (hb.mono hz)).trans (ho.below (fun g hg => (hS g hg).1) (Nat.le_trans hz hb.size))
theorem rfresh_any (m : Int) (v : Value) (L : List Nd) (op : Op6) (W0 W : World) (hOK : TreeOk L) (hL : L.length ≤ 1000) (h : R6 W0 v L) (hW : Below W0.heap.size W0 W) (hz : W0.heap.size ≤ W.heap.size) :
    Calls Tryz.prog 49 #[r6V m v, opV op] W fun e w' => ∃ v', e = .returned (.tuple #[r6V m v', .int .i64 (freshE m L op)]) ∧ (∃ A' n' c', v' = .slice A' n' c') ∧ (∀ w2 S, Only S w' w2 → (∀ g ∈ S, W0.heap.size ≤ g ∧ g < W.heap.size) → R6 w2 v' (freshL m L op)) ∧ Below W.heap.size W w' := by
  obtain ⟨k, id, at_, bf, tx⟩ := op
  have EF := Lib.hid (show freshE m L ⟨k, id, at_, bf, tx⟩ = if id < 0 ∨ 1000 < id then 9 else if hasZ L id = true then 10 else if m ≤ L.length then 2 else if whereZ L ⟨k, id, at_, bf, tx⟩ 1 ≠ 0 then whereZ L ⟨k, id, at_, bf, tx⟩ 1 else givenE ⟨k, id, at_, bf, tx⟩ (newN ⟨k, id, at_, bf, tx⟩) from rfl)
  have EL := Lib.hid (show freshL m L ⟨k, id, at_, bf, tx⟩ = if freshE m L ⟨k, id, at_, bf, tx⟩ = 0 then L.take (placeN L at_ bf) ++ [givenN ⟨k, id, at_, bf, tx⟩ (newN ⟨k, id, at_, bf, tx⟩)] ++ L.drop (placeN L at_ bf) else L from rfl)
  generalize freshL m L ⟨k, id, at_, bf, tx⟩ = fl at *
  generalize freshE m L ⟨k, id, at_, bf, tx⟩ = fe at *
  obtain ⟨A, c, svs, rfl, hcc, hS0⟩ := h
  have HS := Lib.hid hS0
  have HW := Lib.hid hW
  have hSS : SeeS W A L svs := ⟨hS0.len, hS0.few, (hS0.row.below hW).more hz, fun k hk hk2 => (hS0.sty k hk hk2).below hW⟩
  have HSW := Lib.hid hSS
  have FI := Lib.hid (fun w (hs : NodesSee w (.slice A L.length c) L) => rfind_any m _ L id w hs)
  have WH := Lib.hid (fun w (hs : NodesSee w (.slice A L.length c) L) => rwhere_any m _ L ⟨k, id, at_, bf, tx⟩ 1 w hOK hL ⟨by decide, by decide⟩ hs)
  have GV := Lib.hid (fun w => rgiven_any ⟨k, id, at_, bf, tx⟩ (newN ⟨k, id, at_, bf, tx⟩) noS w (noS_own w 0).at_ (Nat.zero_le _))
  have hal := ((((Below.refl W.heap.size W).alloc (Nat.le_refl _) (.cells #[.int .i64 m, .slice A L.length c] 40)).alloc (by simp) (.cells #[.int .i64 k, .int .i64 id, .int .i64 at_, .int .i64 bf, .string tx] 54))).alloc (by simp; omega) (.cells #[.int .i64 0, .slice none 0 0] 40)
  have B0 := Lib.hid hal
  have S0 := Lib.hid (nodes_see_behind (hSS.see c) hal)
  have T0 := Lib.hid (((Whole.mk W 40 #[.int .i64 m, .slice A L.length c]).made (.cells #[.int .i64 k, .int .i64 id, .int .i64 at_, .int .i64 bf, .string tx] 54)).made (.cells #[.int .i64 0, .slice none 0 0] 40))
  have P0 : Hid (Whole (((W.alloc (.cells #[.int .i64 m, .slice A L.length c] 40)).alloc (.cells #[.int .i64 k, .int .i64 id, .int .i64 at_, .int .i64 bf, .string tx] 54)).alloc (.cells #[.int .i64 0, .slice none 0 0] 40)) (W.heap.size + 1) 54 [.int .i64 k, .int .i64 id, .int .i64 at_, .int .i64 bf, .string tx]) := Lib.hid (by
    have h := (Whole.mk (W.alloc (.cells #[.int .i64 m, .slice A L.length c] 40)) 54 #[.int .i64 k, .int .i64 id, .int .i64 at_, .int .i64 bf, .string tx]).made (.cells #[.int .i64 0, .slice none 0 0] 40)
    simpa using h)
  have Y0 : Hid (Whole (((W.alloc (.cells #[.int .i64 m, .slice A L.length c] 40)).alloc (.cells #[.int .i64 k, .int .i64 id, .int .i64 at_, .int .i64 bf, .string tx] 54)).alloc (.cells #[.int .i64 0, .slice none 0 0] 40)) (W.heap.size + 1 + 1) 40 [.int .i64 0, .slice none 0 0]) := Lib.hid (by
    have h := Whole.mk ((W.alloc (.cells #[.int .i64 m, .slice A L.length c] 40)).alloc (.cells #[.int .i64 k, .int .i64 id, .int .i64 at_, .int .i64 bf, .string tx] 54)) 40 #[.int .i64 0, .slice none 0 0]
    simpa using h)
  clear hal hSS hS0 hW
  go_enter Tryz.func49, Tryz.ntmps49
  go_upto_region 1 with fail
  generalize ((W.alloc _).alloc _).alloc _ = w0 at *
  have t0 : w0.cell? ⟨W.heap.size, 0, none⟩ = some (.int .i64 m) := T0.out.cell 0
  have t1 : w0.cell? ⟨W.heap.size, 1, none⟩ = some (.slice A L.length c) := T0.out.cell 1
  have o0 : w0.cell? ⟨W.heap.size + 1, 0, none⟩ = some (.int .i64 k) := P0.out.cell 0
  have o1 : w0.cell? ⟨W.heap.size + 1, 1, none⟩ = some (.int .i64 id) := P0.out.cell 1
  have o2 : w0.cell? ⟨W.heap.size + 1, 2, none⟩ = some (.int .i64 at_) := P0.out.cell 2
  have o3 : w0.cell? ⟨W.heap.size + 1, 3, none⟩ = some (.int .i64 bf) := P0.out.cell 3
  have o4 : w0.cell? ⟨W.heap.size + 1, 4, none⟩ = some (.string tx) := P0.out.cell 4
  by_cases hid : id < 0 ∨ 1000 < id
  · have HID := Lib.hid hid
    have E := Lib.hid (show fe = 9 by rw [EF.out, if_pos hid])
    have EL2 := Lib.hid (show fl = L by rw [EL.out, if_neg (by rw [E.out]; decide)])
    rcases hid with hid | hid
    · have d1 : decide (id < 0) = true := by rw [decide_eq_true_eq]; exact hid
      go_wp2_with (refine cells_store rtree_flat (.tmp 4) (.tmp 18) rfl rfl (W.heap.size + 1 + 1) rfl [.int .i64 m, .slice A L.length c] rfl (by simp [Value.oneCell']) rfl 40 [.int .i64 0, .slice none 0 0] ?_ rfl ?_; (focus (exact Y0.out)); intro w9 h9 o9; have R9 := Lib.hid h9; have O9 := Lib.hid o9; clear h9 o9)
      have b9 := O9.out.below (B := W.heap.size) (by simp; omega) B0.out.size
      refine cells_end2 rtree_flat rfl (W.heap.size + 1 + 1) rfl [.int .i64 m, .slice A L.length c] rfl 40 R9.out rfl ⟨.slice A L.length c, by rw [E.out]; rfl, ⟨_, _, _, rfl⟩, fun w2 S ho hS => ?_, B0.out.trans b9⟩
      rw [EL2.out]
      exact ⟨A, c, svs, rfl, hcc, HS.out.behind (below_only HW.out hz (B0.out.trans b9) ho hS)⟩
    · have d1 : decide (id < 0) = false := by rw [decide_eq_false_iff_not]; omega
      have d2 : decide (1000 < id) = true := by rw [decide_eq_true_eq]; exact hid
      go_wp2_with (refine cells_store rtree_flat (.tmp 4) (.tmp 18) rfl rfl (W.heap.size + 1 + 1) rfl [.int .i64 m, .slice A L.length c] rfl (by simp [Value.oneCell']) rfl 40 [.int .i64 0, .slice none 0 0] ?_ rfl ?_; (focus (exact Y0.out)); intro w9 h9 o9; have R9 := Lib.hid h9; have O9 := Lib.hid o9; clear h9 o9)
      have b9 := O9.out.below (B := W.heap.size) (by simp; omega) B0.out.size
      refine cells_end2 rtree_flat rfl (W.heap.size + 1 + 1) rfl [.int .i64 m, .slice A L.length c] rfl 40 R9.out rfl ⟨.slice A L.length c, by rw [E.out]; rfl, ⟨_, _, _, rfl⟩, fun w2 S ho hS => ?_, B0.out.trans b9⟩
      rw [EL2.out]
      exact ⟨A, c, svs, rfl, hcc, HS.out.behind (below_only HW.out hz (B0.out.trans b9) ho hS)⟩
  have d1 : decide (id < 0) = false := by rw [decide_eq_false_iff_not]; omega
  have d2 : decide (1000 < id) = false := by rw [decide_eq_false_iff_not]; omega
  rw [if_neg hid] at EF
  go_upto_region 3 with fail
  clear d1 d2
  go_wp2_with fail
  refine (FI.out _ S0.out).mono ?_
  rintro e w1 ⟨rfl, hb⟩
  have B1 := Lib.hid (B0.out.trans (Below.mono hb B0.out.size))
  have S1 := Lib.hid (nodes_see_behind S0.out hb)
  have T1 := Lib.hid (T0.out.under hb T0.out.size)
  have P1 := Lib.hid (P0.out.under hb P0.out.size)
  have Y1 := Lib.hid (Y0.out.under hb Y0.out.size)
  clear hb B0 S0 T0 P0 Y0 t0 t1 o0 o1 o2 o3 o4
  have t0 : w1.cell? ⟨W.heap.size, 0, none⟩ = some (.int .i64 m) := T1.out.cell 0
  have t1 : w1.cell? ⟨W.heap.size, 1, none⟩ = some (.slice A L.length c) := T1.out.cell 1
  have o0 : w1.cell? ⟨W.heap.size + 1, 0, none⟩ = some (.int .i64 k) := P1.out.cell 0
  have o1 : w1.cell? ⟨W.heap.size + 1, 1, none⟩ = some (.int .i64 id) := P1.out.cell 1
  have o2 : w1.cell? ⟨W.heap.size + 1, 2, none⟩ = some (.int .i64 at_) := P1.out.cell 2
  have o3 : w1.cell? ⟨W.heap.size + 1, 3, none⟩ = some (.int .i64 bf) := P1.out.cell 3
  have o4 : w1.cell? ⟨W.heap.size + 1, 4, none⟩ = some (.string tx) := P1.out.cell 4
  cases hh : hasZ L id
  rotate_left
  · obtain ⟨a, ha⟩ := find_yes hh
    rw [ha]
    have E := Lib.hid (show fe = 10 by rw [EF.out, if_pos hh])
    have EL2 := Lib.hid (show fl = L by rw [EL.out, if_neg (by rw [E.out]; decide)])
    have da : decide ((0 : Int) ≤ a) = true := by rw [decide_eq_true_eq]; omega
    go_wp2_with (refine cells_store rtree_flat (.tmp 4) (.tmp 25) rfl rfl (W.heap.size + 1 + 1) rfl [.int .i64 m, .slice A L.length c] rfl (by simp [Value.oneCell']) rfl 40 [.int .i64 0, .slice none 0 0] ?_ rfl ?_; (focus (exact Y1.out)); intro w9 h9 o9; have R9 := Lib.hid h9; have O9 := Lib.hid o9; clear h9 o9)
    have b9 := O9.out.below (B := W.heap.size) (by simp; omega) B1.out.size
    refine cells_end2 rtree_flat rfl (W.heap.size + 1 + 1) rfl [.int .i64 m, .slice A L.length c] rfl 40 R9.out rfl ⟨.slice A L.length c, by rw [E.out]; rfl, ⟨_, _, _, rfl⟩, fun w2 S ho hS => ?_, B1.out.trans b9⟩
    rw [EL2.out]
    exact ⟨A, c, svs, rfl, hcc, HS.out.behind (below_only HW.out hz (B1.out.trans b9) ho hS)⟩
  rw [find_no hh]
  rw [hh, if_neg (by decide)] at EF
  by_cases hm : m ≤ L.length
  · have dm : decide (m ≤ (L.length : Int)) = true := by rw [decide_eq_true_eq]; exact hm
    have E := Lib.hid (show fe = 2 by rw [EF.out, if_pos hm])
    have EL2 := Lib.hid (show fl = L by rw [EL.out, if_neg (by rw [E.out]; decide)])
    go_wp2_with (refine cells_store rtree_flat (.tmp 4) (.tmp 33) rfl rfl (W.heap.size + 1 + 1) rfl [.int .i64 m, .slice A L.length c] rfl (by simp [Value.oneCell']) rfl 40 [.int .i64 0, .slice none 0 0] ?_ rfl ?_; (focus (exact Y1.out)); intro w9 h9 o9; have R9 := Lib.hid h9; have O9 := Lib.hid o9; clear h9 o9)
    have b9 := O9.out.below (B := W.heap.size) (by simp; omega) B1.out.size
    refine cells_end2 rtree_flat rfl (W.heap.size + 1 + 1) rfl [.int .i64 m, .slice A L.length c] rfl 40 R9.out rfl ⟨.slice A L.length c, by rw [E.out]; rfl, ⟨_, _, _, rfl⟩, fun w2 S ho hS => ?_, B1.out.trans b9⟩
    rw [EL2.out]
    exact ⟨A, c, svs, rfl, hcc, HS.out.behind (below_only HW.out hz (B1.out.trans b9) ho hS)⟩
  have dm : decide (m ≤ (L.length : Int)) = false := by rw [decide_eq_false_iff_not]; exact hm
  rw [if_neg hm] at EF
  go_upto_region 7 with fail
  go_wp2_with fail
  refine (WH.out _ S1.out).mono ?_
  rintro e w2 ⟨rfl, hb⟩
  have B2 := Lib.hid (B1.out.trans (Below.mono hb B1.out.size))
  have S2 := Lib.hid (nodes_see_behind S1.out hb)
  have T2 := Lib.hid (T1.out.under hb T1.out.size)
  have P2 := Lib.hid (P1.out.under hb P1.out.size)
  have Y2 := Lib.hid (Y1.out.under hb Y1.out.size)
  clear hb B1 S1 T1 P1 Y1 t0 t1 o0 o1 o2 o3 o4
  have t0 : w2.cell? ⟨W.heap.size, 0, none⟩ = some (.int .i64 m) := T2.out.cell 0
  have t1 : w2.cell? ⟨W.heap.size, 1, none⟩ = some (.slice A L.length c) := T2.out.cell 1
  have o0 : w2.cell? ⟨W.heap.size + 1, 0, none⟩ = some (.int .i64 k) := P2.out.cell 0
  have o1 : w2.cell? ⟨W.heap.size + 1, 1, none⟩ = some (.int .i64 id) := P2.out.cell 1
  have o2 : w2.cell? ⟨W.heap.size + 1, 2, none⟩ = some (.int .i64 at_) := P2.out.cell 2
  have o3 : w2.cell? ⟨W.heap.size + 1, 3, none⟩ = some (.int .i64 bf) := P2.out.cell 3
  have o4 : w2.cell? ⟨W.heap.size + 1, 4, none⟩ = some (.string tx) := P2.out.cell 4
  obtain ⟨we, hwe⟩ : ∃ we, whereZ L ⟨k, id, at_, bf, tx⟩ 1 = we := ⟨_, rfl⟩
  rw [hwe] at EF ⊢
  by_cases hw0 : we = 0
  rotate_left
  · have bw : (we == 0) = false := by rw [beq_eq_false_iff_ne]; exact hw0
    have bw2 : (we != 0) = true := by simp [hw0]
    have E := Lib.hid (show fe = we by rw [EF.out, if_pos hw0])
    have EL2 := Lib.hid (show fl = L by rw [EL.out, if_neg (by rw [E.out]; exact hw0)])
    go_wp2_with (refine cells_store rtree_flat (.tmp 4) (.tmp 39) rfl rfl (W.heap.size + 1 + 1) rfl [.int .i64 m, .slice A L.length c] rfl (by simp [Value.oneCell']) rfl 40 [.int .i64 0, .slice none 0 0] ?_ rfl ?_; (focus (exact Y2.out)); intro w9 h9 o9; have R9 := Lib.hid h9; have O9 := Lib.hid o9; clear h9 o9)
    have b9 := O9.out.below (B := W.heap.size) (by simp; omega) B2.out.size
    refine cells_end2 rtree_flat rfl (W.heap.size + 1 + 1) rfl [.int .i64 m, .slice A L.length c] rfl 40 R9.out rfl ⟨.slice A L.length c, by rw [E.out]; rfl, ⟨_, _, _, rfl⟩, fun w2 S ho hS => ?_, B2.out.trans b9⟩
    rw [EL2.out]
    exact ⟨A, c, svs, rfl, hcc, HS.out.behind (below_only HW.out hz (B2.out.trans b9) ho hS)⟩
  subst hw0
  rw [if_neg (fun h => h rfl)] at EF
  have hzW2 := Y2.out.size
  obtain ⟨pa, ptx, ppl, pdp⟩ := where_ok hwe
  obtain ⟨pb, pk⟩ := place_ok hOK pa ppl
  have PK := Lib.hid (show 0 < placeN L at_ bf ∧ placeN L at_ bf ≤ L.length from pk)
  have PA := Lib.hid (show hasZ L at_ = true from pa)
  have PB := Lib.hid (show 0 ≤ bf → hasZ L bf = true from fun h => (pb h).1)
  clear pa ptx ppl pdp pb pk hwe
  go_upto_region 10 with fail
  go_wp2_with fail
  refine (GV.out _).mono ?_
  rintro e w3 ⟨sv', rfl, hsv, hb⟩
  have B3 := Lib.hid (B2.out.trans (Below.mono hb B2.out.size))
  have S3 := Lib.hid (nodes_see_behind S2.out hb)
  have T3 := Lib.hid (T2.out.under hb T2.out.size)
  have P3 := Lib.hid (P2.out.under hb P2.out.size)
  have Y3 := Lib.hid (Y2.out.under hb Y2.out.size)
  have HB3 := Lib.hid hb
  clear hb B2 S2 T2 P2 Y2 t0 t1 o0 o1 o2 o3 o4 WH FI GV
  have HG := Lib.hid (show (sv' = noS ∧ (givenN ⟨k, id, at_, bf, tx⟩ (newN ⟨k, id, at_, bf, tx⟩)).sty = []) ∨ StyOwn w3 w2.heap.size sv' (givenN ⟨k, id, at_, bf, tx⟩ (newN ⟨k, id, at_, bf, tx⟩)).sty from hsv)
  have HSL : ∃ A1 n1 c1, sv' = .slice A1 n1 c1 := by
    rcases hsv with ⟨e, -⟩ | ⟨A1, c1, e, -⟩
    · exact ⟨_, _, _, e⟩
    · exact ⟨_, _, _, e⟩
  clear hsv
  obtain ⟨A1, n1, c1, rfl⟩ := HSL
  obtain ⟨gn, hgn⟩ : ∃ gn, givenN ⟨k, id, at_, bf, tx⟩ (newN ⟨k, id, at_, bf, tx⟩) = gn := ⟨_, rfl⟩
  obtain ⟨ge, hge⟩ : ∃ ge, givenE ⟨k, id, at_, bf, tx⟩ (newN ⟨k, id, at_, bf, tx⟩) = ge := ⟨_, rfl⟩
  rw [hgn] at HG EL ⊢
  rw [hge] at EF ⊢
  obtain ⟨nid, npar, ntx, ndat, nsty⟩ := gn
  clear hgn hge
  unfold nodeC
  simp only
  go_upto_region 11 with fail
  have hal : Below w3.heap.size w3 (w3.alloc (.cells #[.int .i64 nid, .int .i64 npar, .bool ntx, .string ndat, .slice A1 n1 c1] 32)) := (Below.refl _ _).alloc (Nat.le_refl _) _
  have N4 := Lib.hid (Whole.mk w3 32 #[.int .i64 nid, .int .i64 npar, .bool ntx, .string ndat, .slice A1 n1 c1])
  have B4 := Lib.hid (B3.out.trans (hal.mono B3.out.size))
  have S4 := Lib.hid (nodes_see_behind S3.out hal)
  have T4 := Lib.hid (T3.out.under hal T3.out.size)
  have P4 := Lib.hid (P3.out.under hal P3.out.size)
  have Y4 := Lib.hid (Y3.out.under hal Y3.out.size)
  have zY := Y3.out.size
  have A34 := Lib.hid hal
  clear hal B3 S3 T3 P3 Y3
  generalize w3.alloc _ = w4 at *
  generalize hgN : w3.heap.size = gN at *
  have t0 : w4.cell? ⟨W.heap.size, 0, none⟩ = some (.int .i64 m) := T4.out.cell 0
  have t1 : w4.cell? ⟨W.heap.size, 1, none⟩ = some (.slice A L.length c) := T4.out.cell 1
  by_cases hg0 : ge = 0
  rotate_left
  · have bw : (ge == 0) = false := by rw [beq_eq_false_iff_ne]; exact hg0
    have bw2 : (ge != 0) = true := by simp [hg0]
    have E := Lib.hid (show fe = ge from EF.out)
    have EL2 := Lib.hid (show fl = L by rw [EL.out, if_neg (by rw [E.out]; exact hg0)])
    go_wp2_with (refine cells_store rtree_flat (.tmp 4) (.tmp 56) rfl rfl (W.heap.size + 1 + 1) rfl [.int .i64 m, .slice A L.length c] rfl (by simp [Value.oneCell']) rfl 40 [.int .i64 0, .slice none 0 0] ?_ rfl ?_; (focus (exact Y4.out)); intro w9 h9 o9; have R9 := Lib.hid h9; have O9 := Lib.hid o9; clear h9 o9)
    have b9 := O9.out.below (B := W.heap.size) (by simp; omega) B4.out.size
    refine cells_end2 rtree_flat rfl (W.heap.size + 1 + 1) rfl [.int .i64 m, .slice A L.length c] rfl 40 R9.out rfl ⟨.slice A L.length c, by rw [E.out]; rfl, ⟨_, _, _, rfl⟩, fun w2 S ho hS => ?_, B4.out.trans b9⟩
    rw [EL2.out]
    exact ⟨A, c, svs, rfl, hcc, HS.out.behind (below_only HW.out hz (B4.out.trans b9) ho hS)⟩
  subst hg0
  have E := Lib.hid (show fe = 0 from EF.out)
  rw [E.out, if_pos rfl] at EL
  obtain ⟨pl, hpl⟩ : ∃ pl, placeN L at_ bf = pl := ⟨_, rfl⟩
  have o2 : w4.cell? ⟨W.heap.size + 1, 2, none⟩ = some (.int .i64 at_) := P4.out.cell 2
  have o3 : w4.cell? ⟨W.heap.size + 1, 3, none⟩ = some (.int .i64 bf) := P4.out.cell 3
  have q0 : w4.cell? ⟨gN, 0, none⟩ = some (.int .i64 nid) := N4.out.cell 0
  have q1 : w4.cell? ⟨gN, 1, none⟩ = some (.int .i64 npar) := N4.out.cell 1
  have q2 : w4.cell? ⟨gN, 2, none⟩ = some (.bool ntx) := N4.out.cell 2
  have q3 : w4.cell? ⟨gN, 3, none⟩ = some (.string ndat) := N4.out.cell 3
  have q4 : w4.cell? ⟨gN, 4, none⟩ = some (.slice A1 n1 c1) := N4.out.cell 4
  have hszP := P4.out.size
  have hszN := N4.out.size
  have hal5 : Below w4.heap.size w4 (w4.alloc (.cells #[.int .i64 nid, .int .i64 npar, .bool ntx, .string ndat, .slice A1 n1 c1] 32)) := (Below.refl _ _).alloc (Nat.le_refl _) _
  have L5 := Lib.hid (Whole.mk w4 32 #[.int .i64 nid, .int .i64 npar, .bool ntx, .string ndat, .slice A1 n1 c1])
  have A45 := Lib.hid hal5
  clear hal5 N4
  have hz34 := A34.out.size
  have hz45 := A45.out.size
  have GY : ∀ w, Below w3.heap.size w3 w → StyAt w (.slice A1 n1 c1) nsty := fun w hw => by
    rcases HG.out with ⟨e, e2⟩ | h
    · simp only at e2
      rw [e, e2]; exact (noS_own w 0).at_
    · exact (h.at_).below hw
  have HGY := Lib.hid GY
  clear GY
  go_wp2_with fail
  generalize hw5 : w4.alloc _ = w5 at *
  have SN : SeeS w5 (some ⟨w4.heap.size, 0, none⟩) [⟨nid, npar, ntx, ndat, nsty⟩] [.slice A1 n1 c1] := by
    refine ⟨rfl, by simp, fun _ => ⟨_, rfl, L5.out.size, fun i hi => ?_⟩, fun i hi hi2 => ?_⟩
    · rw [head_add, L5.out.cell i]; exact List.getElem?_eq_getElem hi
    · obtain rfl : i = 0 := by simp at hi; omega
      exact HGY.out w5 (by rw [hgN]; exact A34.out.trans (A45.out.mono (by omega)))
  have B5 := Lib.hid (B4.out.trans (A45.out.mono B4.out.size))
  have Y5 := Lib.hid (Y4.out.under A45.out Y4.out.size)
  have SS5 := HSW.out.behind B5.out
  have PU := Lib.hid (rput_any m A c svs (some ⟨w4.heap.size, 0, none⟩) 1 [.slice A1 n1 c1] L [⟨nid, npar, ntx, ndat, nsty⟩] at_ bf w5 hOK hL (by simp) PA.out PB.out PK.out SS5 SN hcc (fun e => by cases e))
  have A35 := Lib.hid (show Below gN w3 w5 from A34.out.trans (A45.out.mono (by omega)))
  clear SN SS5 L5 A45 A34 q0 q1 q2 q3 q4 o2 o3 t0 t1 S4 T4 P4 B4 Y4 hw5
  refine PU.out.mono ?_
  rintro e w6 ⟨A6, c6, rfl, ho6, hc6, hb6⟩
  have O6 := Lib.hid ho6
  have C6 := Lib.hid hc6
  have B6 := Lib.hid (B5.out.trans (hb6.mono B5.out.size))
  have Y6 := Lib.hid (Y5.out.under hb6 Y5.out.size)
  have A36 := Lib.hid (A35.out.trans (hb6.mono (by have := A35.out.size; omega)))
  have hzY := Y5.out.size
  clear PU ho6 hc6 hb6 B5 Y5 A35
  simp only [List.length_singleton] at O6 C6 ⊢
  have hlen : (L.take pl ++ [(⟨nid, npar, ntx, ndat, nsty⟩ : Nd)] ++ L.drop pl).length = L.length + 1 := by
    have := PK.out
    rw [hpl] at this
    simp; omega
  have PK2 := Lib.hid (show 0 < pl ∧ pl ≤ L.length by rw [← hpl]; exact PK.out)
  have HLEN := Lib.hid hlen
  rw [hpl] at O6 EL
  clear hlen hpl PK PA PB
  go_wp2_with (refine cells_store rtree_flat (.tmp 4) (.tmp 65) rfl rfl (W.heap.size + 1 + 1) rfl [.int .i64 m, .slice A6 (L.length + 1) c6] rfl (by simp [Value.oneCell']) rfl 40 [.int .i64 0, .slice none 0 0] ?_ rfl ?_; (focus (exact Y6.out)); intro w9 h9 o9; have R9 := Lib.hid h9; have O9 := Lib.hid o9; clear h9 o9)
  have b9 := O9.out.below (B := W.heap.size) (by simp; omega) B6.out.size
  have B9 := B6.out.trans b9
  refine cells_end2 rtree_flat rfl (W.heap.size + 1 + 1) rfl [.int .i64 m, .slice A6 (L.length + 1) c6] rfl 40 R9.out rfl ⟨.slice A6 (L.length + 1) c6, by rw [E.out]; rfl, ⟨_, _, _, rfl⟩, fun wx S ho hS => ?_, B9⟩
  rw [EL.out]
  have BX := below_only HW.out hz B9 ho hS
  have S9 : StyAt wx (.slice A1 n1 c1) nsty := by
    rcases HG.out with ⟨e, e2⟩ | h
    · rw [e, e2]; exact (noS_own wx 0).at_
    · have hlow : ∀ g, (Value.slice A1 n1 c1).ownBlock = some g → w2.heap.size ≤ g := fun g hg => by
        obtain ⟨A, c, e, ho, -⟩ := h
        rw [e] at hg
        exact (ho.lt g hg).1
      have s3 := h.only (S := []) (Only.of_below (by rw [hgN]; exact A36.out)) (by simp)
      have s4 := s3.only O9.out (fun g hg hx => by
        have h1 := hlow g hg
        simp at hx; omega)
      have s5 := s4.only ho (fun g hg hx => by
        have h1 := hlow g hg
        have h2 := (hS g hx).2
        omega)
      exact s5.at_
  have O9' := ho.owns (O9.out.owns O6.out fun g hg hx => by
    have := (O6.out.lt g hg).1
    simp at hx; omega) fun g hg hx => by
    have := (O6.out.lt g hg).1
    have := (hS g hx).2
    omega
  have s1 := HS.out.len
  have s2 := HS.out.sty
  obtain ⟨pk1, pk2⟩ := PK2.out
  refine ⟨A6, c6, svs.take pl ++ [.slice A1 n1 c1] ++ svs.drop pl, by rw [HLEN.out], by rw [HLEN.out]; exact C6.out, ⟨?_, ?_, row_of_own O9', ?_⟩⟩
  · rw [HLEN.out]; simp [s1]; omega
  · rw [HLEN.out]; omega
  · have key : ∀ (i : Nat) (sv : Value) (n : Nd), (svs.take pl ++ [.slice A1 n1 c1] ++ svs.drop pl)[i]? = some sv → (L.take pl ++ [(⟨nid, npar, ntx, ndat, nsty⟩ : Nd)] ++ L.drop pl)[i]? = some n → StyAt wx sv n.sty := fun i sv n h1 h2 => by
      have fin : ∀ (j : Nat), svs[j]? = some sv → L[j]? = some n → StyAt wx sv n.sty := fun j q1 q2 => by
        obtain ⟨p1, rfl⟩ := List.getElem?_eq_some_iff.1 q1
        obtain ⟨p2, rfl⟩ := List.getElem?_eq_some_iff.1 q2
        exact (s2 j p2 p1).below BX
      rw [List.append_assoc] at h1 h2
      rcases Nat.lt_or_ge i pl with hik | hik
      · rw [List.getElem?_append_left (by simp; omega), List.getElem?_take, if_pos hik] at h1 h2
        exact fin i h1 h2
      · rw [List.getElem?_append_right (by simp; omega)] at h1 h2
        have l1 : (svs.take pl).length = pl := by simp; omega
        have l2 : (L.take pl).length = pl := by simp; omega
        rw [l1] at h1
        rw [l2] at h2
        rcases Nat.eq_zero_or_pos (i - pl) with hin | hin
        · rw [hin] at h1 h2
          simp at h1 h2
          subst h1 h2
          exact S9
        · rw [List.getElem?_append_right (by simp; omega), List.getElem?_drop] at h1 h2
          simp only [List.length_singleton] at h1 h2
          exact fin _ h1 h2
    intro i hi hi2
    exact key i _ _ (List.getElem?_eq_getElem hi2) (List.getElem?_eq_getElem hi)
end Go.Proofs.YtbhdpfacfgldiaaGreatDoor
