import Derived.Test.YtpnpmellohacoaaDoorPoolLaw
import Derived.Test.YtpnpmellohacoaaDoorPlaysNum
/- The document's pool by its contracts. -/
namespace Go.Proofs.YtpnpmellohacoaaDoor
open Go Go.RowKit
set_option linter.unusedVariables false
set_option linter.unusedSimpArgs false

def bRow (l : List Bool) : List Value := l.map Value.bool
theorem bRow_set (l : List Bool) (k : Nat) (b : Bool) : bRow (l.set k b) = (bRow l).set k (.bool b) := by simp [bRow, List.map_set]
theorem i64s_set (l : List Int) (k : Nat) (b : Int) : i64s (l.set k b) = (i64s l).set k (.int .i64 b) := by simp [i64s, List.map_set]
theorem boolOne_info : (Tryd.prog.info? 4).map (fun i => (i.zero, i.size, i.bytes)) = some (some (.bool false), 1, 1) := by kernel_rfl
/-- The document's pool in memory. -/
structure RefAt (w : World) (gw bT bK N : Nat) (pl : Pl) (T : Int) : Prop where
  whole : Whole w gw 59 [.slice (some ⟨bT, 0, none⟩) N N, .slice (some ⟨bK, 0, none⟩) N N]
  turns : w.ownsRow 0 3 1 (.slice (some ⟨bT, 0, none⟩) N N) N (i64s (rT N pl))
  taken : w.ownsRow 0 4 1 (.slice (some ⟨bK, 0, none⟩) N N) N (bRow (rK N pl))
  len : pl.length ≤ N
  most : N ≤ 10000
  turn : ∀ i, 0 ≤ turnOf pl i ∧ turnOf pl i ≤ T
  small : T ≤ 1000000
section
variable {w w' : World} {gw bT bK N : Nat} {pl : Pl} {T : Int} {S : List Nat}
theorem RefAt.neT (h : RefAt w gw bT bK N pl T) : gw ≠ bT := fun e => whole_ne h.whole h.turns (by decide) (by simp [Value.ownBlock, e])
theorem RefAt.neK (h : RefAt w gw bT bK N pl T) : gw ≠ bK := fun e => whole_ne h.whole h.taken (by decide) (by simp [Value.ownBlock, e])
theorem RefAt.neTK (h : RefAt w gw bT bK N pl T) : bT ≠ bK := fun e => owns_ne h.turns h.taken (by decide) (g := bT) rfl (by simp [Value.ownBlock, e])
theorem RefAt.only (h : RefAt w gw bT bK N pl T) (ho : Only S w w') (h1 : gw ∉ S) (h2 : bT ∉ S) (h3 : bK ∉ S) : RefAt w' gw bT bK N pl T :=
  ⟨ho.whole h.whole h1, ho.owns h.turns (fun k hk => by simp [Value.ownBlock] at hk; subst hk; exact h2), ho.owns h.taken (fun k hk => by simp [Value.ownBlock] at hk; subst hk; exact h3), h.len, h.most, h.turn, h.small⟩
theorem RefAt.below (h : RefAt w gw bT bK N pl T) (hb : Below w.heap.size w w') : RefAt w' gw bT bK N pl T := h.only (S := []) (Only.of_below hb) (by simp) (by simp) (by simp)
theorem RefAt.turnAt (h : RefAt w gw bT bK N pl T) {k : Nat} (hk : k < N) : w.cell? ⟨bT, k, none⟩ = some (.int .i64 (turnOf pl k)) := by
  rw [h.turns.cellAt k (by omega)]; simp [i64s, rT_at hk]
theorem RefAt.takenAt (h : RefAt w gw bT bK N pl T) {k : Nat} (hk : k < N) : w.cell? ⟨bK, k, none⟩ = some (.bool (takenOf pl k)) := by
  rw [h.taken.cellAt k (by omega)]; simp [bRow, rK_at hk]
end
theorem rlen_any (w : World) (gw bT bK N : Nat) (pl : Pl) (T : Int) (h : RefAt w gw bT bK N pl T) :
    Calls Tryd.prog 17 #[.pointer (some ⟨gw, 0, none⟩)] w fun e w' => e = .returned (.int .i64 (countP pl)) ∧ w = w' := by
  have H := Lib.hid h
  have c1 : w.cell? ⟨gw, 1, none⟩ = some (.slice (some ⟨bK, 0, none⟩) N N) := h.whole.cell 1
  have hN := h.most
  have hN' : (N : Int) ≤ 10000 := by omega
  clear h
  go_enter Tryd.func17, Tryd.ntmps17
  go_wp2
  go_loop [3, 4] (fun n i => ∃ k : Nat, k ≤ N ∧ i = .int .i64 k ∧ n = .int .i64 (upto pl k)) (fun _ i => N - (intOf i).toNat)
  case atStart => exact ⟨0, Nat.zero_le _, rfl, rfl⟩
  case round =>
    obtain ⟨k, hk, rfl, rfl⟩ := hrel
    by_cases hlt : k < N
    · have hlt' : (k : Int) < N := by omega
      have c2 := H.out.takenAt hlt
      have hu := upto_le pl k
      have hs : upto pl (k + 1) = upto pl k + if takenOf pl k then 1 else 0 := rfl
      have HS := Lib.hid hs
      clear hs
      generalize upto pl k = u at *
      generalize takenOf pl k = tk at *
      cases tk
      all_goals
        go_wp2
        go_round
        case rel => exact ⟨k + 1, by omega, by go_num, by rw [HS.out]; first | rfl | go_num | simp⟩
        case measure => simp [intOf]; omega
    · obtain rfl : k = N := by omega
      go_wp2
      go_ret
      exact ⟨ret_int64 (by rw [upto_all pl k H.out.len]), rfl⟩
theorem hasR {pl : Pl} {k : Nat} {t : Int} : hasP pl k t = (takenOf pl k && decide (turnOf pl k = t)) := by
  by_cases h : k < pl.length
  · exact hasP_in h
  · rw [hasP_out (by omega), takenOf_out (by omega)]; rfl
theorem rhas_any (w : World) (gw bT bK N : Nat) (pl : Pl) (T p t : Int) (h : RefAt w gw bT bK N pl T) :
    Calls Tryd.prog 15 #[.pointer (some ⟨gw, 0, none⟩), hv p t] w fun e w' => e = .returned (.bool (hasP pl p t)) ∧ Below w.heap.size w w' := by
  have hN := h.most
  have hN' : (N : Int) ≤ 10000 := by omega
  have hg := h.whole.size
  have c0 : w.cell? ⟨gw, 0, none⟩ = some (.slice (some ⟨bT, 0, none⟩) N N) := h.whole.cell 0
  have c1 : w.cell? ⟨gw, 1, none⟩ = some (.slice (some ⟨bK, 0, none⟩) N N) := h.whole.cell 1
  have hsT := owns_lt h.turns (g := bT) rfl
  have hsK := owns_lt h.taken (g := bK) rfl
  by_cases hn : p < 0
  · have HE := Lib.hid (hasP_neg (pl := pl) (t := t) hn)
    have hn1 : decide (0 ≤ p) = false := by simp; omega
    clear h
    go_enter Tryd.func15, Tryd.ntmps15
    go_wp2
    go_quiet (fail)
    all_goals
      go_wp2
      go_ret
      exact ⟨ret_bool HE.out.symm, Below.drewN' ((Below.refl _ w).alloc (Nat.le_refl _) _) _⟩
  · by_cases hb : (N : Int) ≤ p
    · have HE := Lib.hid (hasP_out (pl := pl) (p := p) (t := t) (by have := h.len; omega))
      have hn' : 0 ≤ p := by omega
      have hn1 : decide (0 ≤ p) = true := by simp; omega
      have hb1 : decide (p < (N : Int)) = false := by simp; omega
      clear hn h
      go_enter Tryd.func15, Tryd.ntmps15
      go_wp2
      go_quiet (fail)
      all_goals
        go_wp2
        go_ret
        exact ⟨ret_bool HE.out.symm, Below.drewN' ((Below.refl _ w).alloc (Nat.le_refl _) _) _⟩
    · obtain ⟨k, rfl⟩ : ∃ k : Nat, p = k := ⟨p.toNat, by omega⟩
      have hk : k < N := by omega
      have hk' : (k : Int) < N := by omega
      have d0 := h.turnAt hk
      have d1 := h.takenAt hk
      have HE := Lib.hid (hasR (pl := pl) (k := k) (t := t))
      clear hn hb h
      generalize turnOf pl k = u at *
      generalize takenOf pl k = tk at *
      cases tk
      all_goals
        go_enter Tryd.func15, Tryd.ntmps15
        go_wp2
        go_quiet (fail)
        all_goals
          go_wp2
          go_ret
          exact ⟨ret_bool (by rw [HE.out]; first | rfl | simp), Below.drewN' ((Below.refl _ w).alloc (Nat.le_refl _) _) _⟩

theorem rtake_no (w : World) (gw bT bK N : Nat) (pl : Pl) (T : Int) (h : RefAt w gw bT bK N pl T) (hf : countP pl = N) :
    Calls Tryd.prog 13 #[.pointer (some ⟨gw, 0, none⟩)] w fun e w' => e = .returned (.tuple #[hv 0 0, .bool false]) ∧ Below w.heap.size w w' := by
  have hN := h.most
  have hN' : (N : Int) ≤ 10000 := by omega
  have B0 : Below w.heap.size w (w.alloc (.cells #[.int .i64 0, .int .i64 0] 27)) := (Below.refl _ w).alloc (Nat.le_refl _) _
  have A0 := Whole.mk w 27 #[.int .i64 0, .int .i64 0]
  have H := Lib.hid (h.below B0)
  have HA := Lib.hid (full_all h.len hf)
  clear h hf
  go_enter Tryd.func13, Tryd.ntmps13
  go_wp2_with fail
  generalize w.alloc (.cells #[.int .i64 0, .int .i64 0] 27) = W at *
  have c1 : W.cell? ⟨gw, 1, none⟩ = some (.slice (some ⟨bK, 0, none⟩) N N) := H.out.whole.cell 1
  have e0 : W.cell? ⟨w.heap.size, 0, none⟩ = some (.int .i64 0) := A0.cell 0
  have e1 : W.cell? ⟨w.heap.size, 1, none⟩ = some (.int .i64 0) := A0.cell 1
  have e2 := A0.free 0
  have e3 := A0.free 1
  have HB0 := Lib.hid B0
  clear B0 A0
  go_loop [4] (fun i => ∃ k : Nat, k ≤ N ∧ i = .int .i64 k) (fun i => N - (intOf i).toNat)
  case atStart => exact ⟨0, Nat.zero_le _, rfl⟩
  case round =>
    obtain ⟨k, hk, rfl⟩ := hrel
    by_cases hlt : k < N
    · have hlt' : (k : Int) < N := by omega
      have c2 := H.out.takenAt hlt
      rw [HA.out k hlt] at c2
      go_wp2
      go_round
      case rel => exact ⟨k + 1, by omega, by go_num⟩
      case measure => simp [intOf]; omega
    · have hlt' : ¬ (k : Int) < N := by omega
      go_wp2
      refine bodyPost_ret (v := .tuple #[hv 0 0, .bool false]) (by simp [results, Tryd.results13, go_sem, e0, e1, e2, e3]) rfl ⟨rfl, ?_⟩
      exact (HB0.out.setCell (by simp) _).setCell (by simp) _
def RTake (gw bT bK N : Nat) (pl : Pl) (T : Int) (w : World) (e : Ending) (w' : World) : Prop :=
  e = .returned (.tuple #[hv (leastF pl) (turnOf pl (leastF pl) + 1), .bool true]) ∧ RefAt w' gw bT bK N (takeP pl) (T + 1) ∧ Only [bT, bK] w w'
theorem rtake_any (w : World) (gw bT bK N : Nat) (pl : Pl) (T : Int) (h : RefAt w gw bT bK N pl T) (hf : countP pl < N) (hT : T + 1 ≤ 1000000) :
    Calls Tryd.prog 13 #[.pointer (some ⟨gw, 0, none⟩)] w (RTake gw bT bK N pl T w) := by
  have hN := h.most
  have hN' : (N : Int) ≤ 10000 := by omega
  have hL := least_room h.len hf
  have hL' : (leastF pl : Int) < N := by omega
  have B0 : Below w.heap.size w (w.alloc (.cells #[.int .i64 0, .int .i64 0] 27)) := (Below.refl _ w).alloc (Nat.le_refl _) _
  have A0 := Whole.mk w 27 #[.int .i64 0, .int .i64 0]
  have hgw := h.whole.size
  have hbT := owns_lt h.turns (g := bT) rfl
  have hbK := owns_lt h.taken (g := bK) rfl
  have H := Lib.hid (h.below B0)
  have HF := Lib.hid hf
  clear h hf
  go_enter Tryd.func13, Tryd.ntmps13
  go_wp2_with fail
  have hz : Hid (w.heap.size < (w.alloc (.cells #[.int .i64 0, .int .i64 0] 27)).heap.size) := Lib.hid A0.size
  generalize w.alloc (.cells #[.int .i64 0, .int .i64 0] 27) = W at *
  have c0 : W.cell? ⟨gw, 0, none⟩ = some (.slice (some ⟨bT, 0, none⟩) N N) := H.out.whole.cell 0
  have c1 : W.cell? ⟨gw, 1, none⟩ = some (.slice (some ⟨bK, 0, none⟩) N N) := H.out.whole.cell 1
  have e0 : W.cell? ⟨w.heap.size, 0, none⟩ = some (.int .i64 0) := A0.cell 0
  have e1 : W.cell? ⟨w.heap.size, 1, none⟩ = some (.int .i64 0) := A0.cell 1
  have e2 := A0.free 0
  have e3 := A0.free 1
  have HB0 := Lib.hid B0
  have HA0 := Lib.hid A0
  have n1 := H.out.neT
  have n2 := H.out.neK
  have n3 := H.out.neTK
  have n4 : w.heap.size ≠ bT := by omega
  have n5 : w.heap.size ≠ bK := by omega
  have n6 : w.heap.size ≠ gw := by omega
  clear B0 A0
  go_loop [4] (fun i => ∃ k : Nat, k ≤ leastF pl ∧ i = .int .i64 k) (fun i => N - (intOf i).toNat)
  case atStart => exact ⟨0, Nat.zero_le _, rfl⟩
  case round =>
    obtain ⟨k, hk, rfl⟩ := hrel
    by_cases hlt : k < leastF pl
    · have hlt' : (k : Int) < N := by omega
      have hkN : k < N := by omega
      have c2 := H.out.takenAt hkN
      rw [leastF_below pl k hlt] at c2
      go_wp2
      go_round
      case rel => exact ⟨k + 1, by omega, by go_num⟩
      case measure => simp [intOf]; omega
    · obtain rfl : k = leastF pl := by omega
      have c2 := H.out.takenAt hL
      rw [leastF_free] at c2
      have c3 := H.out.turnAt hL
      have f2 := H.out.taken.frozenAt (leastF pl)
      have f3 := H.out.turns.frozenAt (leastF pl)
      have tb := H.out.turn (leastF pl)
      have t0 := tb.1
      have t1 : turnOf pl (leastF pl) ≤ 1000000 := by have := tb.2; have := H.out.small; omega
      have HRT := Lib.hid (rT_take hL)
      have HRK := Lib.hid (rK_take hL)
      clear tb
      generalize htn : turnOf pl (leastF pl) = tn at *
      have HTN := Lib.hid htn
      clear htn hlt
      go_wp2
      refine bodyPost_ret (v := .tuple #[hv (leastF pl) (tn + 1), .bool true]) (by simp [results, Tryd.results13, go_sem, e0, e1, e2, e3]) rfl ?_
      obtain ⟨S1, _⟩ := H.out.taken.stored (leastF pl) (.bool true)
      rw [← bRow_set, HRK.out] at S1
      have O1 : Only [bK] W (W.setCell ⟨bK, leastF pl, none⟩ (.bool true)) := (Only.refl _ W).setCell _ (.inl (by simp)) _
      have T1 := O1.owns H.out.turns fun x hx => by simp [Value.ownBlock] at hx; subst hx; simpa using n3
      obtain ⟨S2, _⟩ := T1.stored (leastF pl) (.int .i64 (tn + 1))
      rw [← i64s_set, HRT.out] at S2
      have O2 : Only [bT, w.heap.size] (W.setCell ⟨bK, leastF pl, none⟩ (.bool true)) ((((W.setCell ⟨bK, leastF pl, none⟩ (.bool true)).setCell ⟨bT, leastF pl, none⟩ (.int .i64 (tn + 1))).setCell ⟨w.heap.size, 0, none⟩ (.int .i64 (leastF pl))).setCell ⟨w.heap.size, 1, none⟩ (.int .i64 (tn + 1))) :=
        (((Only.refl _ _).setCell _ (.inl (by simp)) _).setCell _ (.inl (by simp)) _).setCell _ (.inl (by simp)) _
      have O3 : Only [w.heap.size] ((W.setCell ⟨bK, leastF pl, none⟩ (.bool true)).setCell ⟨bT, leastF pl, none⟩ (.int .i64 (tn + 1))) ((((W.setCell ⟨bK, leastF pl, none⟩ (.bool true)).setCell ⟨bT, leastF pl, none⟩ (.int .i64 (tn + 1))).setCell ⟨w.heap.size, 0, none⟩ (.int .i64 (leastF pl))).setCell ⟨w.heap.size, 1, none⟩ (.int .i64 (tn + 1))) :=
        ((Only.refl _ _).setCell _ (.inl (by simp)) _).setCell _ (.inl (by simp)) _
      have hlen : (takeP pl).length ≤ N := by
        rw [length_take]
        have := H.out.len
        have := leastF_le pl
        split <;> omega
      refine ⟨by rw [HTN.out], ⟨O2.whole (O1.whole H.out.whole (by simpa using n2)) (by simp; exact ⟨n1, fun e => n6 e.symm⟩), O3.owns S2 (fun x hx => by simp [Value.ownBlock] at hx; subst hx; simp; exact fun e => n4 e.symm), O2.owns S1 (fun x hx => by simp [Value.ownBlock] at hx; subst hx; simp; exact ⟨fun e => n3 e.symm, fun e => n5 e.symm⟩), hlen, hN, fun i => ?_, hT⟩, ?_⟩
      · have := H.out.turn i
        rw [turnOf_take]
        split <;> omega
      · refine ((Only.of_below HB0.out).trans O1 (by simp)).trans O2 fun x hx => ?_
        simp at hx
        rcases hx with rfl | rfl
        · exact .inl (by simp)
        · exact .inr (Nat.le_refl _)
theorem rfree_no (w : World) (gw bT bK N : Nat) (pl : Pl) (T p t : Int) (h : RefAt w gw bT bK N pl T) (hn : hasP pl p t = false) :
    Calls Tryd.prog 16 #[.pointer (some ⟨gw, 0, none⟩), hv p t] w fun e w' => e = .returned (.bool false) ∧ Below w.heap.size w w' := by
  have B0 : Below w.heap.size w (w.alloc (.cells #[.int .i64 p, .int .i64 t] 27)) := (Below.refl _ w).alloc (Nat.le_refl _) _
  have PH := Lib.hid (rhas_any _ gw bT bK N pl T p t (h.below B0))
  rw [hn] at PH
  clear h hn
  go_enter Tryd.func16, Tryd.ntmps16
  go_wp2_with fail
  refine PH.out.mono ?_
  rintro e w1 ⟨rfl, hb1⟩
  have HB := Lib.hid (B0.trans (hb1.mono B0.size))
  clear hb1 B0 PH
  go_wp2
  go_ret
  exact ⟨rfl, HB.out⟩
def RFree (gw bT bK N : Nat) (pl : Pl) (k : Nat) (T : Int) (w : World) (e : Ending) (w' : World) : Prop := e = .returned (.bool true) ∧ RefAt w' gw bT bK N (freeP pl k) T ∧ Only [bT, bK] w w'
theorem rfree_any (w : World) (gw bT bK N : Nat) (pl : Pl) (T t : Int) (k : Nat) (h : RefAt w gw bT bK N pl T) (ht : takenOf pl k = true) (hu : turnOf pl k = t) :
    Calls Tryd.prog 16 #[.pointer (some ⟨gw, 0, none⟩), hv k t] w (RFree gw bT bK N pl k T w) := by
  have hkl := taken_lt ht
  have hkN : k < N := by have := h.len; omega
  have hkN' : (k : Int) < N := by omega
  have hN := h.most
  have B0 : Below w.heap.size w (w.alloc (.cells #[.int .i64 k, .int .i64 t] 27)) := (Below.refl _ w).alloc (Nat.le_refl _) _
  have A0 := Whole.mk w 27 #[.int .i64 k, .int .i64 t]
  have hp : hasP pl k t = true := by rw [hasP_in hkl, ht, hu]; simp
  have PH := Lib.hid (rhas_any _ gw bT bK N pl T k t (h.below B0))
  rw [hp] at PH
  have HP0 := Lib.hid h
  have HT := Lib.hid ht
  clear h hp ht hu
  go_enter Tryd.func16, Tryd.ntmps16
  go_wp2_with fail
  refine PH.out.mono ?_
  rintro e w1 ⟨rfl, hb1⟩
  have A1 := A0.under hb1 A0.size
  have HB := Lib.hid (B0.trans (hb1.mono B0.size))
  have H1 := Lib.hid (HP0.out.below HB.out)
  have hg := H1.out.whole.size
  have hr := A1.size
  have gc : w1.cell? ⟨gw, 1, none⟩ = some (.slice (some ⟨bK, 0, none⟩) N N) := H1.out.whole.cell 1
  clear hb1 B0 PH A0
  go_wp2_with fail
  have K0 : ∀ s : Later w1.heap.size w1, s.w.cell? ⟨w.heap.size, 0, none⟩ = some (.int .i64 k) := fun s => (s.h.cell (p := ⟨w.heap.size, 0, none⟩) hr).trans (A1.cell 0)
  have K1 : ∀ s : Later w1.heap.size w1, s.w.cell? ⟨gw, 1, none⟩ = some (.slice (some ⟨bK, 0, none⟩) N N) := fun s => (s.h.cell (p := ⟨gw, 1, none⟩) hg).trans gc
  refine region_lane [0] [1, 2, 3, 4, 5, 6] [7] (by kernel_rfl) (by kernel_rfl) (fun _ _ _ _ _ h => h) ?_
  simp only [pick, List.map_cons, List.map_nil, List.getD_cons_zero, List.getD_cons_succ, List.drop_succ_cons, List.drop_zero]
  repeat (go_big_quiet_step (fail))
  refine wpQuiet_nil ?_
  refine ⟨rfl, ?_⟩
  refine laneO_run 6 (by kernel_rfl) ?_
  simp only [List.take_succ_cons, List.take_zero, List.drop_succ_cons, List.drop_zero]
  repeat (go_big_quiet_step (fail))
  refine wpQuiet_nil ?_
  refine laneO_end0 rfl rfl fun w2 hb0 => ?_
  have hb2 : Below w1.heap.size w1 w2 := hb0
  have H2 := Lib.hid (H1.out.below hb2)
  have HB2 := Lib.hid (HB.out.trans (hb2.mono HB.out.size))
  have d1 : w2.cell? ⟨bK, k, none⟩ = some (.bool (takenOf pl k)) := H2.out.takenAt hkN
  have f1 := H2.out.taken.frozenAt k
  generalize takenOf pl k = tk at *
  clear K0 K1 hb0 hb2 A1 gc hg hr HB
  go_wp2
  go_ret
  obtain ⟨S1, _⟩ := H2.out.taken.stored k (.bool false)
  rw [← bRow_set, rK_free hkl hkN] at S1
  have O1 : Only [bK] w2 (w2.setCell ⟨bK, k, none⟩ (.bool false)) := (Only.refl _ w2).setCell _ (.inl (by simp)) _
  refine ⟨rfl, ⟨O1.whole H2.out.whole (by simpa using H2.out.neK), ?_, S1, by rw [length_free]; exact H2.out.len, hN, fun i => by rw [turnOf_free hkl]; exact H2.out.turn i, H2.out.small⟩, ((Only.of_below HB2.out).trans O1 (by simp))⟩
  rw [rT_free hkl]
  exact O1.owns H2.out.turns fun x hx => by simp [Value.ownBlock] at hx; subst hx; simpa using H2.out.neTK

/-- A row that was just made. -/
def ownT (lo e size N : Nat) (cells : List Value) : Told := fun v w => ∃ g, v = .slice (some ⟨g, 0, none⟩) N N ∧ lo ≤ g ∧ w.ownsRow 0 e size (.slice (some ⟨g, 0, none⟩) N N) N cells
theorem ownT_steady (lo e size N : Nat) (cells : List Value) : Steady (ownT lo e size N cells) := fun v w w' hb ⟨g, h1, h0, h2⟩ => ⟨g, h1, h0, (Only.of_below hb : Only [] w w').owns h2 (fun _ _ => by simp)⟩
theorem gives_make {P : Program} {o : Oper} {a : Act} {w : World} {t : TypeId} {l c : Operand} (hop : o.op = .makeSlice t l c) (e size bytes N : Nat) (z : Value) (h1 : P.underlying t = some (.slice e)) (hinfo : (P.info? e).map (fun i => (i.zero, i.size, i.bytes)) = some (some z, size, bytes))
    (L : Int) (hl : a.eval l = .int .i64 L) (hc : a.eval c = .int .i64 L) (hL : L = N) (b2 : bytes * N ≤ 281474976710656) (b3 : N ≤ maxLen) (lo : Nat) (hlo : lo ≤ w.heap.size) : gives P o a w (ownT lo e size N (madeCells z.cells (N * size)).toList) := by
  obtain ⟨i, hi, hz, hs, hb⟩ := info_parts hinfo
  obtain ⟨w', hrun, r1, r2⟩ := run_make_full (P := P) w 0 t e i z size h1 hi hz hs .i64 .i64 N (by rw [hb]; exact b2) b3 (Nat.zero_le _)
  subst hL
  unfold gives
  have : (execOp a.eval o).run P w = .ok (.value (.slice (some ⟨w.heap.size, 0, none⟩) N N)) w' := by
    simp [execOp, hop, hl, hc, hrun, Result.andThen]
  rw [this]
  exact ⟨⟨r2.os, r2.tape, r2.output, r2.size, fun k hk => r2.block k hk (by simp)⟩, w.heap.size, rfl, hlo, r1⟩
theorem made_ints (N : Nat) : (madeCells (Value.int .i64 0).cells (N * 1)).toList = i64s (rT N []) := by
  rw [Nat.mul_one, rT_new]
  show (madeCells #[_] N).toList = _
  rw [toList_madeCells_one]
  simp [i64s]
theorem made_bools (N : Nat) : (madeCells (Value.bool false).cells (N * 1)).toList = bRow (rK N []) := by
  rw [Nat.mul_one, rK_new]
  show (madeCells #[_] N).toList = _
  rw [toList_madeCells_one]
  simp [bRow]
def RNew (most : Int) (w : World) (e : Ending) (w' : World) : Prop := ∃ gw bT bK, e = .returned (.pointer (some ⟨gw, 0, none⟩)) ∧ RefAt w' gw bT bK (bndP most).toNat [] 0 ∧ w.heap.size ≤ gw ∧ w.heap.size ≤ bT ∧ w.heap.size ≤ bK ∧ Below w.heap.size w w'
set_option maxRecDepth 20000 in
theorem rnew_any (most : Int) (w : World) : Calls Tryd.prog 12 #[.int .i64 most] w (RNew most w) := by
  obtain ⟨N, hN⟩ : ∃ N, (bndP most).toNat = N := ⟨_, rfl⟩
  have HN := Lib.hid hN
  unfold bndP at hN
  have hm9 : Hid (N ≤ 10000) := Lib.hid (by omega)
  rcases (show most < 0 ∨ (0 ≤ most ∧ most ≤ 10000) ∨ 10000 < most by omega) with h | ⟨h, h2⟩ | h
  · have hm' : Hid ((0 : Int) = N) := Lib.hid (by omega)
    clear hN
    go_enter Tryd.func12, Tryd.ntmps12
    go_wp2_with fail
    have b1 : 8 * N ≤ 281474976710656 := by have := hm9.out; omega
    have b2 : 1 * N ≤ 281474976710656 := by have := hm9.out; omega
    have b3 : N ≤ maxLen := by have := hm9.out; unfold maxLen; omega
    refine region_lane [0, 2] [1, 3] [4, 5, 6] (by kernel_rfl) (by kernel_rfl) (fun _ _ _ _ _ h => h) ?_
    simp only [pick, List.map_cons, List.map_nil, List.getD_cons_zero, List.getD_cons_succ, List.drop_succ_cons, List.drop_zero]
    repeat (go_big_quiet_step (fail))
    refine wpQuiet_nil ?_
    refine ⟨rfl, ?_⟩
    refine laneO_told (ownT w.heap.size 3 1 N (madeCells (Value.int .i64 0).cells (N * 1)).toList) (ownT_steady _ _ _ _ _) (by kernel_rfl) rfl (fun w hw => .inl ⟨by rfl, gives_make rfl 3 1 8 N (.int .i64 0) Tryd.underlying22 int_info _ rfl rfl hm'.out b1 b3 _ hw.size⟩) ?_
    refine laneO_told (ownT w.heap.size 4 1 N (madeCells (Value.bool false).cells (N * 1)).toList) (ownT_steady _ _ _ _ _) (by kernel_rfl) rfl (fun w hw => .inl ⟨by rfl, gives_make rfl 4 1 1 N (.bool false) Tryd.underlying46 boolOne_info _ rfl rfl hm'.out b2 b3 _ hw.size⟩) ?_
    refine laneO_end (by simp) rfl rfl rfl fun w1 hb0 => ?_
    rintro x ⟨bK, rfl, hbK, hK⟩ y ⟨bT, rfl, hbT, hT⟩
    simp only [Act.put, List.setIfInBounds_toArray, List.set_cons_zero, List.set_cons_succ, fillAll]
    have hb1 : Below w.heap.size w w1 := hb0
    rw [made_bools] at hK
    rw [made_ints] at hT
    have HK := Lib.hid hK
    have HT := Lib.hid hT
    have HB := Lib.hid hb1
    clear hK hT hb1 hb0 b1 b2 b3
    go_wp2
    go_ret
    refine ⟨w1.heap.size, bT, bK, rfl, ?_, HB.out.size, hbT, hbK, HB.out.alloc HB.out.size _⟩
    rw [HN.out]
    exact ⟨Whole.mk w1 _ _, HT.out.alloc _, HK.out.alloc _, Nat.zero_le _, hm9.out, fun i => by simp [turnOf], by decide⟩
  · have hm' : Hid (most = N) := Lib.hid (by omega)
    clear hN
    go_enter Tryd.func12, Tryd.ntmps12
    go_wp2_with fail
    have b1 : 8 * N ≤ 281474976710656 := by have := hm9.out; omega
    have b2 : 1 * N ≤ 281474976710656 := by have := hm9.out; omega
    have b3 : N ≤ maxLen := by have := hm9.out; unfold maxLen; omega
    refine region_lane [0, 2] [1, 3] [4, 5, 6] (by kernel_rfl) (by kernel_rfl) (fun _ _ _ _ _ h => h) ?_
    simp only [pick, List.map_cons, List.map_nil, List.getD_cons_zero, List.getD_cons_succ, List.drop_succ_cons, List.drop_zero]
    repeat (go_big_quiet_step (fail))
    refine wpQuiet_nil ?_
    refine ⟨rfl, ?_⟩
    refine laneO_told (ownT w.heap.size 3 1 N (madeCells (Value.int .i64 0).cells (N * 1)).toList) (ownT_steady _ _ _ _ _) (by kernel_rfl) rfl (fun w hw => .inl ⟨by rfl, gives_make rfl 3 1 8 N (.int .i64 0) Tryd.underlying22 int_info _ rfl rfl hm'.out b1 b3 _ hw.size⟩) ?_
    refine laneO_told (ownT w.heap.size 4 1 N (madeCells (Value.bool false).cells (N * 1)).toList) (ownT_steady _ _ _ _ _) (by kernel_rfl) rfl (fun w hw => .inl ⟨by rfl, gives_make rfl 4 1 1 N (.bool false) Tryd.underlying46 boolOne_info _ rfl rfl hm'.out b2 b3 _ hw.size⟩) ?_
    refine laneO_end (by simp) rfl rfl rfl fun w1 hb0 => ?_
    rintro x ⟨bK, rfl, hbK, hK⟩ y ⟨bT, rfl, hbT, hT⟩
    simp only [Act.put, List.setIfInBounds_toArray, List.set_cons_zero, List.set_cons_succ, fillAll]
    have hb1 : Below w.heap.size w w1 := hb0
    rw [made_bools] at hK
    rw [made_ints] at hT
    have HK := Lib.hid hK
    have HT := Lib.hid hT
    have HB := Lib.hid hb1
    clear hK hT hb1 hb0 b1 b2 b3
    go_wp2
    go_ret
    refine ⟨w1.heap.size, bT, bK, rfl, ?_, HB.out.size, hbT, hbK, HB.out.alloc HB.out.size _⟩
    rw [HN.out]
    exact ⟨Whole.mk w1 _ _, HT.out.alloc _, HK.out.alloc _, Nat.zero_le _, hm9.out, fun i => by simp [turnOf], by decide⟩
  · have hm' : Hid ((10000 : Int) = N) := Lib.hid (by omega)
    clear hN
    go_enter Tryd.func12, Tryd.ntmps12
    go_wp2_with fail
    have b1 : 8 * N ≤ 281474976710656 := by have := hm9.out; omega
    have b2 : 1 * N ≤ 281474976710656 := by have := hm9.out; omega
    have b3 : N ≤ maxLen := by have := hm9.out; unfold maxLen; omega
    refine region_lane [0, 2] [1, 3] [4, 5, 6] (by kernel_rfl) (by kernel_rfl) (fun _ _ _ _ _ h => h) ?_
    simp only [pick, List.map_cons, List.map_nil, List.getD_cons_zero, List.getD_cons_succ, List.drop_succ_cons, List.drop_zero]
    repeat (go_big_quiet_step (fail))
    refine wpQuiet_nil ?_
    refine ⟨rfl, ?_⟩
    refine laneO_told (ownT w.heap.size 3 1 N (madeCells (Value.int .i64 0).cells (N * 1)).toList) (ownT_steady _ _ _ _ _) (by kernel_rfl) rfl (fun w hw => .inl ⟨by rfl, gives_make rfl 3 1 8 N (.int .i64 0) Tryd.underlying22 int_info _ rfl rfl hm'.out b1 b3 _ hw.size⟩) ?_
    refine laneO_told (ownT w.heap.size 4 1 N (madeCells (Value.bool false).cells (N * 1)).toList) (ownT_steady _ _ _ _ _) (by kernel_rfl) rfl (fun w hw => .inl ⟨by rfl, gives_make rfl 4 1 1 N (.bool false) Tryd.underlying46 boolOne_info _ rfl rfl hm'.out b2 b3 _ hw.size⟩) ?_
    refine laneO_end (by simp) rfl rfl rfl fun w1 hb0 => ?_
    rintro x ⟨bK, rfl, hbK, hK⟩ y ⟨bT, rfl, hbT, hT⟩
    simp only [Act.put, List.setIfInBounds_toArray, List.set_cons_zero, List.set_cons_succ, fillAll]
    have hb1 : Below w.heap.size w w1 := hb0
    rw [made_bools] at hK
    rw [made_ints] at hT
    have HK := Lib.hid hK
    have HT := Lib.hid hT
    have HB := Lib.hid hb1
    clear hK hT hb1 hb0 b1 b2 b3
    go_wp2
    go_ret
    refine ⟨w1.heap.size, bT, bK, rfl, ?_, HB.out.size, hbT, hbK, HB.out.alloc HB.out.size _⟩
    rw [HN.out]
    exact ⟨Whole.mk w1 _ _, HT.out.alloc _, HK.out.alloc _, Nat.zero_le _, hm9.out, fun i => by simp [turnOf], by decide⟩
end Go.Proofs.YtpnpmellohacoaaDoor
