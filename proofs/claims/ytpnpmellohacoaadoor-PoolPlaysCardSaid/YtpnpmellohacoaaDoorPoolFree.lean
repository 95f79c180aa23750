import Derived.Test.YtpnpmellohacoaaDoorPoolOps
/- pool's Free by its contracts. -/
namespace Go.Proofs.YtpnpmellohacoaaDoor
open Go Go.RowKit
set_option linter.unusedVariables false
set_option linter.unusedSimpArgs false

theorem hasP_true {pl : Pl} {p t : Int} (h : hasP pl p t = true) : ∃ k : Nat, p = k ∧ k < pl.length ∧ takenOf pl k = true ∧ turnOf pl k = t := by
  unfold hasP at h
  simp only [Bool.and_eq_true, decide_eq_true_eq] at h
  exact ⟨p.toNat, by omega, by omega, h.2.2.1, h.2.2.2⟩
theorem free_no (g : Nat) (most : Int) (pl : Pl) (T : Int) (S : List Nat) (p t : Int) (w : World) (h : Pool w g most pl T S) (hn : hasP pl p t = false) :
    Calls Tryd.prog 8 #[.pointer (some ⟨g, 0, none⟩), hv p t] w fun e w' => e = .returned (.iface 34 (.int .i64 3)) ∧ Below w.heap.size w w' := by
  have B0 : Below w.heap.size w (w.alloc (.cells #[.int .i64 p, .int .i64 t] 27)) := (Below.refl _ w).alloc (Nat.le_refl _) _
  have PH := Lib.hid (poolHas_any g most pl T S p t _ (h.below B0))
  rw [hn] at PH
  clear h hn
  go_enter Tryd.func8, Tryd.ntmps8
  go_wp2_with fail
  refine PH.out.mono ?_
  rintro e w1 ⟨rfl, hb1⟩
  have HB := Lib.hid (B0.trans (hb1.mono B0.size))
  clear hb1 B0 PH
  go_wp2
  go_ret
  exact ⟨rfl, HB.out⟩
def FreePost (g : Nat) (most : Int) (pl : Pl) (k : Nat) (T : Int) (S : List Nat) (w : World) (e : Ending) (w' : World) : Prop :=
  e = .returned .nilIface ∧ ∃ S', Pool w' g most (freeP pl k) T S' ∧ Only S w w' ∧ ∀ x ∈ S', x ∈ S ∨ w.heap.size ≤ x
theorem free_any (g : Nat) (most : Int) (pl : Pl) (T : Int) (S : List Nat) (k : Nat) (t : Int) (w : World) (h : Pool w g most pl T S) (ht : takenOf pl k = true) (hu : turnOf pl k = t) :
    Calls Tryd.prog 8 #[.pointer (some ⟨g, 0, none⟩), hv k t] w (FreePost g most pl k T S w) := by
  have hkl := taken_lt ht
  have B0 : Below w.heap.size w (w.alloc (.cells #[.int .i64 k, .int .i64 t] 27)) := (Below.refl _ w).alloc (Nat.le_refl _) _
  have A0 := Whole.mk w 27 #[.int .i64 k, .int .i64 t]
  have hp : hasP pl k t = true := by rw [hasP_in hkl, ht, hu]; simp
  have PH := Lib.hid (poolHas_any g most pl T S k t _ (h.below B0))
  rw [hp] at PH
  have HS := Lib.hid h.lt
  have HP0 := Lib.hid h
  have HT := Lib.hid ht
  clear h hp ht hu
  go_enter Tryd.func8, Tryd.ntmps8
  go_wp2_with fail
  refine PH.out.mono ?_
  rintro e w1 ⟨rfl, hb1⟩
  have A1 := A0.under hb1 A0.size
  have HB := Lib.hid (B0.trans (hb1.mono B0.size))
  obtain ⟨PV, FV, fr, hpa, rfl⟩ := HP0.out.below HB.out
  have HPA := Lib.hid hpa
  have l1 := hpa.len
  have l2 := hpa.most
  have hn9 : pl.length ≤ 10000 := by omega
  obtain ⟨b, c, rfl, hc1, hc2, hb⟩ := owns_some hpa.places (by omega)
  have hg := hpa.whole.size
  have hr := A1.size
  have gc : w1.cell? ⟨g, 1, none⟩ = some (.slice (some ⟨b, 0, none⟩) pl.length c) := hpa.whole.cell 1
  have hkl' : (k : Int) < pl.length := by omega
  clear hb1 B0 PH A0 hpa l1 l2 hc2
  go_wp2_with fail
  have K0 : ∀ s : Later w1.heap.size w1, s.w.cell? ⟨w.heap.size, 0, none⟩ = some (.int .i64 k) := fun s => (s.h.cell (p := ⟨w.heap.size, 0, none⟩) hr).trans (A1.cell 0)
  have K1 : ∀ s : Later w1.heap.size w1, s.w.cell? ⟨g, 1, none⟩ = some (.slice (some ⟨b, 0, none⟩) pl.length c) := fun s => (s.h.cell (p := ⟨g, 1, none⟩) hg).trans gc
  refine region_lane [0] [1, 2, 3, 4, 5, 6, 7] [8] (by kernel_rfl) (by kernel_rfl) (fun _ _ _ _ _ h => h) ?_
  simp only [pick, List.map_cons, List.map_nil, List.getD_cons_zero, List.getD_cons_succ, List.drop_succ_cons, List.drop_zero]
  repeat (go_big_quiet_step (fail))
  refine wpQuiet_nil ?_
  refine ⟨rfl, ?_⟩
  refine laneO_run 7 (by kernel_rfl) ?_
  simp only [List.take_succ_cons, List.take_zero, List.drop_succ_cons, List.drop_zero]
  repeat (go_big_quiet_step (fail))
  refine wpQuiet_nil ?_
  refine laneO_end0 rfl rfl fun w2 hb0 => ?_
  have hb2 : Below w1.heap.size w1 w2 := hb0
  have HPA2 := Lib.hid (HPA.out.only (S := []) (Only.of_below hb2) (by simp))
  have A2 := A1.under hb2 A1.size
  have HB2 := Lib.hid (HB.out.trans (hb2.mono HB.out.size))
  obtain ⟨x0, x1⟩ := plCells_get pl k hkl
  have d1 : w2.cell? ⟨b, k * 2 + 1, none⟩ = some (.bool true) := by rw [HPA2.out.places.cellAt _ (by omega), x1, HT.out]
  have f1 := HPA2.out.places.frozenAt (k * 2 + 1)
  clear K0 K1 hb0 hb2 A1 gc hg hr x0 x1 hb
  go_wp2_with fail
  obtain ⟨S1, G1⟩ := HPA2.out.places.stored (k * 2 + 1) (.bool false)
  have hcell : (plCells pl).set (k * 2 + 1) (.bool false) = plCells (freeP pl k) := by
    unfold freeP
    rw [plCells_set pl _ _ _ hkl]
    congr 1
    have := (plCells_get pl k hkl).1
    apply List.ext_getElem? 
    intro i
    rw [List.getElem?_set]
    split
    · rename_i e; subst e; rw [if_pos (by rw [plCells_length]; omega)]; exact this
    · rfl
  rw [hcell] at S1
  have gb : g ≠ b := fun e => whole_ne HPA2.out.whole HPA2.out.places (by decide) (by simp [Value.ownBlock, e])
  have O1 : Only [b] w2 (w2.setCell ⟨b, k * 2 + 1, none⟩ (.bool false)) := (Only.refl _ w2).setCell _ (.inl (by simp)) _
  have bf : ∀ x, FV.ownBlock = some x → x ≠ b := fun x hx e => by
    have := owns_ne HPA2.out.row HPA2.out.places (by decide) hx
    simp [Value.ownBlock] at this
    exact this e.symm
  have W3 := O1.whole HPA2.out.whole (by simpa using gb)
  have R3 := O1.owns HPA2.out.row fun x hx => by simpa using bf x hx
  have rb : w.heap.size ≠ b := fun e => by have := HS.out b (mem_feet.2 (.inr (.inl rfl))); omega
  have A3 := O1.whole A2 (by simpa using rb)
  have O3 : Hid (Only (feet g (Value.slice (some ⟨b, 0, none⟩) pl.length c) FV) w (w2.setCell ⟨b, k * 2 + 1, none⟩ (.bool false))) := Lib.hid ((Only.of_below HB2.out).trans O1 fun x hx => .inl (mem_feet.2 (.inr (.inl (by simpa [Value.ownBlock, eq_comm] using hx)))))
  have HH3 : Hid (HpAt (w2.setCell ⟨b, k * 2 + 1, none⟩ (.bool false)) g (.int .i64 most) (Value.slice (some ⟨b, 0, none⟩) pl.length c) FV fr) := Lib.hid ⟨W3, R3⟩
  have HS1 := Lib.hid S1
  have HA3 := Lib.hid A3
  have hr3 := A3.size
  have hfl : fr.length ≤ 10000 := by have := HPA2.out.inv.count; omega
  have hz3 : Hid (w.heap.size ≤ (w2.setCell ⟨b, k * 2 + 1, none⟩ (.bool false)).heap.size) := Lib.hid (by omega)
  clear S1 G1 O1 W3 R3 A3 A2 HB2 d1 f1 hcell
  generalize w2.setCell ⟨b, k * 2 + 1, none⟩ (.bool false) = W at *
  have K0 : ∀ s : Later W.heap.size W, s.w.cell? ⟨w.heap.size, 0, none⟩ = some (.int .i64 k) := fun s => (s.h.cell (p := ⟨w.heap.size, 0, none⟩) hr3).trans (HA3.out.cell 0)
  refine region_lane [0] [1, 2, 3, 4, 5, 6] [7] (by kernel_rfl) (by kernel_rfl) (fun _ _ _ _ _ h => h) ?_
  simp only [pick, List.map_cons, List.map_nil, List.getD_cons_zero, List.getD_cons_succ, List.drop_succ_cons, List.drop_zero]
  repeat (go_big_quiet_step (fail))
  refine wpQuiet_nil ?_
  refine ⟨rfl, ?_⟩
  refine laneO_run 6 (by kernel_rfl) ?_
  simp only [List.take_succ_cons, List.take_zero, List.drop_succ_cons, List.drop_zero]
  repeat (go_big_quiet_step (fail))
  refine wpQuiet_nil ?_
  refine laneO_end0 rfl rfl fun w4 hb0 => ?_
  have hb4 : Below W.heap.size W w4 := hb0
  have HP4 := Lib.hid (heapPush_any g (.int .i64 most) _ FV fr k w4 (HH3.out.only (S := []) (Only.of_below hb4) (by simp) (fun _ _ => by simp)) HPA.out.inv.heap (by omega))
  have S4 := Lib.hid ((Only.of_below hb4 : Only [] W w4).owns HS1.out (fun _ _ => by simp))
  have O4 := Lib.hid (O3.out.trans (Only.of_below hb4 : Only [] W w4) (by simp))
  have hz4 : Hid (w.heap.size ≤ w4.heap.size) := Lib.hid (Nat.le_trans hz3.out hb4.size)
  clear K0 hb0 hb4
  go_wp2_with fail
  refine HP4.out.mono ?_
  rintro e w5 ⟨rfl, FV', zs', h5, hp5, hh5, ho5, hk5⟩
  have R : Hid (FreePost g most pl k T (feet g (Value.slice (some ⟨b, 0, none⟩) pl.length c) FV) w (.returned .nilIface) w5) := Lib.hid (by
    refine ⟨rfl, feet g (Value.slice (some ⟨b, 0, none⟩) pl.length c) FV', ⟨_, FV', zs', ⟨h5.whole, ?_, h5.row, HPA.out.inv.freed HT.out hh5 hp5, by rw [length_free]; exact HPA.out.len, HPA.out.most, fun i => by rw [turnOf_free hkl]; exact HPA.out.turns i, HPA.out.small⟩, rfl⟩, ?_, ?_⟩
    · rw [length_free]
      refine ho5.owns S4.out fun x hx => ?_
      have e : x = b := by simpa [Value.ownBlock, eq_comm] using hx
      subst e
      simp only [List.mem_cons, Option.mem_toList, not_or]
      exact ⟨fun e => gb e.symm, fun e => bf _ e rfl⟩
    · refine O4.out.trans ho5 fun x hx => ?_
      simp only [List.mem_cons, Option.mem_toList] at hx
      rcases hx with rfl | hx
      · exact .inl (mem_feet.2 (.inl rfl))
      · exact .inl (mem_feet.2 (.inr (.inr hx)))
    · intro x hx
      rcases mem_feet.1 hx with rfl | hx | hx
      · exact .inl (mem_feet.2 (.inl rfl))
      · exact .inl (mem_feet.2 (.inr (.inl hx)))
      · exact (hk5 x hx).imp (fun e => mem_feet.2 (.inr (.inr e))) fun h => Nat.le_trans hz4.out h)
  clear h5 hp5 hh5 ho5 hk5
  go_wp2
  go_ret
  exact R.out
end Go.Proofs.YtpnpmellohacoaaDoor
