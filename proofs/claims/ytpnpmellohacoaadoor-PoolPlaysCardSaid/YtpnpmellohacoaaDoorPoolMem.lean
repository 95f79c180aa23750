import Derived.Test.YtpnpmellohacoaaDoorHeapOps
import Derived.Test.YtpnpmellohacoaaDoorPoolNum
/- A pool in memory; Len and Has by their contracts. -/
namespace Go.Proofs.YtpnpmellohacoaaDoor
open Go Go.RowKit
set_option linter.unusedVariables false
set_option linter.unusedSimpArgs false

def plCells : Pl → List Value
  | [] => []
  | p :: r => .int .i64 p.1 :: .bool p.2 :: plCells r
theorem plCells_length (pl : Pl) : (plCells pl).length = pl.length * 2 := by
  induction pl with
  | nil => rfl
  | cons p r ih => simp [plCells, ih]; omega
theorem plCells_get (pl : Pl) : ∀ k, k < pl.length → (plCells pl)[k * 2]? = some (.int .i64 (turnOf pl k)) ∧ (plCells pl)[k * 2 + 1]? = some (.bool (takenOf pl k)) := by
  induction pl with
  | nil => intro k h; simp at h
  | cons p r ih =>
    intro k h
    cases k with
    | zero => exact ⟨rfl, rfl⟩
    | succ k =>
      have := ih k (by simpa using h)
      rw [show (k + 1) * 2 = k * 2 + 1 + 1 by omega, turnOf_cons, takenOf_cons]
      simpa [plCells] using this
theorem plCells_set (pl : Pl) : ∀ k (t : Int) (b : Bool), k < pl.length → plCells (pl.set k (t, b)) = ((plCells pl).set (k * 2) (.int .i64 t)).set (k * 2 + 1) (.bool b) := by
  induction pl with
  | nil => intro k t b h; simp at h
  | cons p r ih =>
    intro k t b h
    cases k with
    | zero => rfl
    | succ k =>
      have := ih k t b (by simpa using h)
      rw [show (k + 1) * 2 = k * 2 + 1 + 1 by omega]
      simp [plCells, this]
theorem plCells_append (a b : Pl) : plCells (a ++ b) = plCells a ++ plCells b := by
  induction a with
  | nil => rfl
  | cons p r ih => simp [plCells, ih]
theorem plCells_one (pl : Pl) : ∀ u ∈ plCells pl, u.oneCell' = true := by
  induction pl with
  | nil => simp [plCells]
  | cons p r ih =>
    intro u hu
    simp only [plCells, List.mem_cons] at hu
    rcases hu with rfl | rfl | hu
    · rfl
    · rfl
    · exact ih u hu
theorem place_info : (Tryd.prog.info? 53).map (fun i => (i.zero, i.size, i.bytes)) = some (some (.agg #[.int .i64 0, .bool false]), 2, 16) := by kernel_rfl

structure PoolAt (w : World) (g : Nat) (most : Int) (PV FV : Value) (pl : Pl) (fr : List Int) (T : Int) : Prop where
  whole : Whole w g 51 [.int .i64 most, PV, FV]
  places : w.ownsRow 0 53 2 PV pl.length (plCells pl)
  row : w.ownsRow 0 3 1 FV fr.length (i64s fr)
  inv : PoolInv fr pl
  len : (pl.length : Int) ≤ most
  most : most ≤ 10000
  turns : ∀ i, 0 ≤ turnOf pl i ∧ turnOf pl i ≤ T
  small : T ≤ 1000000
def feet (g : Nat) (PV FV : Value) : List Nat := g :: (PV.ownBlock.toList ++ FV.ownBlock.toList)
/-- A pool: its address, its bound, its places, the blocks that it stands in. -/
def Pool (w : World) (g : Nat) (most : Int) (pl : Pl) (T : Int) (S : List Nat) : Prop := ∃ PV FV fr, PoolAt w g most PV FV pl fr T ∧ S = feet g PV FV
section
variable {w w' : World} {g : Nat} {most T : Int} {PV FV : Value} {pl : Pl} {fr : List Int} {S S' : List Nat}
theorem PoolAt.hp (h : PoolAt w g most PV FV pl fr T) : HpAt w g (.int .i64 most) PV FV fr := ⟨h.whole, h.row⟩
theorem PoolAt.count (h : PoolAt w g most PV FV pl fr T) : (pl.length : Int) - fr.length = countP pl := by have := h.inv.count; omega
theorem mem_feet {x : Nat} : x ∈ feet g PV FV ↔ x = g ∨ PV.ownBlock = some x ∨ FV.ownBlock = some x := by simp [feet]
theorem PoolAt.only (h : PoolAt w g most PV FV pl fr T) (ho : Only S w w') (hd : ∀ x ∈ feet g PV FV, x ∉ S) : PoolAt w' g most PV FV pl fr T :=
  ⟨ho.whole h.whole (hd _ (mem_feet.2 (.inl rfl))), ho.owns h.places fun k hk => hd _ (mem_feet.2 (.inr (.inl hk))), ho.owns h.row fun k hk => hd _ (mem_feet.2 (.inr (.inr hk))), h.inv, h.len, h.most, h.turns, h.small⟩
theorem PoolAt.lt (h : PoolAt w g most PV FV pl fr T) : ∀ x ∈ feet g PV FV, x < w.heap.size := fun x hx => by
  rcases mem_feet.1 hx with rfl | hx | hx
  · exact h.whole.size
  · exact owns_lt h.places hx
  · exact owns_lt h.row hx
theorem Pool.only (h : Pool w g most pl T S) (ho : Only S' w w') (hd : ∀ x ∈ S, x ∉ S') : Pool w' g most pl T S := by
  obtain ⟨PV, FV, fr, h, rfl⟩ := h
  exact ⟨PV, FV, fr, h.only ho hd, rfl⟩
theorem Pool.below (h : Pool w g most pl T S) (hb : Below w.heap.size w w') : Pool w' g most pl T S := h.only (S' := []) (Only.of_below hb) (by simp)
theorem Pool.lt (h : Pool w g most pl T S) : ∀ x ∈ S, x < w.heap.size := by
  obtain ⟨PV, FV, fr, h, rfl⟩ := h
  exact h.lt
theorem Pool.len (h : Pool w g most pl T S) : (pl.length : Int) ≤ most := by obtain ⟨_, _, _, h, _⟩ := h; exact h.len
theorem Pool.bound (h : Pool w g most pl T S) : most ≤ 10000 := by obtain ⟨_, _, _, h, _⟩ := h; exact h.most
theorem Pool.turns (h : Pool w g most pl T S) : ∀ i, 0 ≤ turnOf pl i ∧ turnOf pl i ≤ T := by obtain ⟨_, _, _, h, _⟩ := h; exact h.turns
theorem Pool.mono {T' : Int} (h : Pool w g most pl T S) (ht : T ≤ T') (hs : T' ≤ 1000000) : Pool w g most pl T' S := by
  obtain ⟨PV, FV, fr, h, rfl⟩ := h
  exact ⟨PV, FV, fr, { h with turns := fun i => ⟨(h.turns i).1, by have := (h.turns i).2; omega⟩, small := hs }, rfl⟩
end
theorem ret_int64 {a b : Int} (h : a = b) : Ending.returned (.int .i64 a) = .returned (.int .i64 b) := by rw [h]
theorem poolLen_any (g : Nat) (most : Int) (pl : Pl) (T : Int) (S : List Nat) (w : World) (h : Pool w g most pl T S) :
    Calls Tryd.prog 10 #[.pointer (some ⟨g, 0, none⟩)] w fun e w' => e = .returned (.int .i64 (countP pl)) ∧ Below w.heap.size w w' := by
  obtain ⟨PV, FV, fr, h, _⟩ := h
  have hc := Lib.hid h.count
  have l1 := h.len
  have l2 := h.most
  have l3 := h.inv.count
  obtain ⟨A, c, rfl, hc1, hc2, _⟩ := owns_nil h.places
  obtain ⟨A', c', rfl, hc1', hc2', _⟩ := owns_nil h.row
  have c1 : w.cell? ⟨g, 1, none⟩ = some (.slice A pl.length c) := h.whole.cell 1
  have c2 : w.cell? ⟨g, 2, none⟩ = some (.slice A' fr.length c') := h.whole.cell 2
  have k1 : pl.length ≤ 10000 := by omega
  have k2 : fr.length ≤ 10000 := by omega
  have k3 : fr.length ≤ pl.length := by omega
  clear h l1 l2 l3 hc2 hc2'
  go_enter Tryd.func10, Tryd.ntmps10
  go_wp2
  go_quiet (fail)
  all_goals
    go_wp2
    go_ret
    exact ⟨ret_int64 hc.out, Below.drewN' (Below.refl _ w) _⟩

theorem hasP_neg {pl : Pl} {p t : Int} (h : p < 0) : hasP pl p t = false := by
  unfold hasP; rw [show decide (0 ≤ p) = false by simp; omega]; rfl
theorem hasP_out {pl : Pl} {p t : Int} (h : (pl.length : Int) ≤ p) : hasP pl p t = false := by
  unfold hasP; rw [show decide (p < (pl.length : Int)) = false by simp; omega]; simp
theorem hasP_in {pl : Pl} {k : Nat} {t : Int} (h : k < pl.length) : hasP pl k t = (takenOf pl k && decide (turnOf pl k = t)) := by
  unfold hasP; simp [h]
abbrev hv (p t : Int) : Value := .agg #[.int .i64 p, .int .i64 t]
theorem ret_bool {a b : Bool} (h : a = b) : Ending.returned (.bool a) = .returned (.bool b) := by rw [h]
theorem poolHas_any (g : Nat) (most : Int) (pl : Pl) (T : Int) (S : List Nat) (p t : Int) (w : World) (h : Pool w g most pl T S) :
    Calls Tryd.prog 14 #[.pointer (some ⟨g, 0, none⟩), hv p t] w fun e w' => e = .returned (.bool (hasP pl p t)) ∧ Below w.heap.size w w' := by
  obtain ⟨PV, FV, fr, h, _⟩ := h
  have l1 := h.len
  have l2 := h.most
  have hg := h.whole.size
  obtain ⟨A, c, rfl, hc1, hc2, _⟩ := owns_nil h.places
  have c1 : w.cell? ⟨g, 1, none⟩ = some (.slice A pl.length c) := h.whole.cell 1
  have k1 : pl.length ≤ 10000 := by omega
  have k2 : (pl.length : Int) ≤ 10000 := by omega
  have HP := Lib.hid h.places
  clear h l1 l2 hc2
  by_cases hn : p < 0
  · have HE := Lib.hid (hasP_neg (pl := pl) (t := t) hn)
    go_enter Tryd.func14, Tryd.ntmps14
    go_wp2
    go_quiet (fail)
    all_goals
      go_wp2
      go_ret
      exact ⟨ret_bool HE.out.symm, Below.drewN' ((Below.refl _ w).alloc (Nat.le_refl _) _) _⟩
  · by_cases hb : (pl.length : Int) ≤ p
    · have HE := Lib.hid (hasP_out (t := t) hb)
      have hn' : 0 ≤ p := by omega
      clear hn
      go_enter Tryd.func14, Tryd.ntmps14
      go_wp2
      go_quiet (fail)
      all_goals
        go_wp2
        go_ret
        exact ⟨ret_bool HE.out.symm, Below.drewN' ((Below.refl _ w).alloc (Nat.le_refl _) _) _⟩
    · obtain ⟨k, rfl⟩ : ∃ k : Nat, p = k := ⟨p.toNat, by omega⟩
      have hk : k < pl.length := by omega
      have hk' : (k : Int) < pl.length := by omega
      obtain ⟨b, c', e, _, _, hbs⟩ := owns_some HP.out (by omega)
      injection e with e1 _ e2
      subst e1 e2
      obtain ⟨e0, e1⟩ := plCells_get pl k hk
      have d0 : w.cell? ⟨b, k * 2, none⟩ = some (.int .i64 (turnOf pl k)) := by rw [HP.out.cellAt _ (by omega)]; exact e0
      have d1 : w.cell? ⟨b, k * 2 + 1, none⟩ = some (.bool (takenOf pl k)) := by rw [HP.out.cellAt _ (by omega)]; exact e1
      have HE := Lib.hid (hasP_in (t := t) hk)
      clear hn hb e0 e1
      generalize turnOf pl k = u at *
      have dG : Hid (∀ W : World, W.heap[b]? = w.heap[b]? → W.cell? ⟨b, k * 2, none⟩ = some (.int .i64 u) ∧ W.cell? ⟨b, k * 2 + 1, none⟩ = some (.bool (takenOf pl k))) := Lib.hid fun W hW => ⟨(World.cell?_of_block (w := w) hW).trans d0, (World.cell?_of_block (w := w) hW).trans d1⟩
      generalize takenOf pl k = tk at *
      go_enter Tryd.func14, Tryd.ntmps14
      go_wp2
      go_quiet (fail)
      all_goals
        go_wp2_with fail
        have A0 : Whole ((w.alloc (.cells #[.int .i64 k, .int .i64 t] 27)).drewN nq) w.heap.size 27 [.int .i64 k, .int .i64 t] := (Whole.mk w _ _).drawn nq
        have B0 : Below w.heap.size w ((w.alloc (.cells #[.int .i64 k, .int .i64 t] 27)).drewN nq) := Below.drewN' ((Below.refl _ w).alloc (Nat.le_refl _) _) _
        have C0 : ((w.alloc (.cells #[.int .i64 k, .int .i64 t] 27)).drewN nq).cell? ⟨g, 1, none⟩ = some (.slice (some ⟨b, 0, none⟩) pl.length c) := (B0.cell (p := ⟨g, 1, none⟩) hg).trans c1
        obtain ⟨D0, D1⟩ := dG.out _ (B0.block b hbs)
        have hz0 : w.heap.size < ((w.alloc (.cells #[.int .i64 k, .int .i64 t] 27)).drewN nq).heap.size := A0.size
        generalize (w.alloc (.cells #[.int .i64 k, .int .i64 t] 27)).drewN nq = W at *
        have hg2 : g < W.heap.size := by omega
        have hb2 : b < W.heap.size := by omega
        have K0 : ∀ s : Later W.heap.size W, s.w.cell? ⟨w.heap.size, 0, none⟩ = some (.int .i64 k) := fun s => (A0.under s.h A0.size).cell 0
        have K1 : ∀ s : Later W.heap.size W, s.w.cell? ⟨g, 1, none⟩ = some (.slice (some ⟨b, 0, none⟩) pl.length c) := fun s => (s.h.cell (p := ⟨g, 1, none⟩) hg2).trans C0
        have K2 : ∀ s : Later W.heap.size W, s.w.cell? ⟨b, k * 2, none⟩ = some (.int .i64 u) := fun s => (s.h.cell (p := ⟨b, k * 2, none⟩) hb2).trans D0
        have K3 : ∀ s : Later W.heap.size W, s.w.cell? ⟨b, k * 2 + 1, none⟩ = some (.bool tk) := fun s => (s.h.cell (p := ⟨b, k * 2 + 1, none⟩) hb2).trans D1
        refine region_lane [0] [1, 2, 3, 4, 5, 6, 7, 8] [9] (by kernel_rfl) (by kernel_rfl) (fun _ _ _ _ _ h => h) ?_
        simp only [pick, List.map_cons, List.map_nil, List.getD_cons_zero, List.getD_cons_succ, List.drop_succ_cons, List.drop_zero]
        repeat (go_big_quiet_step (fail))
        refine wpQuiet_nil ?_
        refine ⟨rfl, ?_⟩
        refine laneO_run 7 (by kernel_rfl) ?_
        simp only [List.take_succ_cons, List.take_zero, List.drop_succ_cons, List.drop_zero]
        repeat (go_big_quiet_step (fail))
        refine wpQuiet_nil ?_
        refine laneO_told (newT W.heap.size 53 [.int .i64 0, .bool false]) (newT_steady _ _ _) (by kernel_rfl) rfl (fun w hw => .inl ⟨by rfl, ?_⟩) ?_
        · unfold gives
          simp [go_sem]
          exact newT_new W.heap.size 53 #[.int .i64 0, .bool false] w hw.size
        refine laneO_end (by simp) rfl rfl rfl fun w1 hb0 => ?_
        rintro x ⟨g1, rfl, hg1, hw1⟩
        simp only [Act.put, List.setIfInBounds_toArray, List.set_cons_zero, List.set_cons_succ, fillAll]
        have hb1 : Below W.heap.size W w1 := hb0
        have A1 := A0.under hb1 A0.size
        have B1 := Lib.hid (B0.trans (hb1.mono B0.size))
        have n1 : w.heap.size ≠ g1 := by omega
        have n2 : g1 ≠ w.heap.size := by omega
        have e0 : w1.cell? ⟨w.heap.size, 0, none⟩ = some (.int .i64 k) := A1.cell 0
        have e1 : w1.cell? ⟨w.heap.size, 1, none⟩ = some (.int .i64 t) := A1.cell 1
        have e2 : w1.cell? ⟨g1, 0, none⟩ = some (.int .i64 0) := hw1.cell 0
        have e3 : w1.cell? ⟨g1, 1, none⟩ = some (.bool false) := hw1.cell 1
        have e4 := hw1.free 0
        have e5 := hw1.free 1
        have B2 := Lib.hid ((B1.out.setCell (p := ⟨g1, 0, none⟩) (by simp; omega) (.int .i64 u)).setCell (p := ⟨g1, 1, none⟩) (by simp; omega) (.bool tk))
        clear K0 K1 K2 K3 A0 A1 B0 C0 D0 D1 hb0 hb1 hw1 dG d0 d1 c1 HP
        cases tk
        all_goals
          go_wp2
          go_ret
          exact ⟨ret_bool (by rw [HE.out]; first | rfl | (simp)), B2.out⟩
end Go.Proofs.YtpnpmellohacoaaDoor
