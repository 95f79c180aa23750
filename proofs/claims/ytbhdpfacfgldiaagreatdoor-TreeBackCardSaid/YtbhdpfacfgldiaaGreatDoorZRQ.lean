import Derived.Test.YtbhdpfacfgldiaaGreatDoorZQ
import Derived.WalkKit
import Derived.Maps.AppendAt
import Derived.Lib.MinMax
import Derived.BigQuiet
/- nodes: what is asked of a tree, one node at a time. -/
namespace Go.Proofs.YtbhdpfacfgldiaaGreatDoor
open Go Go.RowKit
set_option linter.unusedVariables false
set_option linter.unusedSimpArgs false
set_option maxRecDepth 20000
set_option maxHeartbeats 4000000

theorem zeroPtr (w : World) : (zeroValue 83).run Tryz.prog w = .ok (.pointer none) w := by kernel_rfl
section
variable {w : World} {base t b : Nat} {most : Int} {L : List Nd} {f : Int → Option Nat} {sv kv : Int → Value}
theorem TreeAt.look (h : TreeAt w base t b most L f sv kv) {id : Int} (hi : In64i id) :
    (Instr.lookup 84 (.map (some b)) (.int .i64 id) false).run Tryz.prog w = .ok (ptrV (f id)) w :=
  h.mp.look Tryz.underlying3 Tryz.underlying84 (zeroPtr w) hi
theorem TreeAt.cells (h : TreeAt w base t b most L f sv kv) : w.cell? ⟨t, 0, none⟩ = some (.int .i64 most) ∧ w.cell? ⟨t, 1, none⟩ = some (.map (some b)) := ⟨h.hd.cell 0, h.hd.cell 1⟩
theorem TreeAt.node (h : TreeAt w base t b most L f sv kv) {id : Int} {n : Nd} (ha : atZ L id = some n) : ∃ g, f id = some g ∧ base ≤ g ∧ Whole w g 88 (ndC n (sv id) (kv id)) := by
  obtain ⟨hm, rfl⟩ := at_some ha
  obtain ⟨g, hg⟩ := h.there hm
  exact ⟨g, hg, h.nod n hm g hg⟩
end
theorem nhas_any {W : World} {base t : Nat} {most : Int} {L : List Nd} (hT : Tree W base t most L) {id : Int} (hi : In64i id) :
    Calls Tryz.prog 43 #[.pointer (some ⟨t, 0, none⟩), .int .i64 id] W fun e w' => e = .returned (.bool (hasZ L id)) ∧ W = w' := by
  obtain ⟨b, f, sv, kv, h⟩ := hT
  obtain ⟨c0, c1⟩ := h.cells
  have hl := h.look hi
  have hd := h.dom id
  clear h
  rw [← hd]
  cases hf : f id with
  | none =>
    rw [hf] at hl
    change (Instr.lookup 84 (.map (some b)) (.int .i64 id) false).run Tryz.prog W = .ok (.pointer none) W at hl
    go_enter Tryz.func43, Tryz.ntmps43
    go_wp2_with (rw [hl])
    go_ret
    exact ⟨rfl, rfl⟩
  | some g =>
    rw [hf] at hl
    change (Instr.lookup 84 (.map (some b)) (.int .i64 id) false).run Tryz.prog W = .ok (.pointer (some ⟨g, 0, none⟩)) W at hl
    go_enter Tryz.func43, Tryz.ntmps43
    go_wp2_with (rw [hl])
    go_ret
    exact ⟨rfl, rfl⟩
theorem nlen_any {W : World} {base t : Nat} {most : Int} {L : List Nd} (hT : Tree W base t most L) :
    Calls Tryz.prog 40 #[.pointer (some ⟨t, 0, none⟩)] W fun e w' => e = .returned (.int .i64 L.length) ∧ W = w' := by
  obtain ⟨b, f, sv, kv, h⟩ := hT
  obtain ⟨c0, c1⟩ := h.cells
  have hl := fun ty => h.mp.len Tryz.underlying84 ty
  clear h
  go_enter Tryz.func40, Tryz.ntmps40
  go_wp2_with (rw [hl])
  go_ret
  exact ⟨rfl, rfl⟩
theorem nparent_any {W : World} {base t : Nat} {most : Int} {L : List Nd} (hT : Tree W base t most L) {id : Int} (hi : In64i id) :
    Calls Tryz.prog 39 #[.pointer (some ⟨t, 0, none⟩), .int .i64 id] W fun e w' => e = .returned (.int .i64 (parZ L id)) ∧ W = w' := by
  obtain ⟨b, f, sv, kv, h⟩ := hT
  obtain ⟨c0, c1⟩ := h.cells
  have hl := h.look hi
  cases ha : atZ L id with
  | none =>
    have hn : hasZ L id = false := by unfold hasZ; rw [ha]; rfl
    rw [h.gone hn] at hl
    change (Instr.lookup 84 (.map (some b)) (.int .i64 id) false).run Tryz.prog W = .ok (.pointer none) W at hl
    have hp : parZ L id = -1 := par_no hn
    clear h
    go_enter Tryz.func39, Tryz.ntmps39
    go_wp2_with (rw [hl])
    go_ret
    exact ⟨ret_int hp.symm, rfl⟩
  | some n =>
    obtain ⟨g, hg, -, hw⟩ := h.node ha
    rw [hg] at hl
    change (Instr.lookup 84 (.map (some b)) (.int .i64 id) false).run Tryz.prog W = .ok (.pointer (some ⟨g, 0, none⟩)) W at hl
    have hp : parZ L id = n.par := by unfold parZ; rw [ha]
    have d1 : W.cell? ⟨g, 1, none⟩ = some (.int .i64 n.par) := hw.cell 1
    clear h hw
    go_enter Tryz.func39, Tryz.ntmps39
    go_wp2_with (rw [hl])
    go_ret
    exact ⟨ret_int hp.symm, rfl⟩
theorem ntext_any {W : World} {base t : Nat} {most : Int} {L : List Nd} (hT : Tree W base t most L) {id : Int} (hi : In64i id) :
    Calls Tryz.prog 58 #[.pointer (some ⟨t, 0, none⟩), .int .i64 id] W fun e w' => e = .returned (.bool (txZ L id)) ∧ W = w' := by
  obtain ⟨b, f, sv, kv, h⟩ := hT
  obtain ⟨c0, c1⟩ := h.cells
  have hl := h.look hi
  cases ha : atZ L id with
  | none =>
    have hn : hasZ L id = false := by unfold hasZ; rw [ha]; rfl
    rw [h.gone hn] at hl
    change (Instr.lookup 84 (.map (some b)) (.int .i64 id) false).run Tryz.prog W = .ok (.pointer none) W at hl
    have hp : txZ L id = false := by unfold txZ; rw [ha]
    clear h
    go_enter Tryz.func58, Tryz.ntmps58
    go_wp2_with (rw [hl])
    go_ret
    exact ⟨ret_bool hp.symm, rfl⟩
  | some n =>
    obtain ⟨g, hg, -, hw⟩ := h.node ha
    rw [hg] at hl
    change (Instr.lookup 84 (.map (some b)) (.int .i64 id) false).run Tryz.prog W = .ok (.pointer (some ⟨g, 0, none⟩)) W at hl
    have hp : txZ L id = n.tx := by unfold txZ; rw [ha]
    have d1 : W.cell? ⟨g, 2, none⟩ = some (.bool n.tx) := hw.cell 2
    clear h hw
    go_enter Tryz.func58, Tryz.ntmps58
    go_wp2_with (rw [hl])
    go_ret
    exact ⟨ret_bool hp.symm, rfl⟩
end Go.Proofs.YtbhdpfacfgldiaaGreatDoor
/- slices.Clone of declarations and of numbers; nodes.lent; Node, Kids. -/
namespace Go.Proofs.YtbhdpfacfgldiaaGreatDoor
open Go Go.RowKit
set_option linter.unusedVariables false
set_option linter.unusedSimpArgs false
set_option maxRecDepth 20000
set_option maxHeartbeats 4000000

theorem declInfo : (Tryz.prog.info? 70).map (fun i => (i.zero, i.size, i.bytes)) = some (some (.agg #[.int .i64 0, .int .i64 0, .int .i64 0, .int .i64 0]), 4, 32) := by kernel_rfl
theorem intInfo : (Tryz.prog.info? 3).map (fun i => (i.zero, i.size, i.bytes)) = some (some (.int .i64 0), 1, 8) := by kernel_rfl
theorem cloneD_any (sv : Value) (l : List Dc) (W : World) (h : StyAt W sv l) :
    Calls Tryz.prog 57 #[sv] W fun e w' => ∃ sv', e = .returned sv' ∧ StyOwn w' W.heap.size sv' l ∧ Below W.heap.size W w' := by
  obtain ⟨A, c, rfl, hR, hl, hn⟩ := h
  have q : ∀ (w : World) (a : Option Addr) (n c n' c' : Nat), (binOp .eql 30 (.slice a n c) (.slice none n' c')).run Tryz.prog w = .ok (.bool a.isNone) w := fun w a n c n' c' => Lib.run_eql_slice_nil w _ _ a n c n' c' Tryz.underlying30
  have HR := Lib.hid hR
  clear hR
  cases A with
  | none =>
    have h0 : l = [] := by
      cases l with
      | nil => rfl
      | cons d r =>
        obtain ⟨ad, e, -⟩ := HR.out (by rw [i64s_length, dCells_length]; simp)
        cases e
    subst h0
    go_enter Tryz.func57, Tryz.ntmps57
    go_wp2_with (rw [q])
    go_ret
    exact ⟨_, rfl, ⟨none, 0, rfl, ⟨rfl, .inl ⟨rfl, rfl⟩⟩, by simp⟩, Below.refl _ _⟩
  | some ad =>
    have hq := q W (some ad) l.length c 0 0
    go_enter Tryz.func57, Tryz.ntmps57
    go_wp2_with (first
      | (rw [q])
      | (at_builtin; refine wpList_plain rfl fun K hK => wp_push_all (.tmp 5) (.tmp 6) 30 rfl W.heap.size 70 4 32 (.agg #[.int .i64 0, .int .i64 0, .int .i64 0, .int .i64 0]) Tryz.underlying30 declInfo rfl (by decide) 0 0 (some ⟨W.heap.size, 0, none⟩) [] rfl (World.ownsRow_made W #[] 0 (Nat.le_refl _) (Nat.zero_le _) rfl) W.heap.size l.length c (some ad) (i64s (dCells l)) rfl (fun e => by cases e) (by rw [i64s_length, dCells_length]) (HR.out.alloc (Nat.le_refl _) _) (fun u hu => i64s_one _ u hu) (by unfold maxLen; omega) (by omega) (by simp) ?_; intro A1 c1 w1 ho hb; refine hK _ _ ?_; have HO := Lib.hid ho; have HB := Lib.hid hb; clear ho hb))
    go_ret
    have hs := HO.out
    rw [Nat.zero_add, List.nil_append] at hs
    have hs : StyOwn w1 W.heap.size (.slice A1 l.length c1) l := ⟨A1, c1, rfl, hs, hl⟩
    exact ⟨_, rfl, hs, ((Below.refl _ _).alloc (Nat.le_refl _) _).trans HB.out⟩
/-- A node as a struct of five cells. -/
def nodeC (n : Nd) (sv : Value) : List Value := [.int .i64 n.id, .int .i64 n.par, .bool n.tx, .string n.dat, sv]
theorem lent_any (n : Nd) (sv : Value) (W : World) (h : StyAt W sv n.sty) :
    Calls Tryz.prog 59 #[.agg (nodeC n sv).toArray] W fun e w' => ∃ sv', e = .returned (.agg (nodeC n sv').toArray) ∧ StyOwn w' W.heap.size sv' n.sty ∧ Below W.heap.size W w' := by
  have B0 := Lib.hid (((Below.refl W.heap.size W).alloc (Nat.le_refl _) (.cells (nodeC n sv).toArray 32)).alloc (by simp) (.cells #[.int .i64 0, .int .i64 0, .bool false, .string ⟨#[]⟩, .slice none 0 0] 32))
  have N0 := Lib.hid ((Whole.mk W 32 (nodeC n sv).toArray).made (.cells #[.int .i64 0, .int .i64 0, .bool false, .string ⟨#[]⟩, .slice none 0 0] 32))
  have R0 := Lib.hid (Whole.mk (W.alloc (.cells (nodeC n sv).toArray 32)) 32 #[.int .i64 0, .int .i64 0, .bool false, .string ⟨#[]⟩, .slice none 0 0])
  simp only [World.size_alloc] at R0
  have HS := Lib.hid (StyAt.below h (((Below.refl W.heap.size W).alloc (Nat.le_refl _) (.cells (nodeC n sv).toArray 32)).alloc (by simp) (.cells #[.int .i64 0, .int .i64 0, .bool false, .string ⟨#[]⟩, .slice none 0 0] 32)))
  obtain ⟨A1, c1, rfl, -⟩ := h
  go_enter Tryz.func59, Tryz.ntmps59
  go_upto_region 1 with fail
  generalize (W.alloc _).alloc _ = w0 at *
  have c4 : w0.cell? ⟨W.heap.size, 4, none⟩ = some (.slice A1 n.sty.length c1) := N0.out.cell 4
  go_wp2_with fail
  refine (cloneD_any _ n.sty w0 HS.out).mono ?_
  rintro e w1 ⟨sv', rfl, hs, hb⟩
  have N1 := Lib.hid (N0.out.under hb N0.out.size)
  have R1 := Lib.hid (R0.out.under hb R0.out.size)
  have B1 := Lib.hid (B0.out.trans (hb.mono B0.out.size))
  have HS1 := Lib.hid hs
  obtain ⟨A2, c2, rfl, -⟩ := hs
  have h0 : W.heap.size + 1 < w0.heap.size := R0.out.size
  have n1 := HS1.out.other N1.out (by decide)
  have n2 := HS1.out.other R1.out (by decide)
  clear hb N0 R0 B0 HS c4
  have c4 : w1.cell? ⟨W.heap.size, 4, none⟩ = some (.slice A1 n.sty.length c1) := N1.out.cell 4
  have f4 := N1.out.free 4
  have N2 : Hid (Whole (w1.setCell ⟨W.heap.size, 4, none⟩ (.slice A2 n.sty.length c2)) W.heap.size 32 (nodeC n (.slice A2 n.sty.length c2))) := Lib.hid (N1.out.put 4 (.slice A2 n.sty.length c2))
  have R2 := Lib.hid (R1.out.other (p := ⟨W.heap.size, 4, none⟩) (by simp) (.slice A2 n.sty.length c2))
  have B2 := Lib.hid (B1.out.setCell (p := ⟨W.heap.size, 4, none⟩) (by simp) (.slice A2 n.sty.length c2))
  have O2 : Hid (Only [W.heap.size] w1 (w1.setCell ⟨W.heap.size, 4, none⟩ (.slice A2 n.sty.length c2))) := Lib.hid ((Only.refl _ _).setCell _ (.inl (by simp)) _)
  go_upto_region 2 with fail
  generalize w1.setCell _ _ = w2 at *
  clear c4 f4 N1 R1
  go_wp2_with (first
    | (refine cells_load (n := 5) ⟨⟨_, Tryz.underlying32, rfl⟩, by kernel_rfl⟩ (.tmp 1) rfl rfl W.heap.size rfl (nodeC n (.slice A2 n.sty.length c2)) rfl 32 ?_ ?_; (focus (exact N2.out)))
    | (refine cells_store (n := 5) ⟨⟨_, Tryz.underlying32, rfl⟩, by kernel_rfl⟩ (.tmp 2) (.tmp 7) rfl rfl (W.heap.size + 1) rfl (nodeC n (.slice A2 n.sty.length c2)) rfl ?_ rfl 32 [.int .i64 0, .int .i64 0, .bool false, .string ⟨#[]⟩, .slice none 0 0] ?_ rfl ?_; (focus (intro v hv; simp only [nodeC, List.mem_cons, List.not_mem_nil, or_false] at hv; rcases hv with rfl | rfl | rfl | rfl | rfl <;> rfl)); (focus (exact R2.out)); intro w3 h3 o3; have R3 := Lib.hid h3; have O3 := Lib.hid o3; clear h3 o3))
  refine cells_end (n := 5) ⟨⟨_, Tryz.underlying32, rfl⟩, by kernel_rfl⟩ rfl (W.heap.size + 1) rfl (nodeC n (.slice A2 n.sty.length c2)) rfl 32 R3.out rfl ⟨(.slice A2 n.sty.length c2), rfl, ?_, B2.out.trans (O3.out.below (by simp) (by have := R2.out.size; omega))⟩
  have h1 := HS1.out.only O2.out (by intro g hg hm; simp at hm; subst hm; exact n1 hg)
  exact (h1.only O3.out (by intro g hg hm; simp at hm; subst hm; exact n2 hg)).mono (by omega)
end Go.Proofs.YtbhdpfacfgldiaaGreatDoor
/- nodes.Node, Kids. -/
namespace Go.Proofs.YtbhdpfacfgldiaaGreatDoor
open Go Go.RowKit
set_option linter.unusedVariables false
set_option linter.unusedSimpArgs false
set_option maxRecDepth 20000
set_option maxHeartbeats 4000000

def node0 : List Value := [.int .i64 0, .int .i64 0, .bool false, .string ⟨#[]⟩, .slice none 0 0]
theorem nodeT : FlatT Tryz.prog 32 5 := ⟨⟨_, Tryz.underlying32, rfl⟩, by kernel_rfl⟩
theorem node_one (n : Nd) {A : Option Addr} {k c : Nat} : ∀ v ∈ nodeC n (.slice A k c), v.oneCell' = true := by
  intro v hv
  simp only [nodeC, List.mem_cons, List.not_mem_nil, or_false] at hv
  rcases hv with rfl | rfl | rfl | rfl | rfl <;> rfl
theorem node0_one : ∀ v ∈ node0, v.oneCell' = true := by
  intro v hv
  simp only [node0, List.mem_cons, List.not_mem_nil, or_false] at hv
  rcases hv with rfl | rfl | rfl | rfl | rfl <;> rfl
/-- What Node answers. -/
def NodePost (W : World) (L : List Nd) (id : Int) (e : Ending) (w' : World) : Prop := match atZ L id with
  | none => ∃ v, e = .returned (.tuple #[v, .bool false])
  | some n => ∃ sv', e = .returned (.tuple #[.agg (nodeC n sv').toArray, .bool true]) ∧ StyOwn w' W.heap.size sv' n.sty
theorem nnode_any {W : World} {base t : Nat} {most : Int} {L : List Nd} (hT : Tree W base t most L) {id : Int} (hi : In64i id) :
    Calls Tryz.prog 42 #[.pointer (some ⟨t, 0, none⟩), .int .i64 id] W fun e w' => NodePost W L id e w' ∧ Below W.heap.size W w' := by
  have B0 := Lib.hid ((Below.refl W.heap.size W).alloc (Nat.le_refl _) (.cells #[.int .i64 0, .int .i64 0, .bool false, .string ⟨#[]⟩, .slice none 0 0] 32))
  have R0 := Lib.hid (Whole.mk W 32 #[.int .i64 0, .int .i64 0, .bool false, .string ⟨#[]⟩, .slice none 0 0])
  have hT0 := hT.behind ((Below.refl W.heap.size W).alloc (Nat.le_refl _) (.cells #[.int .i64 0, .int .i64 0, .bool false, .string ⟨#[]⟩, .slice none 0 0] 32))
  obtain ⟨b, f, sv, kv, h⟩ := hT0
  obtain ⟨c0, c1⟩ := h.cells
  have hl := h.look hi
  cases ha : atZ L id with
  | none =>
    have hn : hasZ L id = false := by unfold hasZ; rw [ha]; rfl
    rw [h.gone hn] at hl
    have HP : Hid (∀ v w', NodePost W L id (.returned (.tuple #[v, .bool false])) w') := Lib.hid (fun v w' => by unfold NodePost; rw [ha]; exact ⟨v, rfl⟩)
    clear h ha hn hT
    go_enter Tryz.func42, Tryz.ntmps42
    go_upto_region 1 with fail
    generalize W.alloc _ = w0 at *
    change (Instr.lookup 84 (.map (some b)) (.int .i64 id) false).run Tryz.prog w0 = .ok (.pointer none) w0 at hl
    go_wp2_with (first
      | (rw [hl])
      | (refine cells_store (n := 5) nodeT (.tmp 4) (.tmp 15) rfl rfl W.heap.size rfl node0 rfl node0_one rfl 32 [.int .i64 0, .int .i64 0, .bool false, .string ⟨#[]⟩, .slice none 0 0] ?_ rfl ?_; (focus (exact R0.out)); intro w3 h3 o3; have R3 := Lib.hid h3; have O3 := Lib.hid o3; clear h3 o3))
    exact cells_end2 (n := 5) nodeT rfl W.heap.size rfl node0 rfl 32 R3.out rfl ⟨HP.out _ _, B0.out.trans (O3.out.below (by simp) (by have := R0.out.size; omega))⟩
  | some n =>
    obtain ⟨g, hg, -, hw⟩ := h.node ha
    obtain ⟨hm, hid⟩ := at_some ha
    have hs := h.sty n hm
    rw [hid] at hs
    rw [hg] at hl
    have d0 := hw.cell 0
    have d1 := hw.cell 1
    have d2 := hw.cell 2
    have d3 := hw.cell 3
    have d4 := hw.cell 4
    simp only [ndC, List.getElem?_cons_zero, List.getElem?_cons_succ] at d0 d1 d2 d3 d4
    have HS := Lib.hid hs.at_
    have HP : Hid (∀ sv' w', StyOwn w' W.heap.size sv' n.sty → NodePost W L id (.returned (.tuple #[.agg (nodeC n sv').toArray, .bool true])) w') := Lib.hid (fun sv' w' h => by unfold NodePost; rw [ha]; exact ⟨sv', rfl, h⟩)
    generalize sv id = s at *
    clear h ha hg hm hid hs hT hw
    go_enter Tryz.func42, Tryz.ntmps42
    go_upto_region 1 with fail
    generalize W.alloc _ = w0 at *
    change (Instr.lookup 84 (.map (some b)) (.int .i64 id) false).run Tryz.prog w0 = .ok (.pointer (some ⟨g, 0, none⟩)) w0 at hl
    go_wp2_with (rw [hl])
    refine (lent_any n s w0 HS.out).mono ?_
    rintro e w1 ⟨sv', rfl, hs, hb⟩
    have R1 := Lib.hid (R0.out.under hb R0.out.size)
    have B1 := Lib.hid (B0.out.trans (hb.mono B0.out.size))
    have z0 : W.heap.size < w0.heap.size := R0.out.size
    have HS1 := Lib.hid hs
    have n1 := hs.other R1.out (by decide)
    obtain ⟨A2, c2, rfl, -⟩ := hs
    clear hb R0 B0 HS hl c0 c1 d0 d1 d2 d3 d4
    go_wp2_with (refine cells_store (n := 5) nodeT (.tmp 4) (.tmp 20) rfl rfl W.heap.size rfl (nodeC n (.slice A2 n.sty.length c2)) rfl (node_one n) rfl 32 [.int .i64 0, .int .i64 0, .bool false, .string ⟨#[]⟩, .slice none 0 0] ?_ rfl ?_; (focus (exact R1.out)); intro w3 h3 o3; have R3 := Lib.hid h3; have O3 := Lib.hid o3; clear h3 o3)
    exact cells_end2 (n := 5) nodeT rfl W.heap.size rfl (nodeC n (.slice A2 n.sty.length c2)) rfl 32 R3.out rfl ⟨HP.out _ _ ((HS1.out.only O3.out (by intro g hg hm; simp at hm; subst hm; exact n1 hg)).mono (by omega)), B1.out.trans (O3.out.below (by simp) (by have := R1.out.size; omega))⟩
end Go.Proofs.YtbhdpfacfgldiaaGreatDoor
/- slices.Clone, Index, Insert of numbers; nodes.Kids. -/
namespace Go.Proofs.YtbhdpfacfgldiaaGreatDoor
open Go Go.RowKit
set_option linter.unusedVariables false
set_option linter.unusedSimpArgs false
set_option maxRecDepth 20000
set_option maxHeartbeats 4000000

/-- Numbers as a slice that reads so. -/
def IdsAt (w : World) (v : Value) (l : List Int) : Prop := ∃ A c, v = .slice A l.length c ∧ Row w w.heap.size A (idC l) ∧ l.length ≤ 1000000
/-- .. of its own. -/
def IdsOwn (w : World) (base : Nat) (v : Value) (l : List Int) : Prop := ∃ A c, v = .slice A l.length c ∧ w.ownsRow base 3 1 (.slice A l.length c) l.length (idC l) ∧ l.length ≤ 1000000
theorem IdsOwn.at_ {w : World} {base : Nat} {v : Value} {l : List Int} (h : IdsOwn w base v l) : IdsAt w v l := by
  obtain ⟨A, c, e, ho, hl⟩ := h
  exact ⟨A, c, e, row_of_own ho, hl⟩
theorem IdsOwn.only {S : List Nat} {w w' : World} {base : Nat} {v : Value} {l : List Int} (h : IdsOwn w base v l) (ho : Only S w w') (hn : ∀ g, v.ownBlock = some g → g ∉ S) : IdsOwn w' base v l := by
  obtain ⟨A, c, rfl, hr, hl⟩ := h
  exact ⟨A, c, rfl, ho.owns hr hn, hl⟩
theorem IdsAt.below {w w' : World} {v : Value} {l : List Int} (h : IdsAt w v l) (hb : Below w.heap.size w w') : IdsAt w' v l := by
  obtain ⟨A, c, e, hr, hl⟩ := h
  exact ⟨A, c, e, (hr.below hb).more hb.size, hl⟩
theorem ids_of_own {w : World} {base : Nat} {v : Value} {l : List Int} {e : Nat} (h : w.ownsRow base e 1 v l.length (idC l)) (hl : l.length ≤ 1000000) : IdsAt w v l := by
  obtain ⟨A, c, rfl⟩ := own_shape h
  exact ⟨A, c, rfl, row_of_own h, hl⟩
theorem idC_length (l : List Int) : (idC l).length = l.length := by simp
theorem idC_one (l : List Int) : ∀ u ∈ idC l, u.oneCell' = true := by
  intro u hu
  obtain ⟨z, -, rfl⟩ := List.mem_map.1 hu
  rfl
theorem eqNil (w : World) (a : Option Addr) (n c n' c' : Nat) : (binOp .eql 28 (.slice a n c) (.slice none n' c')).run Tryz.prog w = .ok (.bool a.isNone) w := Lib.run_eql_slice_nil w _ _ a n c n' c' Tryz.underlying28
theorem cloneI_any (v : Value) (l : List Int) (W : World) (h : IdsAt W v l) :
    Calls Tryz.prog 61 #[v] W fun e w' => ∃ v', e = .returned v' ∧ IdsOwn w' W.heap.size v' l ∧ Below W.heap.size W w' := by
  obtain ⟨A, c, rfl, hR, hl⟩ := h
  have q := eqNil
  have HR := Lib.hid hR
  clear hR
  cases A with
  | none =>
    have h0 : l = [] := by
      cases l with
      | nil => rfl
      | cons d r =>
        obtain ⟨ad, e, -⟩ := HR.out (by simp)
        cases e
    subst h0
    go_enter Tryz.func61, Tryz.ntmps61
    go_wp2_with (rw [q])
    go_ret
    exact ⟨_, rfl, ⟨none, 0, rfl, ⟨rfl, .inl ⟨rfl, rfl⟩⟩, by simp⟩, Below.refl _ _⟩
  | some ad =>
    go_enter Tryz.func61, Tryz.ntmps61
    go_wp2_with (first
      | (rw [q])
      | (at_builtin; refine wpList_plain rfl fun K hK => wp_push_all (.tmp 5) (.tmp 6) 28 rfl W.heap.size 3 1 8 (.int .i64 0) Tryz.underlying28 intInfo rfl (by decide) 0 0 (some ⟨W.heap.size, 0, none⟩) [] rfl (World.ownsRow_made W #[] 0 (Nat.le_refl _) (Nat.zero_le _) rfl) W.heap.size l.length c (some ad) (idC l) rfl (fun e => by cases e) (by rw [idC_length, Nat.mul_one]) (HR.out.alloc (Nat.le_refl _) _) (idC_one l) (by unfold maxLen; omega) (by omega) (by simp) ?_; intro A1 c1 w1 ho hb; refine hK _ _ ?_; have HO := Lib.hid ho; have HB := Lib.hid hb; clear ho hb))
    go_ret
    have hs := HO.out
    rw [Nat.zero_add, List.nil_append] at hs
    exact ⟨_, rfl, ⟨A1, c1, rfl, hs, hl⟩, ((Below.refl _ _).alloc (Nat.le_refl _) _).trans HB.out⟩
theorem kids_few (L : List Nd) (id : Int) : (kidsZ L id).length ≤ L.length := by
  unfold kidsZ
  rw [List.length_map]
  have h1 := List.length_filter_le (fun n : Nd => n.par == id) L.tail
  have h2 : L.tail.length = L.length - 1 := List.length_tail
  omega
theorem nkids_any {W : World} {base t : Nat} {most : Int} {L : List Nd} (hT : Tree W base t most L) {id : Int} (hi : In64i id) (h0 : 0 ≤ id) (hL : L.length ≤ 1000) :
    Calls Tryz.prog 38 #[.pointer (some ⟨t, 0, none⟩), .int .i64 id] W fun e w' => ∃ v, e = .returned v ∧ IdsOwn w' W.heap.size v (kidsZ L id) ∧ Below W.heap.size W w' := by
  obtain ⟨b, f, sv, kv, h⟩ := hT
  obtain ⟨c0, c1⟩ := h.cells
  have hl := h.look hi
  cases ha : atZ L id with
  | none =>
    have hn : hasZ L id = false := by unfold hasZ; rw [ha]; rfl
    rw [h.gone hn] at hl
    have hk := kids_none h.ok hn
    change (Instr.lookup 84 (.map (some b)) (.int .i64 id) false).run Tryz.prog W = .ok (.pointer none) W at hl
    clear h
    go_enter Tryz.func38, Tryz.ntmps38
    go_wp2_with (rw [hl])
    go_ret
    exact ⟨_, rfl, by rw [hk]; exact ⟨none, 0, rfl, ⟨rfl, .inl ⟨rfl, rfl⟩⟩, by simp⟩, Below.refl _ _⟩
  | some n =>
    obtain ⟨g, hg, -, hw⟩ := h.node ha
    obtain ⟨hm, hid⟩ := at_some ha
    have hk := h.kid n hm
    rw [hid] at hk
    rw [hg] at hl
    have d5 := hw.cell 5
    simp only [ndC, List.getElem?_cons_zero, List.getElem?_cons_succ] at d5
    have HK := Lib.hid (ids_of_own hk (by have := kids_few L id; omega))
    change (Instr.lookup 84 (.map (some b)) (.int .i64 id) false).run Tryz.prog W = .ok (.pointer (some ⟨g, 0, none⟩)) W at hl
    generalize kv id = v at *
    clear h hk hw ha hg hm
    go_enter Tryz.func38, Tryz.ntmps38
    go_wp2_with (rw [hl])
    refine (cloneI_any v _ W HK.out).mono ?_
    rintro e w1 ⟨v', rfl, hv, hb⟩
    have HV := Lib.hid hv
    have HB := Lib.hid hb
    clear hv hb hl c0 c1 d5
    go_wp2
    go_ret
    exact ⟨v', rfl, HV.out, HB.out⟩
/-- Index of one that is not there. -/
theorem index_none (A : Option Addr) (c : Nat) (zs : List Int) (x : Int) (hx : x ∉ zs) (hl : zs.length ≤ 1000000) (W : World) (hR : Row W W.heap.size A (idC zs)) :
    Calls Tryz.prog 70 #[.slice A zs.length c, .int .i64 x] W fun e w' => e = .returned (.int .i64 (-1)) ∧ W = w' := by
  have HR := Lib.hid (show Row W W.heap.size A (i64s zs) from hR)
  have HX := Lib.hid hx
  clear hR hx
  go_enter Tryz.func70, Tryz.ntmps70
  go_wp2
  go_loopw [5, 8] (fun v5 v8 wr => ∃ k : Nat, k ≤ zs.length ∧ v8 = .int .i64 k ∧ wr = W) (fun v5 v8 _ => zs.length - (intOf v8).toNat)
  case atStart => exact ⟨0, Nat.zero_le _, rfl, rfl⟩
  case round =>
    obtain ⟨k, hk, rfl, rfl⟩ := hrel
    by_cases hlt : k < zs.length
    · obtain ⟨ad, rfl, hb, hc⟩ := HR.out.int hlt
      have hne : (x == zs[k]) = false := by rw [beq_eq_false_iff_ne]; intro e; exact HX.out (e ▸ List.getElem_mem hlt)
      generalize zs[k] = z at *
      go_wp2_with fail
      go_roundw
      case rel => exact ⟨k + 1, by omega, by go_num, by first | rfl | trivial⟩
      case measure => simp [intOf]; omega
    · go_wp2_with fail
      go_ret
      exact ⟨rfl, rfl⟩
/-- Insert at the end, of one. -/
theorem insert_end (base : Nat) (v : Value) (zs : List Int) (x : Int) (g : Nat) (hl : zs.length ≤ 1000000) (W : World) (ho : W.ownsRow base 3 1 v zs.length (idC zs)) (hb : base ≤ W.heap.size) (hg : Whole W g 3 [.int .i64 x]) :
    Calls Tryz.prog 71 #[v, .int .i64 zs.length, .slice (some ⟨g, 0, none⟩) 1 1] W fun e w' => ∃ v', e = .returned v' ∧ w'.ownsRow base 3 1 v' (zs ++ [x]).length (idC (zs ++ [x])) ∧ Only v.ownBlock.toList W w' ∧ (v'.ownBlock = v.ownBlock ∨ v'.ownBlock = some W.heap.size) := by
  obtain ⟨A, c, rfl⟩ := own_shape ho
  have HO := Lib.hid ho
  have HG := Lib.hid hg
  have hcap : zs.length ≤ c := by
    rcases ho.2 with ⟨e, h0⟩ | ⟨g', cap, cur, e, h1, h2, h3, h4⟩
    · injection e with e1 e2 e3; omega
    · injection e with e1 e2 e3; omega
  clear ho hg
  obtain ⟨i0, hi, hz0, hz1, hz2⟩ := info_parts intInfo
  by_cases hcn : c = zs.length
  · subst hcn
    cases A
    · go_enter Tryz.func71, Tryz.ntmps71
      go_wp2_with (at_builtin; refine wpList_append_own_at _ rfl (.tmp 23) (.tmp 24) 28 rfl base 3 i0 (.int .i64 0) 1 8 Tryz.underlying28 hi hz0 hz1 hz2 rfl (by decide) _ zs.length (idC zs) rfl HO.out ⟨g, 0, none⟩ 1 1 [.int .i64 x] rfl rfl ?_ (by intro u hu; simp at hu; subst hu; rfl) (by unfold maxLen; omega) (by omega) hb ?_; (focus (intro j u hj; cases j with | zero => simp at hj; subst hj; exact HG.out.cell 0 | succ j => simp at hj)); intro v' w1 h1 h2 h3 h4; have P1 := Lib.hid h1; have P2 := Lib.hid h2; have P4 := Lib.hid h4; clear h1 h2 h3 h4)
      go_ret
      refine ⟨_, rfl, ?_, Only.of_grown P2.out, P4.out⟩
      have h5 := P1.out
      simpa [idC] using h5
    · go_enter Tryz.func71, Tryz.ntmps71
      go_wp2_with (at_builtin; refine wpList_append_own_at _ rfl (.tmp 23) (.tmp 24) 28 rfl base 3 i0 (.int .i64 0) 1 8 Tryz.underlying28 hi hz0 hz1 hz2 rfl (by decide) _ zs.length (idC zs) rfl HO.out ⟨g, 0, none⟩ 1 1 [.int .i64 x] rfl rfl ?_ (by intro u hu; simp at hu; subst hu; rfl) (by unfold maxLen; omega) (by omega) hb ?_; (focus (intro j u hj; cases j with | zero => simp at hj; subst hj; exact HG.out.cell 0 | succ j => simp at hj)); intro v' w1 h1 h2 h3 h4; have P1 := Lib.hid h1; have P2 := Lib.hid h2; have P4 := Lib.hid h4; clear h1 h2 h3 h4)
      go_ret
      refine ⟨_, rfl, ?_, Only.of_grown P2.out, P4.out⟩
      have h5 := P1.out
      simpa [idC] using h5
  · cases A
    · go_enter Tryz.func71, Tryz.ntmps71
      go_wp2_with (at_builtin; refine wpList_append_own_at _ rfl (.tmp 23) (.tmp 24) 28 rfl base 3 i0 (.int .i64 0) 1 8 Tryz.underlying28 hi hz0 hz1 hz2 rfl (by decide) _ zs.length (idC zs) rfl HO.out ⟨g, 0, none⟩ 1 1 [.int .i64 x] rfl rfl ?_ (by intro u hu; simp at hu; subst hu; rfl) (by unfold maxLen; omega) (by omega) hb ?_; (focus (intro j u hj; cases j with | zero => simp at hj; subst hj; exact HG.out.cell 0 | succ j => simp at hj)); intro v' w1 h1 h2 h3 h4; have P1 := Lib.hid h1; have P2 := Lib.hid h2; have P4 := Lib.hid h4; clear h1 h2 h3 h4)
      go_ret
      refine ⟨_, rfl, ?_, Only.of_grown P2.out, P4.out⟩
      have h5 := P1.out
      simpa [idC] using h5
    · go_enter Tryz.func71, Tryz.ntmps71
      go_wp2_with (at_builtin; refine wpList_append_own_at _ rfl (.tmp 23) (.tmp 24) 28 rfl base 3 i0 (.int .i64 0) 1 8 Tryz.underlying28 hi hz0 hz1 hz2 rfl (by decide) _ zs.length (idC zs) rfl HO.out ⟨g, 0, none⟩ 1 1 [.int .i64 x] rfl rfl ?_ (by intro u hu; simp at hu; subst hu; rfl) (by unfold maxLen; omega) (by omega) hb ?_; (focus (intro j u hj; cases j with | zero => simp at hj; subst hj; exact HG.out.cell 0 | succ j => simp at hj)); intro v' w1 h1 h2 h3 h4; have P1 := Lib.hid h1; have P2 := Lib.hid h2; have P4 := Lib.hid h4; clear h1 h2 h3 h4)
      go_ret
      refine ⟨_, rfl, ?_, Only.of_grown P2.out, P4.out⟩
      have h5 := P1.out
      simpa [idC] using h5
end Go.Proofs.YtbhdpfacfgldiaaGreatDoor
/- nodes.New. -/
namespace Go.Proofs.YtbhdpfacfgldiaaGreatDoor
open Go Go.RowKit
set_option linter.unusedVariables false
set_option linter.unusedSimpArgs false
set_option maxRecDepth 20000
set_option maxHeartbeats 4000000

def root0 : Nd := ⟨0, -1, false, ⟨#[]⟩, []⟩
theorem root0_ok : TreeOk [root0] := TreeOk.one (by decide +kernel)
theorem nnew_any (most : Int) (W : World) :
    Calls Tryz.prog 56 #[.int .i64 most] W fun e w' => ∃ t, e = .returned (.pointer (some ⟨t, 0, none⟩)) ∧ Tree w' W.heap.size t (mostZ most) [root0] ∧ Below W.heap.size W w' := by
  obtain ⟨m, hm⟩ : ∃ m : Int, (mostZ most : Int) = m := ⟨_, rfl⟩
  have hmm := @run_makeMap Tryz.prog
  have M0 := MapP.made Tryz.prog 3 W
  have B0 := ((((Below.refl W.heap.size W).alloc (Nat.le_refl _) (.map #[] 0)).alloc (by simp) (.cells #[.int .i64 m, .map (some W.heap.size)] 86)).alloc (by simp; omega) (.cells #[.int .i64 0, .int .i64 (-1), .bool false, .string ⟨#[]⟩, .slice none 0 0, .slice none 0 0] 88))
  have M1 := M0.only (Only.of_below (S := []) (((Below.refl _ _).alloc (Nat.le_refl _) (.cells #[.int .i64 m, .map (some W.heap.size)] 86)).alloc (by simp) (.cells #[.int .i64 0, .int .i64 (-1), .bool false, .string ⟨#[]⟩, .slice none 0 0, .slice none 0 0] 88))) (by simp)
  obtain ⟨w3, hrun, M3, O3⟩ := M1.store (t := 84) Tryz.underlying3 Tryz.underlying84 (by unfold maxLen; omega) (id := 0) (by unfold In64i; omega) (W.heap.size + 2) rfl
  have N1 := (Whole.mk (W.alloc (.map #[] 0)) 86 #[.int .i64 m, .map (some W.heap.size)]).made (.cells #[.int .i64 0, .int .i64 (-1), .bool false, .string ⟨#[]⟩, .slice none 0 0, .slice none 0 0] 88)
  have G1 := Whole.mk ((W.alloc (.map #[] 0)).alloc (.cells #[.int .i64 m, .map (some W.heap.size)] 86)) 88 #[.int .i64 0, .int .i64 (-1), .bool false, .string ⟨#[]⟩, .slice none 0 0, .slice none 0 0]
  simp only [World.size_alloc] at N1 G1
  have T3 : Hid (Tree w3 W.heap.size (W.heap.size + 1) m [root0]) := Lib.hid (by
    refine ⟨W.heap.size, _, fun _ => .slice none 0 0, fun _ => .slice none 0 0, root0_ok, ⟨by omega, Nat.le_refl _⟩, O3.whole N1 (by simp), M3, fun id => ?_, fun n hn g hg => ?_, fun n hn => ?_, fun n hn => ?_, fun i j g hi hj => ?_, fun n hn k hk g h1 h2 => ?_⟩
    · by_cases h : id = 0
      · subst h; rfl
      · have : ¬ (0 : Int) = id := fun e => h e.symm
        simp [h, hasZ, atZ, root0, this]
    · have e : n = root0 := by simpa using hn
      subst e
      have : g = W.heap.size + 2 := by
        have : some (W.heap.size + 2) = some g := hg
        injection this with this; exact this.symm
      subst this
      exact ⟨by omega, O3.whole G1 (by simp)⟩
    · have e : n = root0 := by simpa using hn
      subst e
      exact ⟨none, 0, rfl, ⟨rfl, .inl ⟨rfl, rfl⟩⟩, by simp [root0]⟩
    · have e : n = root0 := by simpa using hn
      subst e
      exact ⟨rfl, .inl ⟨rfl, rfl⟩⟩
    · by_cases h1 : i = 0
      · by_cases h2 : j = 0
        · rw [h1, h2]
        · simp [h2] at hj
      · simp [h1] at hi
    · simp [Value.ownBlock] at h1)
  have B3 := Lib.hid (B0.trans (O3.below (by simp) (by simp; omega)))
  clear M0 M1 M3 O3 N1 G1 B0
  have hmz : m = min (max most 1) 500 := by rw [← hm]; unfold mostZ; omega
  rw [hm]
  clear hm
  subst hmz
  go_enter Tryz.func56, Tryz.ntmps56
  go_wp2_with (rw [hrun])
  go_ret
  exact ⟨_, rfl, T3.out, B3.out⟩
end Go.Proofs.YtbhdpfacfgldiaaGreatDoor
/- nodes.link, of one that goes behind all kids. -/
namespace Go.Proofs.YtbhdpfacfgldiaaGreatDoor
open Go Go.RowKit
set_option linter.unusedVariables false
set_option linter.unusedSimpArgs false
set_option maxRecDepth 20000
set_option maxHeartbeats 4000000

theorem link_end {W : World} {base t b N : Nat} {most : Int} {f : Int → Option Nat} (hd : Whole W t 86 [.int .i64 most, .map (some b)]) (hm : MapP Tryz.prog 3 W b N f)
    {id par : Int} (hi : In64i id) (hp : In64i par) {g gp : Nat} (hfi : f id = some g) (hfp : f par = some gp) (hne : g ≠ gp)
    {a0 a1 a2 a3 a4 kv : Value} (hG : Whole W gp 88 [a0, a1, a2, a3, a4, kv]) {ks : List Int} (hk : W.ownsRow base 3 1 kv ks.length (idC ks)) (hn : (-1 : Int) ∉ ks) (hl : ks.length ≤ 1000000) (hb : base ≤ W.heap.size)
    {b0 b1 b2 b3 b4 b5 : Value} (hN : Whole W g 88 [b0, b1, b2, b3, b4, b5]) :
    Calls Tryz.prog 60 #[.pointer (some ⟨t, 0, none⟩), .int .i64 id, .int .i64 par, .int .i64 (-1)] W fun e w' => e = .returned (.tuple #[]) ∧
      ∃ kv', Whole w' gp 88 [a0, a1, a2, a3, a4, kv'] ∧ Whole w' g 88 [b0, .int .i64 par, b2, b3, b4, b5] ∧ w'.ownsRow base 3 1 kv' (ks ++ [id]).length (idC (ks ++ [id])) ∧
        Only (gp :: g :: kv.ownBlock.toList) W w' ∧ (kv'.ownBlock = kv.ownBlock ∨ ∃ k, kv'.ownBlock = some k ∧ W.heap.size ≤ k) := by
  have c0 : W.cell? ⟨t, 0, none⟩ = some (.int .i64 most) := hd.cell 0
  have c1 : W.cell? ⟨t, 1, none⟩ = some (.map (some b)) := hd.cell 1
  have l1 := hm.look (t := 84) Tryz.underlying3 Tryz.underlying84 (zeroPtr W) hp
  rw [hfp] at l1
  change (Instr.lookup 84 (.map (some b)) (.int .i64 par) false).run Tryz.prog W = .ok (.pointer (some ⟨gp, 0, none⟩)) W at l1
  have d5 : W.cell? ⟨gp, 5, none⟩ = some kv := hG.cell 5
  have nk : kv.ownBlock ≠ some gp := whole_ne hG hk (by decide)
  have nk2 : kv.ownBlock ≠ some g := whole_ne hN hk (by decide)
  have nk3 : kv.ownBlock ≠ some t := whole_ne hd hk (by decide)
  have nm : kv.ownBlock ≠ some b := by
    intro e
    obtain ⟨D, ⟨es, clock, hb', -⟩, -⟩ := hm
    rcases hk.2 with ⟨rfl, -⟩ | ⟨g', cap, cur, rfl, -, hg', -⟩
    · simp [Value.ownBlock] at e
    · simp [Value.ownBlock] at e
      subst e
      rw [hb'] at hg'
      cases hg'
  have nb : b ≠ gp := by
    intro e
    obtain ⟨D, ⟨es, clock, hb', -⟩, -⟩ := hm
    subst e
    have hG' : W.heap[b]? = _ := hG
    rw [hb'] at hG'
    cases hG'
  have nt : t ≠ gp := by
    intro e
    subst e
    have h1 : W.heap[t]? = _ := hG
    have h2 : W.heap[t]? = _ := hd
    rw [h1] at h2
    injection h2 with h2
    simp at h2
  have ho := row_of_own (A := match kv with | .slice A _ _ => A | _ => none) (c := match kv with | .slice _ _ c => c | _ => 0) (by obtain ⟨A, c, rfl⟩ := own_shape hk; exact hk)
  obtain ⟨A, c, rfl⟩ := own_shape hk
  have IX := Lib.hid (index_none A c ks (-1) hn hl W ho)
  have I1 : Whole (W.alloc (.cells #[.int .i64 id] 3)) W.heap.size 3 [.int .i64 id] := Whole.mk W 3 #[.int .i64 id]
  have hal : Below W.heap.size W (W.alloc (.cells #[.int .i64 id] 3)) := (Below.refl _ _).alloc (Nat.le_refl _) _
  have oal : Only [] W (W.alloc (.cells #[.int .i64 id] 3)) := Only.of_below hal
  have INS := Lib.hid (insert_end base (.slice A ks.length c) ks id W.heap.size hl (W.alloc (.cells #[.int .i64 id] 3)) (oal.owns hk (by simp)) (by simp; omega) I1)
  have HH := Lib.hid (And.intro hd (And.intro hG hN))
  have HM := Lib.hid hm
  have HK := Lib.hid hk
  clear hd hG hN hm hk ho I1 hn
  go_enter Tryz.func60, Tryz.ntmps60
  go_wp2_with (rw [l1])
  refine IX.out.mono ?_
  rintro e w1 ⟨rfl, rfl⟩
  go_wp2_with fail
  refine INS.out.mono ?_
  rintro e w2 ⟨kv', rfl, h1, h2, h3⟩
  obtain ⟨A2, c2, rfl⟩ := own_shape h1
  have o2 : Only (Value.slice A ks.length c).ownBlock.toList W w2 := (oal.mono (by simp)).trans h2 (fun x hx => .inl hx)
  have sz2 : W.heap.size < w2.heap.size := by have := h2.size; simp at this; omega
  obtain ⟨hd, hG, hN⟩ := HH.out
  have D2 := Lib.hid (o2.whole hd (by intro hx; exact nk3 (by simpa using hx)))
  have G2 := Lib.hid (o2.whole hG (by intro hx; exact nk (by simpa using hx)))
  have N2 := Lib.hid (o2.whole hN (by intro hx; exact nk2 (by simpa using hx)))
  have M2 := Lib.hid (HM.out.only o2 (by intro hx; exact nm (by simpa using hx)))
  have own2 := Lib.hid h1
  have n2 : (Value.slice A2 (ks ++ [id]).length c2).ownBlock ≠ some gp := whole_ne G2.out h1 (by decide)
  have n3 : (Value.slice A2 (ks ++ [id]).length c2).ownBlock ≠ some g := whole_ne N2.out h1 (by decide)
  have K3 : Hid ((Value.slice A2 (ks ++ [id]).length c2).ownBlock = (Value.slice A ks.length c).ownBlock ∨ ∃ k, (Value.slice A2 (ks ++ [id]).length c2).ownBlock = some k ∧ W.heap.size ≤ k) := Lib.hid (by
    rcases h3 with h3 | h3
    · exact .inl h3
    · exact .inr ⟨_, h3, by simp⟩)
  have OO2 := Lib.hid o2
  have e5 : w2.cell? ⟨gp, 5, none⟩ = some (.slice A ks.length c) := G2.out.cell 5
  have f5 := G2.out.free 5
  generalize hL : (ks ++ [id]).length = m at *
  have O3 : Hid (Only [gp] w2 (w2.setCell ⟨gp, 5, none⟩ (.slice A2 m c2))) := Lib.hid ((Only.refl _ _).setCell _ (.inl (by simp)) _)
  have G3 : Hid (Whole (w2.setCell ⟨gp, 5, none⟩ (.slice A2 m c2)) gp 88 [a0, a1, a2, a3, a4, .slice A2 m c2]) := Lib.hid (G2.out.put 5 _)
  clear h1 h2 h3 o2 hd hG hN HH HM l1 c0 c1 d5 IX INS oal hal HK
  go_upto_region 5 with fail
  clear e5 f5
  generalize w2.setCell _ _ = w3 at *
  have D3 := Lib.hid (O3.out.whole D2.out (by simp; exact nt))
  have N3 := Lib.hid (O3.out.whole N2.out (by simp; exact hne))
  have M3 := Lib.hid (M2.out.only O3.out (by simp; exact nb))
  have own3 := Lib.hid (O3.out.owns own2.out (by intro k hk hx; simp at hx; subst hx; exact n2 hk))
  have c0 : w3.cell? ⟨t, 0, none⟩ = some (.int .i64 most) := D3.out.cell 0
  have c1 : w3.cell? ⟨t, 1, none⟩ = some (.map (some b)) := D3.out.cell 1
  have l1 := M3.out.look (t := 84) Tryz.underlying3 Tryz.underlying84 (zeroPtr w3) hi
  rw [hfi] at l1
  change (Instr.lookup 84 (.map (some b)) (.int .i64 id) false).run Tryz.prog w3 = .ok (.pointer (some ⟨g, 0, none⟩)) w3 at l1
  have e1 : w3.cell? ⟨g, 1, none⟩ = some b1 := N3.out.cell 1
  have f1 := N3.out.free 1
  have O4 : Hid (Only [g] w3 (w3.setCell ⟨g, 1, none⟩ (.int .i64 par))) := Lib.hid ((Only.refl _ _).setCell _ (.inl (by simp)) _)
  have N4 : Hid (Whole (w3.setCell ⟨g, 1, none⟩ (.int .i64 par)) g 88 [b0, .int .i64 par, b2, b3, b4, b5]) := Lib.hid (N3.out.put 1 _)
  have G4 := Lib.hid (O4.out.whole G3.out (by simp; exact fun e => hne e.symm))
  have own4 := Lib.hid (O4.out.owns own3.out (by intro k hk hx; simp at hx; subst hx; exact n3 hk))
  have OA : Hid (Only (gp :: g :: (Value.slice A ks.length c).ownBlock.toList) W (w3.setCell ⟨g, 1, none⟩ (.int .i64 par))) := Lib.hid (((OO2.out.mono (fun x hx => .inl (by simp at hx ⊢; exact .inr (.inr hx)))).trans O3.out (fun x hx => .inl (by simp at hx; simp [hx]))).trans O4.out (fun x hx => .inl (by simp at hx; simp [hx])))
  go_wp2_with (rw [l1])
  exact bodyPost_end (v := .tuple #[]) (results_none (by kernel_rfl) _ _ _) rfl ⟨rfl, .slice A2 m c2, G4.out, N4.out, by rw [hL]; exact own4.out, OA.out, K3.out⟩
end Go.Proofs.YtbhdpfacfgldiaaGreatDoor
/- A tree with one more node, behind all kids of its parent. -/
namespace Go.Proofs.YtbhdpfacfgldiaaGreatDoor
open Go Go.RowKit
set_option linter.unusedVariables false
set_option linter.unusedSimpArgs false
set_option maxRecDepth 20000
set_option maxHeartbeats 4000000

theorem map_no_cells {P : Program} {k : TypeId} {w : World} {b n : Nat} {f : Int → Option Nat} (h : MapP P k w b n f) {t : TypeId} {cs : List Value} : ¬ Whole w b t cs := by
  obtain ⟨D, ⟨es, clock, hb, -⟩, -⟩ := h
  intro hw
  have hw' : w.heap[b]? = _ := hw
  rw [hb] at hw'
  cases hw'
theorem map_no_row {P : Program} {k : TypeId} {w : World} {b n : Nat} {f : Int → Option Nat} (h : MapP P k w b n f) {base e size m : Nat} {v : Value} {xs : List Value} (ho : w.ownsRow base e size v m xs) : v.ownBlock ≠ some b := by
  obtain ⟨D, ⟨es, clock, hb, -⟩, -⟩ := h
  intro e'
  rcases ho.2 with ⟨rfl, -⟩ | ⟨g', cap, cur, rfl, -, hg', -⟩
  · simp [Value.ownBlock] at e'
  · simp [Value.ownBlock] at e'
    subst e'
    rw [hb] at hg'
    cases hg'
theorem own_lt {w : World} {base e size m : Nat} {v : Value} {xs : List Value} (ho : w.ownsRow base e size v m xs) {k : Nat} (hk : v.ownBlock = some k) : k < w.heap.size := (ho.lt k hk).2
theorem whole_two {w : World} {g : Nat} {t t' : TypeId} {cs cs' : List Value} (h : Whole w g t cs) (h' : Whole w g t' cs') : t = t' := by
  have h1 : w.heap[g]? = _ := h
  have h2 : w.heap[g]? = _ := h'
  rw [h1] at h2
  injection h2 with h2
  simp at h2
  exact h2.2
theorem kids_pos {L : List Nd} (h : TreeOk L) (id : Int) : (-1 : Int) ∉ kidsZ L id := by
  unfold kidsZ
  intro hx
  obtain ⟨m, hm, e⟩ := List.mem_map.1 hx
  have hm' := List.mem_of_mem_tail (List.mem_filter.1 hm).1
  have := h.rng m hm'
  omega
theorem TreeAt.add {W w : World} {base t b : Nat} {most : Int} {L : List Nd} {f : Int → Option Nat} {sv kv : Int → Value} (h : TreeAt W base t b most L f sv kv) {n : Nd} (h1 : 0 ≤ n.id ∧ n.id ≤ 1000) (h2 : hasZ L n.id = false) {p : Nd} (hp : p ∈ L) (hpi : p.id = n.par)
    {gp g : Nat} (hgp : f p.id = some gp) (hg : W.heap.size ≤ g) (hO : Only (b :: gp :: (kv p.id).ownBlock.toList) W w)
    (hM : MapP Tryz.prog 3 w b (L.length + 1) (fun x => if x = n.id then some g else f x)) {kn sn : Value}
    (hG : Whole w gp 88 (ndC p (sv p.id) kn)) (hK : w.ownsRow base 3 1 kn (kidsZ L p.id ++ [n.id]).length (idC (kidsZ L p.id ++ [n.id])))
    (hkn : kn.ownBlock = (kv p.id).ownBlock ∨ ∃ k, kn.ownBlock = some k ∧ W.heap.size ≤ k) (hN : Whole w g 88 (ndC n sn (.slice none 0 0))) (hS : StyOwn w base sn n.sty) (hb0 : base ≤ W.heap.size) :
    TreeAt w base t b most (L ++ [n]) (fun x => if x = n.id then some g else f x) (fun x => if x = n.id then sn else sv x) (fun x => if x = n.id then .slice none 0 0 else if x = n.par then kn else kv x) := by
  have hP : hasZ L n.par = true := has_iff.2 ⟨p, hp, hpi⟩
  have hok := h.ok.add h1 h2 hP
  have hne : n.par ≠ n.id := fun e => by rw [e, h2] at hP; cases hP
  have hL0 : L ≠ [] := by obtain ⟨r, R, rfl, -⟩ := h.ok.root; simp
  have hid : ∀ m ∈ L, m.id ≠ n.id := fun m hm e => at_none.1 (has_no h2) m hm e
  have bO := (h.nod p hp gp hgp).2
  have kO := h.kid p hp
  have inS : ∀ x, x ∈ (b :: gp :: (kv p.id).ownBlock.toList) → x = b ∨ x = gp ∨ (kv p.id).ownBlock = some x := fun x hx => by
    simp at hx; rcases hx with rfl | rfl | hx
    · exact .inl rfl
    · exact .inr (.inl rfl)
    · exact .inr (.inr hx)
  refine ⟨hok, h.low, ?_, by simpa using hM, fun id => ?_, fun m hm k hk => ?_, fun m hm => ?_, fun m hm => ?_, fun i j k hi hj => ?_, fun m hm m' hm' k hk hk' => ?_⟩
  · refine hO.whole h.hd fun hx => ?_
    rcases inS _ hx with e | e | e
    · subst e; exact map_no_cells h.mp h.hd
    · subst e; exact absurd (whole_two h.hd bO) (by decide)
    · exact whole_ne h.hd kO (by decide) e
  · rw [has_append L n id h2]
    by_cases e : id = n.id
    · simp [e]
    · simp [e, h.dom id]
  · rcases List.mem_append.1 hm with hm | hm
    · rw [if_neg (hid m hm)] at hk
      rw [if_neg (hid m hm), if_neg (hid m hm)]
      obtain ⟨hk1, hk2⟩ := h.nod m hm k hk
      refine ⟨hk1, ?_⟩
      by_cases e : m.id = n.par
      · have em : m = p := by
          have e1 := h.ok.at_mem hm
          have e2 := h.ok.at_mem hp
          rw [e, ← hpi, e2] at e1
          injection e1 with e1; exact e1.symm
        subst em
        rw [hgp] at hk
        injection hk with hk
        subst hk
        rw [if_pos e]; exact hG
      · rw [if_neg e]
        refine hO.whole hk2 fun hx => ?_
        rcases inS _ hx with e1 | e1 | e1
        · subst e1; exact map_no_cells h.mp hk2
        · subst e1
          have := h.inj _ _ _ hk hgp
          exact e (this.trans hpi)
        · exact whole_ne hk2 kO (by decide) e1
    · have em : m = n := by simpa using hm
      subst em
      rw [if_pos rfl] at hk
      injection hk with hk
      subst hk
      rw [if_pos rfl, if_pos rfl]
      exact ⟨by omega, hN⟩
  · rcases List.mem_append.1 hm with hm | hm
    · rw [if_neg (hid m hm)]
      refine (h.sty m hm).only hO fun k hk hx => ?_
      obtain ⟨A, c, e, hr, -⟩ := h.sty m hm
      rcases inS _ hx with e1 | e1 | e1
      · subst e1; rw [e] at hk; exact map_no_row h.mp hr hk
      · subst e1; exact (h.sty m hm).other bO (by decide) hk
      · rw [e] at hk
        rcases hr.2 with ⟨e2, -⟩ | ⟨g', cap, cur, e2, -, hg', -⟩
        · rw [e2] at hk; simp [Value.ownBlock] at hk
        · rw [e2] at hk
          simp [Value.ownBlock] at hk
          subst hk
          rcases kO.2 with ⟨e3, -⟩ | ⟨g2, cap2, cur2, e3, -, hg2, -⟩
          · rw [e3] at e1; simp [Value.ownBlock] at e1
          · rw [e3] at e1
            simp [Value.ownBlock] at e1
            subst e1
            rw [hg'] at hg2
            injection hg2 with hg2
            simp at hg2
    · have em : m = n := by simpa using hm
      subst em
      rw [if_pos rfl]; exact hS
  · rcases List.mem_append.1 hm with hm | hm
    · rw [if_neg (hid m hm), kids_append L n _ hL0]
      by_cases e : m.id = n.par
      · rw [if_pos e, if_pos e]
        have : m.id = p.id := e.trans hpi.symm
        rw [this]; exact hK
      · rw [if_neg e, if_neg e]
        refine hO.owns (h.kid m hm) fun k hk hx => ?_
        rcases inS _ hx with e1 | e1 | e1
        · subst e1; exact map_no_row h.mp (h.kid m hm) hk
        · subst e1; exact whole_ne bO (h.kid m hm) (by decide) hk
        · exact e ((h.apart m hm p hp k hk e1).trans hpi)
    · have em : m = n := by simpa using hm
      subst em
      rw [if_pos rfl, kids_append L m _ hL0, if_neg (fun e => hne e.symm), kids_none h.ok h2]
      exact ⟨rfl, .inl ⟨rfl, rfl⟩⟩
  · by_cases e1 : i = n.id
    · by_cases e2 : j = n.id
      · rw [e1, e2]
      · rw [if_pos e1] at hi
        rw [if_neg e2] at hj
        injection hi with hi
        subst hi
        have hj' : hasZ L j = true := by rw [← h.dom j, hj]; rfl
        obtain ⟨m, hm, em⟩ := has_iff.1 hj'
        subst em
        have := (h.nod m hm _ hj).2.size
        omega
    · rw [if_neg e1] at hi
      by_cases e2 : j = n.id
      · rw [if_pos e2] at hj
        injection hj with hj
        subst hj
        have hi' : hasZ L i = true := by rw [← h.dom i, hi]; rfl
        obtain ⟨m, hm, em⟩ := has_iff.1 hi'
        subst em
        have := (h.nod m hm _ hi).2.size
        omega
      · rw [if_neg e2] at hj
        exact h.inj _ _ _ hi hj
  · have far : ∀ m ∈ L, ∀ k, (kv m.id).ownBlock = some k → k < W.heap.size := fun m hm k hk => own_lt (h.kid m hm) hk
    have leaf : ∀ k, (Value.slice none 0 0).ownBlock ≠ some k := fun k => by simp [Value.ownBlock]
    rcases List.mem_append.1 hm with hm | hm
    · rcases List.mem_append.1 hm' with hm' | hm'
      · rw [if_neg (hid m hm)] at hk
        rw [if_neg (hid m' hm')] at hk'
        by_cases e : m.id = n.par
        · by_cases e' : m'.id = n.par
          · exact e.trans e'.symm
          · rw [if_pos e] at hk
            rw [if_neg e'] at hk'
            rcases hkn with q | ⟨k2, q, hq⟩
            · rw [q] at hk
              have := h.apart p hp m' hm' k hk hk'
              exact absurd (this.symm.trans hpi) e'
            · rw [q] at hk
              injection hk with hk
              subst hk
              have := far m' hm' _ hk'
              omega
        · rw [if_neg e] at hk
          by_cases e' : m'.id = n.par
          · rw [if_pos e'] at hk'
            rcases hkn with q | ⟨k2, q, hq⟩
            · rw [q] at hk'
              have := h.apart m hm p hp k hk hk'
              exact absurd (this.trans hpi) e
            · rw [q] at hk'
              injection hk' with hk'
              subst hk'
              have := far m hm _ hk
              omega
          · rw [if_neg e'] at hk'
            exact h.apart m hm m' hm' k hk hk'
      · have em : m' = n := by simpa using hm'
        subst em
        rw [if_pos rfl] at hk'
        exact absurd hk' (leaf k)
    · have em : m = n := by simpa using hm
      subst em
      rw [if_pos rfl] at hk
      exact absurd hk (leaf k)
end Go.Proofs.YtbhdpfacfgldiaaGreatDoor
/- Regions that draw: calls whose arguments are told, and whose answer is told or known. No program is named here. -/
namespace Go.Proofs.YtbhdpfacfgldiaaGreatDoor
set_option linter.unusedVariables false
set_option linter.unusedSimpArgs false
open Go.RowKit

section
variable {P : Program} {ops : Array Oper} {w0 : World} {Fin : Env → Prop} {o : Oper} {r : List Oper} {a : Act} {F : List (Tmp × Told)} {d : Tmp}
theorem wanted_told {a' : Act} {w : World} (hw : Region.wanted o (yielded ops a.tmps) = true) (hg : clearB F (guardSlots ops o) = true) (hm : meets (envOf a F) (o.looksAt ops) a' w) : Region.wanted o (yielded ops a'.tmps) = true := by
  rw [same_wanted (a := a) fun s hs => ?_]
  · exact hw
  · have h1 := hm s (by
      unfold guardSlots at hs
      unfold Oper.looksAt
      exact List.mem_append_right _ hs)
    unfold envOf at h1
    rw [clear_spec hg hs] at h1
    exact h1
/-- What a slot is told to hold, at a frame that meets all that is told. -/
theorem told_at {a' : Act} {w : World} {t : Tmp} {f : FuncId} {xs : Array Operand} {ts : Array TypeId} (hop : o.op = .call { callee := .value (.func f), args := xs, argTypes := ts }) (hm : meets (envOf a F) (o.looksAt ops) a' w) (ht : Operand.tmp t ∈ xs) : envOf a F t (a'.tmps.getD t undef) w :=
  hm t (by
    unfold Oper.looksAt
    refine List.mem_append_left _ (List.mem_filterMap.2 ⟨.tmp t, ?_, rfl⟩)
    simp only [hop, Op.operands, Call.operands]
    simpa using ht)
theorem laneO_callT {f : FuncId} {fn : Func} {c : Code} {xs : Array Operand} {ts : Array TypeId} (T : Told) (hT : Steady T) (hop : o.op = .call { callee := .value (.func f), args := xs, argTypes := ts }) (ho : o.dst = some d)
    (hw : Region.wanted o (yielded ops a.tmps) = true) (hg : clearB F (guardSlots ops o) = true) (hf : P.funcs[f]? = some fn) (hname : (fn.name == "runtime.NumGoroutine") = false) (hb : fn.body = some c)
    (h : ∀ (a' : Act) (w : World), Behind w0 w → (∀ t, Operand.tmp t ∈ xs → envOf a F t (a'.tmps.getD t undef) w) → Calls P f (xs.map a'.eval) w fun e w' => ∃ v, e = .returned v ∧ Behind w w' ∧ T v w')
    (hr : laneO P ops w0 Fin r (envOf a ((d, T) :: F))) : laneO P ops w0 Fin (o :: r) (envOf a F) := by
  refine ⟨T, ⟨hT, fun a' w hb' hm => .inl (.inl ⟨wanted_told hw hg hm, ?_⟩)⟩, by rw [ho, upd_told]; exact hr⟩
  unfold gives
  rw [run_enter hop hf hname hb]
  exact ⟨Behind.refl w, h a' w hb' fun t ht => told_at hop hm ht⟩
theorem laneO_callV {f : FuncId} {fn : Func} {c : Code} {xs : Array Operand} {ts : Array TypeId} {v : Value} (hop : o.op = .call { callee := .value (.func f), args := xs, argTypes := ts }) (ho : o.dst = some d) (hd : d < a.tmps.size) (hF : F.lookup d = none)
    (hw : Region.wanted o (yielded ops a.tmps) = true) (hg : clearB F (guardSlots ops o) = true) (hf : P.funcs[f]? = some fn) (hname : (fn.name == "runtime.NumGoroutine") = false) (hb : fn.body = some c)
    (h : ∀ (a' : Act) (w : World), Behind w0 w → (∀ t, Operand.tmp t ∈ xs → envOf a F t (a'.tmps.getD t undef) w) → Calls P f (xs.map a'.eval) w fun e w' => e = .returned v ∧ Behind w w')
    (hr : laneO P ops w0 Fin r (envOf (a.put (some d) v) F)) : laneO P ops w0 Fin (o :: r) (envOf a F) := by
  refine laneO_use (by simp [notSelect, hop]) ho hd hF (fun a' w hb' hm => .inl ⟨wanted_told hw hg hm, ?_⟩) hr
  unfold gives
  rw [run_enter hop hf hname hb]
  exact ⟨Behind.refl w, (h a' w hb' fun t ht => told_at hop hm ht).mono fun e w' ⟨he, hb⟩ => ⟨v, he, hb, rfl⟩⟩
theorem gives_mono {P : Program} {o : Oper} {a : Act} {w : World} {T T' : Told} (h : gives P o a w T) (hT : ∀ v w', Behind w w' → T v w' → T' v w') : gives P o a w T' := by
  unfold gives at h ⊢
  split at h
  · exact ⟨h.1, hT _ _ h.1 h.2⟩
  · exact ⟨h.1, hT _ _ h.1 h.2⟩
  · obtain ⟨h1, h2⟩ := h
    exact ⟨h1, h2.mono fun e w'' ⟨v, he, hb, ht⟩ => ⟨v, he, hb, hT _ _ (Behind.trans h1 hb) ht⟩⟩
  · exact h.elim
/-- An operation on what is told, whose answer is told. -/
theorem laneO_gives (T : Told) (hT : Steady T) (ho : o.dst = some d) (hw : Region.wanted o (yielded ops a.tmps) = true) (hg : clearB F (guardSlots ops o) = true)
    (h : ∀ (a' : Act) (w : World), Behind w0 w → meets (envOf a F) (o.looksAt ops) a' w → gives P o a' w T) (hr : laneO P ops w0 Fin r (envOf a ((d, T) :: F))) : laneO P ops w0 Fin (o :: r) (envOf a F) := by
  refine ⟨T, ⟨hT, fun a' w hb' hm => .inl (.inl ⟨wanted_told hw hg hm, h a' w hb' hm⟩)⟩, by rw [ho, upd_told]; exact hr⟩
end
end Go.Proofs.YtbhdpfacfgldiaaGreatDoor
/- nodes.Put, behind all kids. -/
namespace Go.Proofs.YtbhdpfacfgldiaaGreatDoor
open Go Go.RowKit
set_option linter.unusedVariables false
set_option linter.unusedSimpArgs false
set_option maxRecDepth 20000
set_option maxHeartbeats 4000000

/-- A struct of a node with a list of its own. -/
def lentT (lo : Nat) (n : Nd) : Told := fun v w => ∃ A c, v = .agg (nodeC n (.slice A n.sty.length c)).toArray ∧ StyOwn w lo (.slice A n.sty.length c) n.sty
theorem lentT_steady (lo : Nat) (n : Nd) : Steady (lentT lo n) := fun v w w' hb ⟨A, c, e, h⟩ => ⟨A, c, e, h.only (Only.of_below (S := []) hb) (by simp)⟩
def freshT (lo : Nat) (n : Nd) : Told := fun v w => ∃ A c, v = .agg (ndC n (.slice A n.sty.length c) (.slice none 0 0)).toArray ∧ StyOwn w lo (.slice A n.sty.length c) n.sty
theorem freshT_steady (lo : Nat) (n : Nd) : Steady (freshT lo n) := fun v w w' hb ⟨A, c, e, h⟩ => ⟨A, c, e, h.only (Only.of_below (S := []) hb) (by simp)⟩
def nodeAtT (lo : Nat) (n : Nd) : Told := fun v w => ∃ g A c, v = .pointer (some ⟨g, 0, none⟩) ∧ lo ≤ g ∧ Whole w g 88 (ndC n (.slice A n.sty.length c) (.slice none 0 0)) ∧ StyOwn w lo (.slice A n.sty.length c) n.sty
theorem nodeAtT_steady (lo : Nat) (n : Nd) : Steady (nodeAtT lo n) := fun v w w' hb ⟨g, A, c, e, hl, hw, h⟩ => ⟨g, A, c, e, hl, hw.under hb hw.size, h.only (Only.of_below (S := []) hb) (by simp)⟩
theorem nput_any {W : World} {base t : Nat} {most : Int} {L : List Nd} (hT : Tree W base t most L) (hb0 : base ≤ W.heap.size) {n : Nd} {sv : Value} (hs : StyAt W sv n.sty) (h1 : 0 ≤ n.id ∧ n.id ≤ 1000) (h2 : hasZ L n.id = false) (h3 : hasZ L n.par = true) (hL : L.length ≤ 1000) :
    Calls Tryz.prog 37 #[.pointer (some ⟨t, 0, none⟩), .agg (nodeC n sv).toArray, .int .i64 (-1)] W fun e w' => e = .returned (.tuple #[]) ∧ Tree w' base t most (L ++ [n]) ∧ Below base W w' ∧ ∀ q cs, Whole W q 32 cs → Whole w' q 32 cs := by
  have B0 := Lib.hid ((Below.refl W.heap.size W).alloc (Nat.le_refl _) (.cells (nodeC n sv).toArray 32))
  have P0 := Lib.hid (Whole.mk W 32 (nodeC n sv).toArray)
  obtain ⟨b, f, svs, kvs, hT⟩ := hT.behind B0.out
  have HS := Lib.hid (hs.below B0.out)
  have HT := Lib.hid hT
  obtain ⟨A0, c0, rfl, -⟩ := hs
  clear hT
  go_enter Tryz.func37, Tryz.ntmps37
  go_upto_region 1 with fail
  generalize W.alloc _ = w0 at *
  have y1 : ∀ x : Later w0.heap.size w0, x.w.cell? ⟨t, 1, none⟩ = some (.map (some b)) := fun x => (HT.out.hd.under x.h HT.out.hd.size).cell 1
  have y2 : ∀ x : Later w0.heap.size w0, x.w.cell? ⟨W.heap.size, 0, none⟩ = some (.int .i64 n.id) := fun x => (P0.out.under x.h P0.out.size).cell 0
  have YP := Lib.hid (fun w (hb : Behind w0 w) => P0.out.under hb P0.out.size)
  have YS := Lib.hid (fun w (hb : Behind w0 w) => HS.out.below hb)
  refine region_lane [] [0, 1, 2, 3, 4, 5, 6, 7, 8, 9] [10] (by kernel_rfl) (by kernel_rfl) (fun _ _ _ _ _ h => h) ?_
  simp only [pick, List.map_nil]
  refine wpQuiet_nil ⟨rfl, ?_⟩
  simp only [List.map_cons, List.map_nil, List.getD_cons_zero, List.getD_cons_succ, List.drop_succ_cons, List.drop_zero]
  refine laneO_run 6 (by kernel_rfl) ?_
  simp only [List.take_succ_cons, List.take_zero, List.drop_succ_cons, List.drop_zero]
  repeat (go_big_quiet_step (fail))
  refine wpQuiet_nil ?_
  refine laneO_fixed (v := .agg (nodeC n (.slice A0 n.sty.length c0)).toArray) (by kernel_rfl) (fun w hw => .inl ⟨by rfl, cells_gives (n := 5) nodeT (.tmp 4) rfl W.heap.size rfl (nodeC n (.slice A0 n.sty.length c0)) rfl 32 (YP.out w hw)⟩) ?_
  simp only [Act.put, List.setIfInBounds_toArray, List.set_cons_zero, List.set_cons_succ]
  refine laneO_callT (lentT w0.heap.size n) (lentT_steady _ _) rfl rfl (by rfl) (by rfl) Tryz.func59 (by kernel_rfl) rfl (fun a' w hw hm => ?_) ?_
  · have e := hm 12 (by simp)
    have e : a'.tmps.getD 12 undef = .agg (nodeC n (.slice A0 n.sty.length c0)).toArray := e
    have e2 : (#[Operand.tmp 12] : Array Operand).map a'.eval = #[.agg (nodeC n (.slice A0 n.sty.length c0)).toArray] := by simp [Act.eval] at e ⊢; exact e
    rw [e2]
    refine (lent_any n _ w (YS.out w hw)).mono ?_
    rintro e w' ⟨sv', rfl, hs', hb'⟩
    obtain ⟨A, c, rfl, -⟩ := id hs'
    exact ⟨_, rfl, hb', A, c, rfl, hs'.mono hw.size⟩
  refine laneO_gives (freshT w0.heap.size n) (freshT_steady _ _) rfl (by rfl) (by rfl) (fun a' w hw hm => ?_) ?_
  · obtain ⟨A, c, e, hs'⟩ : lentT w0.heap.size n (a'.tmps.getD 13 undef) w := hm 13 (by simp [Oper.looksAt, Op.operands])
    have e2 : ((#[(0, Operand.tmp 13)] : Array (Nat × Operand)).map fun (i, x) => (i, a'.eval x)).toList = [(0, .agg (nodeC n (.slice A n.sty.length c)).toArray)] := by simp [Act.eval] at e ⊢; exact e
    have e3 : Tryz.prog.built 88 [(0, .agg (nodeC n (.slice A n.sty.length c)).toArray)] = some (ndC n (.slice A n.sty.length c) (.slice none 0 0)).toArray := by kernel_rfl
    exact gives_mono (built_gives 88 #[(0, .tmp 13)] rfl (ndC n (.slice A n.sty.length c) (.slice none 0 0)).toArray (by rw [e2]; exact e3)) fun v w' hb' hv => ⟨A, c, hv, hs'.only (Only.of_below (S := []) hb') (by simp)⟩
  refine laneO_gives (nodeAtT w0.heap.size n) (nodeAtT_steady _ _) rfl (by rfl) (by rfl) (fun a' w hw hm => ?_) ?_
  · obtain ⟨A, c, e, hs'⟩ : freshT w0.heap.size n (a'.tmps.getD 14 undef) w := hm 14 (by simp [Oper.looksAt, Op.operands])
    have hb1 : Behind w (w.alloc (.cells (ndC n (.slice A n.sty.length c) (.slice none 0 0)).toArray 88)) := (Below.refl _ _).alloc (Nat.le_refl _) _
    have e3 : a'.eval (.tmp 14) = .agg (ndC n (.slice A n.sty.length c) (.slice none 0 0)).toArray := e
    unfold gives
    simp only [execOp, e3]
    simp [go_sem, ndC]
    exact ⟨hb1, w.heap.size, A, c, rfl, hw.size, Whole.mk w 88 (ndC n (.slice A n.sty.length c) (.slice none 0 0)).toArray, hs'.only (Only.of_below (S := []) hb1) (by simp)⟩
  refine laneO_end (by simp) (by rfl) rfl rfl fun w1 hb1 => ?_
  rintro x ⟨g, A, c, rfl, hg, hN, hS⟩ y hy z hz
  clear hy hz y1 y2 YP YS
  simp only [fillAll, Act.put, List.setIfInBounds_toArray, List.set_cons_zero, List.set_cons_succ]
  have h := HT.out
  have h0w : W.heap.size < w0.heap.size := P0.out.size
  have hn0 : f n.id = none := h.gone h2
  obtain ⟨p, hp, hpi⟩ := has_iff.1 h3
  obtain ⟨gp, hgp⟩ := h.there hp
  have hfp : f n.par = some gp := by rw [← hpi]; exact hgp
  have hne : n.par ≠ n.id := fun e => by rw [e, h2] at h3; cases h3
  have hI : In64i n.id := by unfold In64i; omega
  have hIp : In64i n.par := by have := h.ok.rng p hp; unfold In64i; omega
  have hgp0 : gp < w0.heap.size := (h.nod p hp gp hgp).2.size
  have H1 := h.behind hb1
  obtain ⟨w2, hrun, M2, O2⟩ := H1.mp.store (t := 84) Tryz.underlying3 Tryz.underlying84 (by unfold maxLen; omega) hI g hn0
  have D2 := O2.whole H1.hd (by simp; intro e; subst e; exact map_no_cells H1.mp H1.hd)
  have PP := P0.out.under hb1 P0.out.size
  have P2 := O2.whole PP (by simp; intro e; subst e; exact map_no_cells H1.mp PP)
  have N2 := O2.whole hN (by simp; intro e; subst e; exact map_no_cells H1.mp hN)
  have hG1 := (H1.nod p hp gp hgp).2
  have G2 := O2.whole hG1 (by simp; intro e; subst e; exact map_no_cells H1.mp hG1)
  have K1 := H1.kid p hp
  have K2 := O2.owns K1 (by intro k hk hx; simp at hx; subst hx; exact map_no_row H1.mp K1 hk)
  have S2 := hS.only O2 (by
    intro k hk hx; simp at hx; subst hx
    obtain ⟨A', c', e', hr', -⟩ := hS
    rw [e'] at hk
    exact map_no_row H1.mp hr' hk)
  have z2 : w0.heap.size ≤ w2.heap.size := by have := O2.size; have := hb1.size; omega
  have LK := Lib.hid (link_end (base := base) D2 M2 hI hIp (if_pos rfl) (by rw [if_neg hne]; exact hfp) (by omega) (show Whole w2 gp 88 [.int .i64 p.id, .int .i64 p.par, .bool p.tx, .string p.dat, svs p.id, kvs p.id] from G2) K2 (kids_pos h.ok p.id) (by have := kids_few L p.id; omega) (by have := B0.out.size; omega) (show Whole w2 g 88 [.int .i64 n.id, .int .i64 n.par, .bool n.tx, .string n.dat, .slice A n.sty.length c, .slice none 0 0] from N2))
  have c1 : w1.cell? ⟨t, 1, none⟩ = some (.map (some b)) := H1.hd.cell 1
  have q0 : w2.cell? ⟨W.heap.size, 0, none⟩ = some (.int .i64 n.id) := P2.cell 0
  have q1 : w2.cell? ⟨W.heap.size, 1, none⟩ = some (.int .i64 n.par) := P2.cell 1
  have FIN : Hid (∀ w3 kn, Whole w3 gp 88 [.int .i64 p.id, .int .i64 p.par, .bool p.tx, .string p.dat, svs p.id, kn] → Whole w3 g 88 [.int .i64 n.id, .int .i64 n.par, .bool n.tx, .string n.dat, .slice A n.sty.length c, .slice none 0 0] →
      w3.ownsRow base 3 1 kn (kidsZ L p.id ++ [n.id]).length (idC (kidsZ L p.id ++ [n.id])) → Only (gp :: g :: (kvs p.id).ownBlock.toList) w2 w3 → (kn.ownBlock = (kvs p.id).ownBlock ∨ ∃ k, kn.ownBlock = some k ∧ w2.heap.size ≤ k) → Tree w3 base t most (L ++ [n]) ∧ Below base W w3 ∧ ∀ q cs, Whole W q 32 cs → Whole w3 q 32 cs) := Lib.hid (by
    intro w3 kn r1 r2 r3 r4 r5
    have nb : ∀ k, (kvs p.id).ownBlock = some k → k ≠ b := fun k hk e => by subst e; exact map_no_row H1.mp K1 hk
    have inS : ∀ x, x ∈ (gp :: g :: (kvs p.id).ownBlock.toList) → x = gp ∨ x = g ∨ (kvs p.id).ownBlock = some x := fun x hx => by
      simp at hx; rcases hx with rfl | rfl | hx
      · exact .inl rfl
      · exact .inr (.inl rfl)
      · exact .inr (.inr hx)
    have M3 := M2.only r4 (by
      intro hx
      rcases inS _ hx with e | e | e
      · subst e; exact map_no_cells M2 G2
      · subst e; exact map_no_cells M2 N2
      · exact nb _ e rfl)
    have S3 := S2.only r4 (by
      intro k hk hx
      rcases inS _ hx with e | e | e
      · subst e; exact S2.other G2 (by decide) hk
      · subst e; exact S2.other N2 (by decide) hk
      · obtain ⟨A', c', e', hr', -⟩ := S2
        rw [e'] at hk
        rcases hr'.2 with ⟨x1, -⟩ | ⟨g1, cap, cur, x1, -, x2, -⟩
        · rw [x1] at hk; simp [Value.ownBlock] at hk
        · rw [x1] at hk
          simp [Value.ownBlock] at hk
          subst hk
          rcases K2.2 with ⟨y1, -⟩ | ⟨g2, cap2, cur2, y1, -, y2, -⟩
          · rw [y1] at e; simp [Value.ownBlock] at e
          · rw [y1] at e
            simp [Value.ownBlock] at e
            subst e
            rw [x2] at y2
            injection y2 with y2
            simp at y2)
    have OO : Only (b :: gp :: (kvs p.id).ownBlock.toList) w0 w3 := ((Only.of_below (S := b :: gp :: (kvs p.id).ownBlock.toList) hb1).trans O2 (fun x hx => .inl (by simp at hx; simp [hx]))).trans r4 (fun x hx => by
      rcases inS _ hx with e | e | e
      · exact .inl (by simp [e])
      · exact .inr (by rw [e]; exact hg)
      · exact .inl (by simp [e]))
    refine ⟨⟨b, _, _, _, h.add h1 h2 hp hpi hgp hg OO M3 r1 r3 ?_ r2 (S3.mono (by have := B0.out.size; omega)) (by have := B0.out.size; omega)⟩, (B0.out.mono hb0).trans (OO.below (fun x hx => ?_) (by have := B0.out.size; omega)), fun q cs hq => ?_⟩
    · rcases r5 with r5 | ⟨k, r5, r6⟩
      · exact .inl r5
      · exact .inr ⟨k, r5, by omega⟩
    · simp at hx
      rcases hx with e | e | e
      · rw [e]; exact h.low.2
      · rw [e]; exact (h.nod p hp gp hgp).1
      · exact ((h.kid p hp).lt x e).1
    · have hq0 := hq.under B0.out hq.size
      refine OO.whole hq0 fun hx => ?_
      simp at hx
      rcases hx with e | e | e
      · subst e; exact map_no_cells h.mp hq0
      · subst e; exact absurd (whole_two hq0 (h.nod p hp _ hgp).2) (by decide)
      · exact whole_ne hq0 (h.kid p hp) (by decide) e)
  clear hN hS h H1 D2 PP P2 N2 hG1 G2 K1 K2 S2 M2 O2 HT P0 B0 HS
  go_wp2_with (rw [hrun])
  refine LK.out.mono ?_
  rintro e w3 ⟨rfl, kn, r1, r2, r3, r4, r5⟩
  have R := Lib.hid (FIN.out w3 kn r1 r2 r3 r4 r5)
  clear r1 r2 r3 r4 r5 FIN LK hrun
  go_wp2
  exact bodyPost_end (v := .tuple #[]) (results_none (by kernel_rfl) _ _ _) rfl ⟨rfl, R.out⟩
end Go.Proofs.YtbhdpfacfgldiaaGreatDoor
/- nodes.Give. -/
namespace Go.Proofs.YtbhdpfacfgldiaaGreatDoor
open Go Go.RowKit
set_option linter.unusedVariables false
set_option linter.unusedSimpArgs false
set_option maxRecDepth 20000
set_option maxHeartbeats 4000000

def giveN (n m : Nd) : Nd := if m.id = n.id then ⟨m.id, m.par, m.tx, n.dat, n.sty⟩ else m
def giveZ (L : List Nd) (n : Nd) : List Nd := L.map (giveN n)
theorem giveN_id (n m : Nd) : (giveN n m).id = m.id := by unfold giveN; split <;> rfl
theorem giveN_par (n m : Nd) : (giveN n m).par = m.par := by unfold giveN; split <;> rfl
theorem giveN_tx (n m : Nd) : (giveN n m).tx = m.tx := by unfold giveN; split <;> rfl
theorem give_length (L : List Nd) (n : Nd) : (giveZ L n).length = L.length := by simp [giveZ]
theorem give_has (L : List Nd) (n : Nd) (id : Int) : hasZ (giveZ L n) id = hasZ L id := by
  rw [Bool.eq_iff_iff, has_iff, has_iff]
  unfold giveZ
  constructor
  · rintro ⟨m, hm, e⟩
    obtain ⟨k, hk, rfl⟩ := List.mem_map.1 hm
    exact ⟨k, hk, by rw [← e, giveN_id]⟩
  · rintro ⟨m, hm, e⟩
    exact ⟨giveN n m, List.mem_map_of_mem hm, by rw [giveN_id]; exact e⟩
theorem give_kids (L : List Nd) (n : Nd) (id : Int) : kidsZ (giveZ L n) id = kidsZ L id := by
  unfold kidsZ giveZ
  rw [← List.map_tail, List.filter_map, List.map_map]
  have e1 : ((fun m : Nd => m.par == id) ∘ giveN n) = fun m => m.par == id := by funext m; simp [giveN_par]
  have e2 : (Nd.id ∘ giveN n) = Nd.id := by funext m; simp [giveN_id]
  rw [e1, e2]
theorem TreeOk.give {L : List Nd} (h : TreeOk L) (n : Nd) : TreeOk (giveZ L n) := by
  refine ⟨?_, ?_, ?_, ?_⟩
  · have e : (giveZ L n).map Nd.id = L.map Nd.id := by
      unfold giveZ
      rw [List.map_map]
      exact List.map_congr_left fun m _ => giveN_id n m
    rw [e]; exact h.nd
  · intro m hm
    obtain ⟨k, hk, rfl⟩ := List.mem_map.1 hm
    rw [giveN_id]; exact h.rng k hk
  · obtain ⟨r, R, rfl, e1, e2, e3⟩ := h.root
    exact ⟨giveN n r, R.map (giveN n), rfl, by rw [giveN_id]; exact e1, by rw [giveN_par]; exact e2, by rw [giveN_tx]; exact e3⟩
  · intro i hi h0
    have hi' : i < L.length := by rw [give_length] at hi; exact hi
    obtain ⟨j, hj, e⟩ := h.up i hi' h0
    refine ⟨j, hj, ?_⟩
    simp only [giveZ, List.getElem_map, giveN_id, giveN_par]
    exact e
theorem TreeAt.give {W w : World} {base t b : Nat} {most : Int} {L : List Nd} {f : Int → Option Nat} {sv kv : Int → Value} (h : TreeAt W base t b most L f sv kv) (n : Nd) {p : Nd} (hp : p ∈ L) (hpi : p.id = n.id) {g : Nat} (hg : f n.id = some g)
    (hO : Only [g] W w) {sn : Value} (hG : Whole w g 88 (ndC ⟨p.id, p.par, p.tx, n.dat, n.sty⟩ sn (kv n.id))) (hS : StyOwn w base sn n.sty) : TreeAt w base t b most (giveZ L n) f (fun x => if x = n.id then sn else sv x) kv := by
  have hgp : f p.id = some g := by rw [hpi]; exact hg
  have bO := (h.nod p hp g hgp).2
  have one : ∀ m ∈ L, m.id = n.id → m = p := fun m hm e => by
    have e1 := h.ok.at_mem hm
    have e2 := h.ok.at_mem hp
    rw [e, ← hpi, e2] at e1
    injection e1 with e1; exact e1.symm
  refine ⟨h.ok.give n, h.low, ?_, ?_, fun id => by rw [give_has]; exact h.dom id, fun m hm k hk => ?_, fun m hm => ?_, fun m hm => ?_, h.inj, fun m hm m' hm' k hk hk' => ?_⟩
  · exact hO.whole h.hd (by simp; intro e; subst e; exact absurd (whole_two h.hd bO) (by decide))
  · rw [give_length]; exact h.mp.only hO (by simp; intro e; subst e; exact map_no_cells h.mp bO)
  · obtain ⟨m, hm2, rfl⟩ := List.mem_map.1 hm
    rw [giveN_id] at hk ⊢
    obtain ⟨k1, k2⟩ := h.nod m hm2 k hk
    refine ⟨k1, ?_⟩
    by_cases e : m.id = n.id
    · have em := one m hm2 e
      subst em
      rw [hgp] at hk
      injection hk with hk
      subst hk
      rw [if_pos e]
      unfold giveN
      rw [if_pos e, e]
      rw [e] at hG
      exact hG
    · rw [if_neg e]
      unfold giveN
      rw [if_neg e]
      exact hO.whole k2 (by simp; intro e'; subst e'; exact e (h.inj _ _ _ hk hg))
  · obtain ⟨m, hm2, rfl⟩ := List.mem_map.1 hm
    rw [giveN_id]
    by_cases e : m.id = n.id
    · rw [if_pos e]
      unfold giveN
      rw [if_pos e]; exact hS
    · rw [if_neg e]
      unfold giveN
      rw [if_neg e]
      exact (h.sty m hm2).only hO (by intro k hk hx; simp at hx; subst hx; exact (h.sty m hm2).other bO (by decide) hk)
  · obtain ⟨m, hm2, rfl⟩ := List.mem_map.1 hm
    rw [giveN_id, give_kids]
    exact hO.owns (h.kid m hm2) (by intro k hk hx; simp at hx; subst hx; exact whole_ne bO (h.kid m hm2) (by decide) hk)
  · obtain ⟨m, hm2, rfl⟩ := List.mem_map.1 hm
    obtain ⟨m', hm2', rfl⟩ := List.mem_map.1 hm'
    rw [giveN_id] at hk hk' ⊢
    rw [giveN_id]
    exact h.apart m hm2 m' hm2' k hk hk'
theorem look_gives {P : Program} {o : Oper} {a : Act} {w : World} {t : TypeId} {b : Nat} {id : Int} {v : Value} (x y : Operand) (ho : o.op = .lookup t x y false) (hx : a.eval x = .map (some b)) (hy : a.eval y = .int .i64 id)
    (hl : (Instr.lookup t (.map (some b)) (.int .i64 id) false).run P w = .ok v w) : gives P o a w fun u _ => u = v := by
  unfold gives execOp
  simp only [ho, hx, hy, Sem.run_bind, hl, Result.andThen_ok, Sem.run_pure]
  exact ⟨Behind.refl w, trivial⟩
/-- A list of declarations in blocks ahead of B. -/
def StyLow (w : World) (B : Nat) (sv : Value) (l : List Dc) : Prop := ∃ A c, sv = .slice A l.length c ∧ Row w B A (i64s (dCells l)) ∧ l.length ≤ 1000000 ∧ (A = none → c = 0)
theorem StyLow.at_ {w : World} {B : Nat} {sv : Value} {l : List Dc} (h : StyLow w B sv l) (hB : B ≤ w.heap.size) : StyAt w sv l := by
  obtain ⟨A, c, e, hr, hl, hn⟩ := h
  exact ⟨A, c, e, hr.more hB, hl, hn⟩
theorem StyLow.below {w w' : World} {B : Nat} {sv : Value} {l : List Dc} (h : StyLow w B sv l) (hb : Below B w w') : StyLow w' B sv l := by
  obtain ⟨A, c, e, hr, hl, hn⟩ := h
  exact ⟨A, c, e, hr.below hb, hl, hn⟩
theorem ngive_any {W : World} {base t : Nat} {most : Int} {L : List Nd} (hT : Tree W base t most L) (hb0 : base ≤ W.heap.size) {n : Nd} {sv : Value} (hs : StyLow W base sv n.sty) (h2 : hasZ L n.id = true) :
    Calls Tryz.prog 34 #[.pointer (some ⟨t, 0, none⟩), .agg (nodeC n sv).toArray] W fun e w' => e = .returned (.tuple #[]) ∧ Tree w' base t most (giveZ L n) ∧ Below base W w' := by
  have B0 := Lib.hid ((Below.refl W.heap.size W).alloc (Nat.le_refl _) (.cells (nodeC n sv).toArray 32))
  have P0 := Lib.hid (Whole.mk W 32 (nodeC n sv).toArray)
  obtain ⟨b, f, svs, kvs, hT⟩ := hT.behind B0.out
  have HS := Lib.hid (hs.below (B0.out.mono hb0))
  have HT := Lib.hid hT
  obtain ⟨A0, c0, rfl, -⟩ := hs
  obtain ⟨p, hp, hpi⟩ := has_iff.1 h2
  obtain ⟨g, hg⟩ := hT.there hp
  rw [hpi] at hg
  have hI : In64i n.id := by have := hT.ok.rng p hp; unfold In64i; omega
  clear hT
  go_enter Tryz.func34, Tryz.ntmps34
  go_upto_region 1 with fail
  generalize W.alloc _ = w0 at *
  have YL := Lib.hid (fun w (hb : Behind w0 w) => (show (Instr.lookup 84 (.map (some b)) (.int .i64 n.id) false).run Tryz.prog w = .ok (.pointer (some ⟨g, 0, none⟩)) w from by have := (HT.out.behind hb).look hI; rw [hg] at this; exact this))
  have y1 : ∀ x : Later w0.heap.size w0, x.w.cell? ⟨t, 1, none⟩ = some (.map (some b)) := fun x => (HT.out.hd.under x.h HT.out.hd.size).cell 1
  have y2 : ∀ x : Later w0.heap.size w0, x.w.cell? ⟨W.heap.size, 0, none⟩ = some (.int .i64 n.id) := fun x => (P0.out.under x.h P0.out.size).cell 0
  refine region_lane [] [0, 1, 2, 3, 4, 5, 6] [7] (by kernel_rfl) (by kernel_rfl) (fun _ _ _ _ _ h => h) ?_
  simp only [pick, List.map_nil]
  refine wpQuiet_nil ⟨rfl, ?_⟩
  simp only [List.map_cons, List.map_nil, List.getD_cons_zero, List.getD_cons_succ, List.drop_succ_cons, List.drop_zero]
  refine laneO_run 6 (by kernel_rfl) ?_
  simp only [List.take_succ_cons, List.take_zero, List.drop_succ_cons, List.drop_zero]
  repeat (go_big_quiet_step (fail))
  refine wpQuiet_nil ?_
  refine laneO_fixed (v := .pointer (some ⟨g, 0, none⟩)) (by kernel_rfl) (fun w hw => .inl ⟨by rfl, look_gives (.tmp 8) (.tmp 10) rfl rfl rfl (YL.out w hw)⟩) ?_
  simp only [Act.put, List.setIfInBounds_toArray, List.set_cons_zero, List.set_cons_succ]
  refine laneO_end0 rfl rfl fun w1 hb1 => ?_
  clear y1 y2 YL
  have H1 := HT.out.behind hb1
  have P1 := Lib.hid (P0.out.under hb1 P0.out.size)
  have B1 := Lib.hid (B0.out.trans (Below.mono hb1 B0.out.size))
  have S1 := Lib.hid (HS.out.below (Below.mono hb1 (by have := B0.out.size; omega)))
  have hG := (H1.nod p hp g (by rw [hpi]; exact hg)).2
  have hPn : W.heap.size ≠ g := fun e => by have x1 := P1.out; rw [e] at x1; exact absurd (whole_two x1 hG) (by decide)
  have q3 : w1.cell? ⟨W.heap.size, 3, none⟩ = some (.string n.dat) := P1.out.cell 3
  have d3 : w1.cell? ⟨g, 3, none⟩ = some (.string p.dat) := hG.cell 3
  have f3 := hG.free 3
  have G2 := Lib.hid (hG.put 3 (.string n.dat))
  have P2 := Lib.hid (P1.out.other (p := ⟨g, 3, none⟩) hPn (.string n.dat))
  have O2 : Hid (Only [g] w1 (w1.setCell ⟨g, 3, none⟩ (.string n.dat))) := Lib.hid ((Only.refl _ _).setCell _ (.inl (by simp)) _)
  have HH1 := Lib.hid H1
  clear H1 hG
  go_upto_region 3 with fail
  clear q3 d3 f3
  generalize w1.setCell _ _ = w2 at *
  have hgb : base ≤ g := (HT.out.nod p hp g (by rw [hpi]; exact hg)).1
  have z2 : base ≤ w2.heap.size := by have := B1.out.size; have := O2.out.size; omega
  have S2 := Lib.hid ((S1.out.below (O2.out.below (by simp; exact hgb) (by have := B1.out.size; omega))).at_ z2)
  have q4 : w2.cell? ⟨W.heap.size, 4, none⟩ = some (.slice A0 n.sty.length c0) := P2.out.cell 4
  go_wp2_with fail
  refine (cloneD_any _ n.sty w2 S2.out).mono ?_
  rintro e w3 ⟨sv', rfl, hs3, hb3⟩
  obtain ⟨A3, c3, rfl, -⟩ := id hs3
  have G3 := Lib.hid (G2.out.under hb3 G2.out.size)
  have H3 := Lib.hid (hs3.other G3.out (by decide))
  have S3 := Lib.hid (hs3.mono z2)
  have O3 := Lib.hid (O2.out.trans (T := []) (Only.of_below hb3) (by simp))
  have e4 : w3.cell? ⟨g, 4, none⟩ = some (svs p.id) := G3.out.cell 4
  have f4 := G3.out.free 4
  have G4 : Hid (Whole (w3.setCell ⟨g, 4, none⟩ (.slice A3 n.sty.length c3)) g 88 (ndC ⟨p.id, p.par, p.tx, n.dat, n.sty⟩ (.slice A3 n.sty.length c3) (kvs p.id))) := Lib.hid (G3.out.put 4 (.slice A3 n.sty.length c3))
  have O4 : Hid (Only [g] w1 (w3.setCell ⟨g, 4, none⟩ (.slice A3 n.sty.length c3))) := Lib.hid (O3.out.setCell _ (.inl (by simp)) _)
  have S4 := Lib.hid (S3.out.only (S := [g]) ((Only.refl _ _).setCell ⟨g, 4, none⟩ (.inl (by simp)) (.slice A3 n.sty.length c3)) (by intro k hk hx; simp at hx; subst hx; exact H3.out hk))
  clear hb3 hs3 q4 P1 P2 S1 S2 S3 G2 G3 O2 O3
  go_wp2
  refine bodyPost_end (v := .tuple #[]) (results_none (by kernel_rfl) _ _ _) rfl ⟨rfl, ⟨b, f, _, kvs, HH1.out.give n hp hpi hg O4.out (by rw [← hpi]; exact G4.out) S4.out⟩, ?_⟩
  exact (B1.out.mono hb0).trans (O4.out.below (by simp; exact hgb) (by have := B1.out.size; omega))
end Go.Proofs.YtbhdpfacfgldiaaGreatDoor
/- tree: Has, Parent, Len, Kids, New, IsFull; Below, Deep. -/
namespace Go.Proofs.YtbhdpfacfgldiaaGreatDoor
open Go Go.RowKit
set_option linter.unusedVariables false
set_option linter.unusedSimpArgs false
set_option maxRecDepth 20000
set_option maxHeartbeats 4000000

theorem held_t (t : Nat) (W : World) : Calls Tryz.prog 33 #[.pointer (some ⟨t, 0, none⟩)] W fun e w' => e = .returned (.pointer (some ⟨t, 0, none⟩)) ∧ W = w' := by
  go_enter Tryz.func33, Tryz.ntmps33
  go_wp2
  go_ret
  exact ⟨rfl, rfl⟩
theorem thas_any {W : World} {base t : Nat} {most : Int} {L : List Nd} (hT : Tree W base t most L) {id : Int} (hi : In64i id) :
    Calls Tryz.prog 18 #[.pointer (some ⟨t, 0, none⟩), .int .i64 id] W fun e w' => e = .returned (.bool (hasZ L id)) ∧ W = w' := by
  have H := Lib.hid (nhas_any hT hi)
  clear hT
  go_enter Tryz.func18, Tryz.ntmps18
  go_wp2_with fail
  refine (held_t t W).mono ?_
  rintro e w' ⟨rfl, rfl⟩
  go_wp2_with fail
  refine H.out.mono ?_
  rintro e w' ⟨rfl, rfl⟩
  go_wp2
  go_ret
  exact ⟨rfl, rfl⟩
theorem tparent_any {W : World} {base t : Nat} {most : Int} {L : List Nd} (hT : Tree W base t most L) {id : Int} (hi : In64i id) :
    Calls Tryz.prog 9 #[.pointer (some ⟨t, 0, none⟩), .int .i64 id] W fun e w' => e = .returned (.int .i64 (parZ L id)) ∧ W = w' := by
  have H := Lib.hid (nparent_any hT hi)
  clear hT
  go_enter Tryz.func9, Tryz.ntmps9
  go_wp2_with fail
  refine (held_t t W).mono ?_
  rintro e w' ⟨rfl, rfl⟩
  go_wp2_with fail
  refine H.out.mono ?_
  rintro e w' ⟨rfl, rfl⟩
  go_wp2
  go_ret
  exact ⟨rfl, rfl⟩
theorem tlen_any {W : World} {base t : Nat} {most : Int} {L : List Nd} (hT : Tree W base t most L) :
    Calls Tryz.prog 12 #[.pointer (some ⟨t, 0, none⟩)] W fun e w' => e = .returned (.int .i64 L.length) ∧ W = w' := by
  have H := Lib.hid (nlen_any hT)
  clear hT
  go_enter Tryz.func12, Tryz.ntmps12
  go_wp2_with fail
  refine (held_t t W).mono ?_
  rintro e w' ⟨rfl, rfl⟩
  go_wp2_with fail
  refine H.out.mono ?_
  rintro e w' ⟨rfl, rfl⟩
  go_wp2
  go_ret
  exact ⟨rfl, rfl⟩
theorem tkids_any {W : World} {base t : Nat} {most : Int} {L : List Nd} (hT : Tree W base t most L) {id : Int} (hi : In64i id) (h0 : 0 ≤ id) (hL : L.length ≤ 1000) :
    Calls Tryz.prog 8 #[.pointer (some ⟨t, 0, none⟩), .int .i64 id] W fun e w' => ∃ v, e = .returned v ∧ IdsOwn w' W.heap.size v (kidsZ L id) ∧ Below W.heap.size W w' := by
  have H := Lib.hid (nkids_any hT hi h0 hL)
  clear hT
  go_enter Tryz.func8, Tryz.ntmps8
  go_wp2_with fail
  refine (held_t t W).mono ?_
  rintro e w' ⟨rfl, rfl⟩
  go_wp2_with fail
  refine H.out.mono ?_
  rintro e w' ⟨v, rfl, h1, h2⟩
  have P := Lib.hid (And.intro h1 h2)
  clear h1 h2
  go_wp2
  go_ret
  exact ⟨v, rfl, P.out.1, P.out.2⟩
theorem tnew_any (most : Int) (W : World) :
    Calls Tryz.prog 32 #[.int .i64 most] W fun e w' => ∃ t, e = .returned (.pointer (some ⟨t, 0, none⟩)) ∧ Tree w' W.heap.size t (mostZ most) [root0] ∧ Below W.heap.size W w' := by
  go_enter Tryz.func32, Tryz.ntmps32
  go_wp2_with fail
  refine (nnew_any most W).mono ?_
  rintro e w' ⟨t, rfl, h1, h2⟩
  have P := Lib.hid (And.intro h1 h2)
  clear h1 h2
  go_wp2
  go_ret
  exact ⟨t, rfl, P.out.1, P.out.2⟩
theorem nfull_any {W : World} {base t : Nat} {most : Int} {L : List Nd} (hT : Tree W base t most L) :
    Calls Tryz.prog 35 #[.pointer (some ⟨t, 0, none⟩)] W fun e w' => e = .returned (.bool (decide (most ≤ L.length))) ∧ Below W.heap.size W w' := by
  have HT := Lib.hid hT
  obtain ⟨b, f, sv, kv, h⟩ := hT
  have D := Lib.hid h.hd
  clear h
  go_enter Tryz.func35, Tryz.ntmps35
  go_upto_region 1 with fail
  have HB := Lib.hid (fun w (hb : Behind W w) => nlen_any (HT.out.behind hb))
  have y0 : ∀ x : Later W.heap.size W, x.w.cell? ⟨t, 0, none⟩ = some (.int .i64 most) := fun x => (D.out.under x.h D.out.size).cell 0
  refine region_lane [] [0, 1, 2, 3, 4, 5, 6] [7] (by kernel_rfl) (by kernel_rfl) (fun _ _ _ _ _ h => h) ?_
  simp only [pick, List.map_nil]
  refine wpQuiet_nil ⟨rfl, ?_⟩
  simp only [List.map_cons, List.map_nil, List.getD_cons_zero, List.getD_cons_succ, List.drop_succ_cons, List.drop_zero]
  refine laneO_run 1 (by kernel_rfl) ?_
  simp only [List.take_succ_cons, List.take_zero, List.drop_succ_cons, List.drop_zero]
  repeat (go_big_quiet_step (fail))
  refine wpQuiet_nil ?_
  refine laneO_call (v := (.int .i64 L.length)) (by kernel_rfl) (by rfl) (fun C hC h0 => ?_) ?_
  focus (go_big_quiet_op; exact ⟨_, fun w hw => (HB.out w (h0 w hw)).mono fun e w' ⟨he, hb⟩ => ⟨he, hb ▸ hw⟩, rfl⟩)
  simp only [Act.put, List.setIfInBounds_toArray, List.set_cons_zero, List.set_cons_succ]
  refine laneO_run 5 (by kernel_rfl) ?_
  simp only [List.take_succ_cons, List.take_zero, List.drop_succ_cons, List.drop_zero]
  repeat (go_big_quiet_step (fail))
  refine wpQuiet_nil ?_
  refine laneO_end0 rfl rfl fun w1 hb1 => ?_
  clear y0 HB
  go_wp2
  go_ret
  exact ⟨rfl, hb1⟩
/-- How far up it goes. -/
def upZ (L : List Nd) (x : Int) : Nat := if hasZ L x = true then rkZ L x + 2 else if x = -1 then 0 else 1
theorem TreeOk.up_less {L : List Nd} (h : TreeOk L) {x : Int} (hx : x ≠ -1) : upZ L (parZ L x) < upZ L x := by
  unfold upZ
  by_cases hh : hasZ L x = true
  · rw [if_pos hh]
    rcases (h.step hh).2 with ⟨e1, e2⟩ | ⟨e1, e2⟩
    · rw [e2, if_neg (by rw [h.not_nobody (by omega)]; decide), if_pos rfl]; omega
    · rw [if_pos e1]; omega
  · rw [if_neg hh, if_neg hx, par_no (by simpa using hh), if_neg (by rw [h.not_nobody (by omega)]; decide), if_pos rfl]; omega
theorem TreeOk.par_in {L : List Nd} (h : TreeOk L) (x : Int) : -1 ≤ parZ L x ∧ parZ L x ≤ 1000 := by
  by_cases hh : hasZ L x = true
  · rcases (h.step hh).2 with ⟨e1, e2⟩ | ⟨e1, e2⟩
    · omega
    · obtain ⟨m, hm, e⟩ := has_iff.1 e1
      have := h.rng m hm
      omega
  · rw [par_no (by simpa using hh)]; omega
theorem Tree.ok {W : World} {base t : Nat} {most : Int} {L : List Nd} (hT : Tree W base t most L) : TreeOk L := by
  obtain ⟨b, f, sv, kv, h⟩ := hT
  exact h.ok
theorem tbelow_any {W : World} {base t : Nat} {most : Int} {L : List Nd} (hT : Tree W base t most L) {id of_ : Int} (hi : In64i id) (ho : In64i of_) :
    Calls Tryz.prog 11 #[.pointer (some ⟨t, 0, none⟩), .int .i64 id, .int .i64 of_] W fun e w' => e = .returned (.bool (belowZ L id of_)) ∧ W = w' := by
  have OK := Lib.hid hT.ok
  have HH := Lib.hid (thas_any hT ho)
  have HP := Lib.hid (fun (x : Int) (hx : In64i x) => tparent_any hT hx)
  have HI := Lib.hid hi
  clear hT hi ho
  by_cases hh : hasZ L of_ = true
  · rw [hh] at HH
    have h0 : 0 ≤ of_ := by
      obtain ⟨m, hm, e⟩ := has_iff.1 hh
      have := OK.out.rng m hm
      omega
    have HB := Lib.hid hh
    clear hh
    go_enter Tryz.func11, Tryz.ntmps11
    go_wp2_with fail
    refine HH.out.mono ?_
    rintro e w' ⟨rfl, rfl⟩
    go_wp2_with fail
    go_loopw [1] (fun v1 wr => ∃ x : Int, v1 = .int .i64 x ∧ Hid (belowZ L x of_ = belowZ L id of_) ∧ Hid (In64i x) ∧ wr = W) (fun v1 _ => upZ L (intOf v1))
    case atStart => exact ⟨id, rfl, Lib.hid rfl, HI, rfl⟩
    case round =>
      obtain ⟨x, rfl, hb, hx, rfl⟩ := hrel
      by_cases h1 : x = of_
      · subst h1
        have e : belowZ L id x = true := by rw [← hb.out]; exact below_self HB.out
        go_wp2_with fail
        go_ret
        exact ⟨ret_bool e.symm, rfl⟩
      · have b1 : (x == of_) = false := by rw [beq_eq_false_iff_ne]; exact h1
        by_cases h2 : x = -1
        · subst h2
          have e : belowZ L id of_ = false := by rw [← hb.out]; exact OK.out.below_nobody HB.out
          have b3 : ((-1 : Int) == of_) = false := b1
          go_wp2_with fail
          go_ret
          exact ⟨ret_bool e.symm, rfl⟩
        · have b2 : (x == -1) = false := by rw [beq_eq_false_iff_ne]; exact h2
          have b4 : (x != of_) = true := by simp [h1]
          have b5 : (x != -1) = true := by simp [h2]
          have hb2 := Lib.hid ((OK.out.below_step HB.out h1).symm.trans hb.out)
          have hx2 := Lib.hid (show In64i (parZ L x) by have := OK.out.par_in x; unfold In64i; omega)
          have hm := Lib.hid (OK.out.up_less h2)
          go_wp2_with fail
          refine (HP.out x hx.out).mono ?_
          rintro e w' ⟨rfl, rfl⟩
          go_wp2_with fail
          go_roundw
          case rel => exact ⟨_, rfl, hb2, hx2, by first | rfl | trivial⟩
          case measure => simpa [intOf] using hm.out
  · have hh : hasZ L of_ = false := by simpa using hh
    rw [hh] at HH
    have e : belowZ L id of_ = false := by unfold belowZ; rw [hh]; rfl
    rw [e]
    go_enter Tryz.func11, Tryz.ntmps11
    go_wp2_with fail
    refine HH.out.mono ?_
    rintro e w' ⟨rfl, rfl⟩
    go_wp2_with fail
    go_ret
    exact ⟨rfl, rfl⟩
theorem tdeep_any {W : World} {base t : Nat} {most : Int} {L : List Nd} (hT : Tree W base t most L) {id : Int} (hi : In64i id) (hL : L.length ≤ 1000) :
    Calls Tryz.prog 10 #[.pointer (some ⟨t, 0, none⟩), .int .i64 id] W fun e w' => e = .returned (.int .i64 (deepZ L id)) ∧ W = w' := by
  have OK := Lib.hid hT.ok
  have HH := Lib.hid (fun (x : Int) (hx : In64i x) => thas_any hT hx)
  have HP := Lib.hid (fun (x : Int) (hx : In64i x) => tparent_any hT hx)
  have HI := Lib.hid hi
  clear hT hi
  go_enter Tryz.func10, Tryz.ntmps10
  go_wp2
  go_loopw [1, 5] (fun v1 v5 wr => ∃ (x d : Int), v1 = .int .i64 x ∧ v5 = .int .i64 d ∧ Hid (deepZ L id = d + 1 + deepZ L x) ∧ (-1 ≤ d ∧ d + (if hasZ L x = true then rkZ L x + 1 else 0 : Nat) ≤ 1000) ∧ Hid (In64i x) ∧ wr = W) (fun v1 _ _ => upZ L (intOf v1))
  case atStart =>
    refine ⟨id, -1, rfl, rfl, Lib.hid (by omega), ⟨by omega, ?_⟩, HI, rfl⟩
    split
    · rename_i hh
      have := (OK.out.step hh).1
      omega
    · omega
  case round =>
    obtain ⟨x, d, rfl, rfl, hd, ⟨hd1, hd2⟩, hx, rfl⟩ := hrel
    by_cases hh : hasZ L x = true
    · have F1 := Lib.hid (HH.out x hx.out)
      rw [hh] at F1
      rw [if_pos hh] at hd2
      have hne : x ≠ -1 := fun e => by subst e; rw [OK.out.not_nobody (by omega)] at hh; cases hh
      have hs := OK.out.step hh
      have hd3 := Lib.hid (show deepZ L id = d + 1 + 1 + deepZ L (parZ L x) by rw [hd.out, OK.out.deep_has hh]; omega)
      have hx2 := Lib.hid (show In64i (parZ L x) by have := OK.out.par_in x; unfold In64i; omega)
      have hm := Lib.hid (OK.out.up_less hne)
      have hd4 := Lib.hid (show -1 ≤ d + 1 ∧ d + 1 + (if hasZ L (parZ L x) = true then rkZ L (parZ L x) + 1 else 0 : Nat) ≤ 1000 by
        refine ⟨by omega, ?_⟩
        rcases hs.2 with ⟨e1, e2⟩ | ⟨e1, e2⟩
        · rw [e2, if_neg (by rw [OK.out.not_nobody (by omega)]; decide)]; omega
        · rw [if_pos e1]; omega)
      have hd5 : d ≤ 1000 := by omega
      clear hs hh hd2
      go_wp2_with fail
      refine F1.out.mono ?_
      rintro e w' ⟨rfl, rfl⟩
      go_wp2_with fail
      refine (HP.out x hx.out).mono ?_
      rintro e w' ⟨rfl, rfl⟩
      go_wp2_with fail
      go_roundw
      case rel => exact ⟨_, _, rfl, rfl, hd3, hd4.out, hx2, by first | rfl | trivial⟩
      case measure => simpa [intOf] using hm.out
    · have hh : hasZ L x = false := by simpa using hh
      have F1 := Lib.hid (HH.out x hx.out)
      rw [hh] at F1
      have e : deepZ L id = d := by rw [hd.out, deep_no hh]; omega
      clear hd2
      go_wp2_with fail
      refine F1.out.mono ?_
      rintro e w' ⟨rfl, rfl⟩
      go_wp2_with fail
      go_ret
      exact ⟨ret_int e.symm, rfl⟩
end Go.Proofs.YtbhdpfacfgldiaaGreatDoor
/- tree.isFit, isRoot. What decl.Text answers of a declaration is a premise here (UntoldOK). -/
namespace Go.Proofs.YtbhdpfacfgldiaaGreatDoor
open Go Go.RowKit
set_option linter.unusedVariables false
set_option linter.unusedSimpArgs false
set_option maxRecDepth 20000
set_option maxHeartbeats 1000000

def decC (d : Dc) : Value := .agg #[.int .i64 d.p, .int .i64 d.w, .int .i64 d.k, .int .i64 d.n]
/-- What isUntold answers of d in each world that lies behind W. -/
def UntoldAt (W : World) (d : Dc) : Prop := ∀ w, Below W.heap.size W w → Calls Tryz.prog 69 #[decC d] w fun e w' => e = .returned (.bool (!mayZ d.p d.w d.k d.n)) ∧ Below w.heap.size w w'
def UntoldOK (d : Dc) : Prop := ∀ w, Calls Tryz.prog 69 #[decC d] w fun e w' => e = .returned (.bool (!mayZ d.p d.w d.k d.n)) ∧ Below w.heap.size w w'
theorem UntoldOK.at_ {d : Dc} (h : UntoldOK d) (W : World) : UntoldAt W d := fun w _ => h w
theorem UntoldAt.step {d : Dc} {W W' : World} (h : UntoldAt W d) (hb : Below W.heap.size W W') : UntoldAt W' d := fun w hw => h w (hb.trans (hw.mono hb.size))
theorem indexFunc_any (sv : Value) (l : List Dc) (W : World) (hU : ∀ d ∈ l, UntoldAt W d) (h : StyAt W sv l) :
    Calls Tryz.prog 76 #[sv, .func (.func 69) #[] #[]] W fun e w' => ∃ i : Int, e = .returned (.int .i64 i) ∧ decide (0 ≤ i) = l.any (fun d => !mayZ d.p d.w d.k d.n) ∧ Below W.heap.size W w' := by
  obtain ⟨A, c, rfl, hR, hl, -⟩ := h
  have HR := Lib.hid hR
  have HU := Lib.hid hU
  clear hR hU
  go_enter Tryz.func76, Tryz.ntmps76
  go_wp2
  go_loopw [5, 8] (fun v5 v8 wr => ∃ k : Nat, k ≤ l.length ∧ v8 = .int .i64 k ∧ Hid ((l.take k).any (fun d => !mayZ d.p d.w d.k d.n) = false) ∧ Hid (Below W.heap.size W wr)) (fun v5 v8 _ => l.length - (intOf v8).toNat)
  case atStart => exact ⟨0, Nat.zero_le _, rfl, Lib.hid rfl, Lib.hid (Below.refl _ _)⟩
  case round =>
    obtain ⟨k, hk, rfl, ht, hb⟩ := hrel
    by_cases hlt : k < l.length
    · obtain ⟨ad, rfl, hb2, r0, r1, r2, r3⟩ := (HR.out.below hb.out).dec hlt
      have U := Lib.hid (HU.out l[k] (List.getElem_mem hlt) wr hb.out)
      unfold decC at U
      have TK := Lib.hid (show (l.take (k + 1)).any (fun d => !mayZ d.p d.w d.k d.n) = ((l.take k).any (fun d => !mayZ d.p d.w d.k d.n) || !mayZ l[k].p l[k].w l[k].k l[k].n) by rw [List.take_succ_eq_append_getElem hlt, List.any_append]; simp)
      have AN := Lib.hid (show (!mayZ l[k].p l[k].w l[k].k l[k].n) = true → l.any (fun d => !mayZ d.p d.w d.k d.n) = true from fun h => List.any_eq_true.2 ⟨l[k], List.getElem_mem hlt, h⟩)
      generalize (!mayZ l[k].p l[k].w l[k].k l[k].n) = u at *
      generalize l[k].p = z0 at *
      generalize l[k].w = z1 at *
      generalize l[k].k = z2 at *
      generalize l[k].n = z3 at *
      go_wp2_with fail
      refine U.out.mono ?_
      rintro e w2 ⟨rfl, hb3⟩
      have B3 := Lib.hid (hb.out.trans (hb3.mono hb.out.size))
      clear hb3 r0 r1 r2 r3
      cases u
      · have TK2 := Lib.hid (show (l.take (k + 1)).any (fun d => !mayZ d.p d.w d.k d.n) = false by rw [TK.out, ht.out]; rfl)
        go_wp2_with fail
        go_roundw
        case rel => exact ⟨k + 1, by omega, by go_num, TK2, B3⟩
        case measure => simp [intOf]; omega
      · have A2 := AN.out rfl
        go_wp2_with fail
        go_ret
        exact ⟨(k : Int), rfl, by rw [A2]; simp, B3.out⟩
    · have hq : k = l.length := by omega
      have A2 : l.any (fun d => !mayZ d.p d.w d.k d.n) = false := by have := ht.out; rw [hq, List.take_length] at this; exact this
      go_wp2_with fail
      go_ret
      exact ⟨-1, rfl, by rw [A2]; decide, hb.out⟩
theorem containsFunc_any (sv : Value) (l : List Dc) (W : World) (hU : ∀ d ∈ l, UntoldAt W d) (h : StyAt W sv l) :
    Calls Tryz.prog 68 #[sv, .func (.func 69) #[] #[]] W fun e w' => e = .returned (.bool (l.any (fun d => !mayZ d.p d.w d.k d.n))) ∧ Below W.heap.size W w' := by
  have H := Lib.hid (indexFunc_any sv l W hU h)
  clear h hU
  go_enter Tryz.func68, Tryz.ntmps68
  go_wp2_with fail
  refine H.out.mono ?_
  rintro e w1 ⟨i, rfl, h1, hb⟩
  have E := Lib.hid h1
  have B := Lib.hid hb
  clear h1 hb
  go_wp2
  go_ret
  exact ⟨ret_bool E.out, B.out⟩
theorem not_any (l : List Dc) : (!(l.any fun d => !mayZ d.p d.w d.k d.n)) = l.all fun d => mayZ d.p d.w d.k d.n := by
  induction l with
  | nil => rfl
  | cons d r ih => simp only [List.any_cons, List.all_cons, Bool.not_or, Bool.not_not, ih]
theorem isFit_any (n : Nd) (sv : Value) (W : World) (hU : n.tx = false → ∀ d ∈ n.sty, UntoldAt W d) (h : StyAt W sv n.sty) (hd : n.dat.size ≤ 9223372036854775807) :
    Calls Tryz.prog 55 #[.agg (nodeC n sv).toArray] W fun e w' => e = .returned (.bool (fitB n)) ∧ Below W.heap.size W w' := by
  have B0 := Lib.hid ((Below.refl W.heap.size W).alloc (Nat.le_refl _) (.cells (nodeC n sv).toArray 32))
  have P0 := Lib.hid (Whole.mk W 32 (nodeC n sv).toArray)
  have HC := Lib.hid (fun (ht : n.tx = false) => containsFunc_any sv n.sty _ (fun d hd => (hU ht d hd).step B0.out) (h.below B0.out))
  obtain ⟨A, c, rfl, -, hl, -⟩ := h
  have F := Lib.hid (show fitB n = if n.tx = true then decide (n.dat.size ≤ 1000) && decide (n.sty.length = 0) else decide (n.dat.size = 0) && n.sty.all fun d => mayZ d.p d.w d.k d.n from rfl)
  rw [← not_any] at F
  generalize fitB n = r at *
  generalize (n.sty.any fun d => !mayZ d.p d.w d.k d.n) = u at *
  clear hU
  go_enter Tryz.func55, Tryz.ntmps55
  go_upto_region 1 with fail
  generalize W.alloc _ = w0 at *
  have c2 : w0.cell? ⟨W.heap.size, 2, none⟩ = some (.bool n.tx) := P0.out.cell 2
  have c3 : w0.cell? ⟨W.heap.size, 3, none⟩ = some (.string n.dat) := P0.out.cell 3
  have c4 : w0.cell? ⟨W.heap.size, 4, none⟩ = some (.slice A n.sty.length c) := P0.out.cell 4
  generalize n.dat = s at *
  generalize n.sty.length = m at *
  cases ht : n.tx
  · rw [ht] at c2 F
    by_cases h0 : s.size = 0
    · have e0 : s = ⟨#[]⟩ := by cases s with | mk d => cases d with | mk l => cases l with | nil => rfl | cons a b => simp [ByteArray.size] at h0
      subst e0
      have E := Lib.hid (show r = !u by rw [F.out, if_neg (by decide)]; rfl)
      clear F
      go_wp2_with fail
      refine (HC.out ht).mono ?_
      rintro e w1 ⟨rfl, hb⟩
      have B1 := Lib.hid (B0.out.trans (hb.mono B0.out.size))
      clear hb
      go_wp2_with fail
      go_ret
      exact ⟨ret_bool E.out.symm, B1.out⟩
    · have E := Lib.hid (show r = false by rw [F.out]; simp [h0])
      have hs : (s.toList == []) = false := by
        rw [beq_eq_false_iff_ne]; intro e; apply h0
        have := congrArg List.length e
        simpa [ByteArray.toList_eq] using this
      clear F
      go_wp2_with fail
      go_ret
      exact ⟨ret_bool E.out.symm, B0.out⟩
  · rw [ht] at c2 F
    by_cases h1 : s.size ≤ 1000
    · have d1 : decide ((s.size : Int) ≤ 1000) = true := by rw [decide_eq_true_eq]; omega
      have E := Lib.hid (show r = decide (m = 0) by rw [F.out]; simp [h1])
      clear F
      go_wp2_with fail
      go_ret
      exact ⟨ret_bool (by rw [E.out, Bool.eq_iff_iff]; simp), B0.out⟩
    · have d1 : decide ((s.size : Int) ≤ 1000) = false := by rw [decide_eq_false_iff_not]; omega
      have E := Lib.hid (show r = false by rw [F.out]; simp [h1])
      clear F
      go_wp2_with fail
      go_ret
      exact ⟨ret_bool E.out.symm, B0.out⟩
theorem isRoot_any (n : Nd) (sv : Value) (W : World) (hU : n.tx = false → ∀ d ∈ n.sty, UntoldAt W d) (h : StyAt W sv n.sty) (hd : n.dat.size ≤ 9223372036854775807) :
    Calls Tryz.prog 31 #[.agg (nodeC n sv).toArray] W fun e w' => e = .returned (.bool (rootB n)) ∧ Below W.heap.size W w' := by
  have B0 := Lib.hid ((Below.refl W.heap.size W).alloc (Nat.le_refl _) (.cells (nodeC n sv).toArray 32))
  have P0 := Lib.hid (Whole.mk W 32 (nodeC n sv).toArray)
  have HC := Lib.hid (isFit_any n sv _ (fun ht d hd => (hU ht d hd).step B0.out) (h.below B0.out) hd)
  obtain ⟨A, c, rfl, -, hl, -⟩ := h
  have F := Lib.hid (show rootB n = (decide (n.id = 0) && decide (n.par = -1) && !n.tx && fitB n) from rfl)
  clear hU
  go_enter Tryz.func31, Tryz.ntmps31
  go_upto_region 1 with fail
  generalize W.alloc _ = w0 at *
  have c0 : w0.cell? ⟨W.heap.size, 0, none⟩ = some (.int .i64 n.id) := P0.out.cell 0
  have c1 : w0.cell? ⟨W.heap.size, 1, none⟩ = some (.int .i64 n.par) := P0.out.cell 1
  have c2 : w0.cell? ⟨W.heap.size, 2, none⟩ = some (.bool n.tx) := P0.out.cell 2
  have c3 : w0.cell? ⟨W.heap.size, 3, none⟩ = some (.string n.dat) := P0.out.cell 3
  have c4 : w0.cell? ⟨W.heap.size, 4, none⟩ = some (.slice A n.sty.length c) := P0.out.cell 4
  by_cases h0 : n.id = 0
  · by_cases h1 : n.par = -1
    · cases ht : n.tx
      · rw [ht] at c2
        have HC2 := HC.out
        unfold nodeC at HC2
        rw [ht] at HC2
        have HC3 := Lib.hid HC2
        clear HC2
        have E := Lib.hid (show rootB n = fitB n by rw [F.out, h0, h1, ht]; simp)
        have b0 : (n.id == 0) = true := by simp [h0]
        have b1 : (n.par == -1) = true := by simp [h1]
        clear h0 h1 F
        go_wp2_with fail
        refine HC3.out.mono ?_
        rintro e w1 ⟨rfl, hb⟩
        have B1 := Lib.hid (B0.out.trans (hb.mono B0.out.size))
        clear hb
        go_wp2_with fail
        go_ret
        exact ⟨ret_bool E.out.symm, B1.out⟩
      · rw [ht] at c2
        have E := Lib.hid (show rootB n = false by rw [F.out, ht]; simp)
        have b0 : (n.id == 0) = true := by simp [h0]
        have b1 : (n.par == -1) = true := by simp [h1]
        clear h0 h1 F
        go_wp2_with fail
        go_ret
        exact ⟨ret_bool E.out.symm, B0.out⟩
    · have E := Lib.hid (show rootB n = false by rw [F.out]; simp [h1])
      have b0 : (n.id == 0) = true := by simp [h0]
      have b1 : (n.par == -1) = false := by simp [h1]
      clear h0 h1 F
      go_wp2_with fail
      go_ret
      exact ⟨ret_bool E.out.symm, B0.out⟩
  · have E := Lib.hid (show rootB n = false by rw [F.out]; simp [h0])
    have b0 : (n.id == 0) = false := by simp [h0]
    clear h0 F
    go_wp2_with fail
    go_ret
    exact ⟨ret_bool E.out.symm, B0.out⟩
end Go.Proofs.YtbhdpfacfgldiaaGreatDoor
/- tree.takesBehind. -/
namespace Go.Proofs.YtbhdpfacfgldiaaGreatDoor
open Go Go.RowKit
set_option linter.unusedVariables false
set_option linter.unusedSimpArgs false
set_option maxRecDepth 20000
set_option maxHeartbeats 1000000

theorem takes_any {W : World} {base t : Nat} {most : Int} {L : List Nd} (hT : Tree W base t most L) {last : Int} (hl : In64i last) (n : Nd) (sv : Value) (hU : n.tx = false → ∀ d ∈ n.sty, UntoldAt W d) (h : StyAt W sv n.sty) (hd : n.dat.size ≤ 9223372036854775807) (hi : In64i n.id) (hp : In64i n.par) (hL : L.length ≤ 1000) :
    Calls Tryz.prog 36 #[.pointer (some ⟨t, 0, none⟩), .int .i64 last, .agg (nodeC n sv).toArray] W fun e w' => e = .returned (.bool (takesB L last n)) ∧ Below W.heap.size W w' := by
  have B0 := Lib.hid ((Below.refl W.heap.size W).alloc (Nat.le_refl _) (.cells (nodeC n sv).toArray 32))
  have P0 := Lib.hid (Whole.mk W 32 (nodeC n sv).toArray)
  have HC := Lib.hid (isFit_any n sv _ (fun ht d hd => (hU ht d hd).step B0.out) (h.below B0.out) hd)
  have T0 := Lib.hid (hT.behind B0.out)
  obtain ⟨A, c, rfl, -, hl2, -⟩ := h
  have F := Lib.hid (show takesB L last n = (decide (0 ≤ n.id ∧ n.id ≤ 1000) && !hasZ L n.id && fitB n && belowZ L last n.par && !txZ L n.par && decide (deepZ L n.par < 20)) from rfl)
  clear hU hT
  go_enter Tryz.func36, Tryz.ntmps36
  go_upto_region 1 with fail
  generalize W.alloc _ = w0 at *
  have c0 : w0.cell? ⟨W.heap.size, 0, none⟩ = some (.int .i64 n.id) := P0.out.cell 0
  have c1 : w0.cell? ⟨W.heap.size, 1, none⟩ = some (.int .i64 n.par) := P0.out.cell 1
  have c2 : w0.cell? ⟨W.heap.size, 2, none⟩ = some (.bool n.tx) := P0.out.cell 2
  have c3 : w0.cell? ⟨W.heap.size, 3, none⟩ = some (.string n.dat) := P0.out.cell 3
  have c4 : w0.cell? ⟨W.heap.size, 4, none⟩ = some (.slice A n.sty.length c) := P0.out.cell 4
  by_cases h0 : n.id < 0
  · have E := Lib.hid (show takesB L last n = false by rw [F.out, decide_eq_false (by omega : ¬ (0 ≤ n.id ∧ n.id ≤ 1000))]; simp)
    clear F
    go_wp2_with fail
    go_ret
    exact ⟨ret_bool E.out.symm, B0.out⟩
  by_cases h1 : 1000 < n.id
  · have E := Lib.hid (show takesB L last n = false by rw [F.out, decide_eq_false (by omega : ¬ (0 ≤ n.id ∧ n.id ≤ 1000))]; simp)
    clear F
    go_wp2_with fail
    go_ret
    exact ⟨ret_bool E.out.symm, B0.out⟩
  have F2 := Lib.hid (show takesB L last n = (!hasZ L n.id && fitB n && belowZ L last n.par && !txZ L n.par && decide (deepZ L n.par < 20)) by rw [F.out, decide_eq_true (by omega : 0 ≤ n.id ∧ n.id ≤ 1000), Bool.true_and])
  clear F
  have HH := Lib.hid (thas_any T0.out hi)
  cases hh : hasZ L n.id
  case true =>
    have E := Lib.hid (show takesB L last n = false by rw [F2.out, hh]; simp)
    rw [hh] at HH
    clear F2
    go_wp2_with fail
    refine HH.out.mono ?_
    rintro e w1 ⟨rfl, rfl⟩
    go_wp2_with fail
    go_ret
    exact ⟨ret_bool E.out.symm, B0.out⟩
  rw [hh] at HH
  cases hf : fitB n
  case false =>
    have E := Lib.hid (show takesB L last n = false by rw [F2.out, hf]; simp)
    rw [hf] at HC
    clear F2
    go_wp2_with fail
    refine HH.out.mono ?_
    rintro e w1 ⟨rfl, rfl⟩
    go_wp2_with fail
    refine HC.out.mono ?_
    rintro e w1 ⟨rfl, hb⟩
    have B1 := Lib.hid (B0.out.trans (hb.mono B0.out.size))
    go_wp2_with fail
    go_ret
    exact ⟨ret_bool E.out.symm, B1.out⟩
  rw [hf] at HC
  have F3 := Lib.hid (show takesB L last n = (belowZ L last n.par && !txZ L n.par && decide (deepZ L n.par < 20)) by rw [F2.out, hh, hf]; simp)
  clear F2
  go_wp2_with fail
  refine HH.out.mono ?_
  rintro e w1 ⟨rfl, rfl⟩
  go_wp2_with fail
  refine HC.out.mono ?_
  rintro e w1 ⟨rfl, hb⟩
  have B1 := Lib.hid (B0.out.trans (hb.mono B0.out.size))
  have P1 := Lib.hid (P0.out.under hb P0.out.size)
  have T1 := Lib.hid (T0.out.behind hb)
  clear hb HH HC c0 c1 c2 c3 c4 T0 P0 B0
  have c1 : w1.cell? ⟨W.heap.size, 1, none⟩ = some (.int .i64 n.par) := P1.out.cell 1
  have HB := Lib.hid (tbelow_any T1.out hl hp)
  cases hbl : belowZ L last n.par
  case false =>
    have E := Lib.hid (show takesB L last n = false by rw [F3.out, hbl]; simp)
    rw [hbl] at HB
    clear F3
    go_wp2_with fail
    refine HB.out.mono ?_
    rintro e w2 ⟨rfl, rfl⟩
    go_wp2_with fail
    go_ret
    exact ⟨ret_bool E.out.symm, B1.out⟩
  rw [hbl] at HB
  go_wp2_with fail
  refine HB.out.mono ?_
  rintro e w2 ⟨rfl, rfl⟩
  go_upto_region 5 with fail
  have TT := Lib.hid (fun w (hb : Behind w1 w) => T1.out.behind hb)
  have y0 : ∀ x : Later w1.heap.size w1, x.w.cell? ⟨W.heap.size, 1, none⟩ = some (.int .i64 n.par) := fun x => (P1.out.under x.h P1.out.size).cell 1
  have HX := Lib.hid (fun w (hb : Behind w1 w) => ntext_any (TT.out w hb) hp)
  cases htx : txZ L n.par
  case false =>
      rw [htx] at HX
      have E := Lib.hid (show takesB L last n = decide (deepZ L n.par < 20) by rw [F3.out, hbl, htx]; simp)
      refine region_lane [] (List.range 13) [13] (by kernel_rfl) (by kernel_rfl) (fun _ _ _ _ _ h => h) ?_
      simp only [pick, List.map_nil]
      refine wpQuiet_nil ⟨rfl, ?_⟩
      rw [show List.range 13 = [0, 1, 2, 3, 4, 5, 6, 7, 8, 9, 10, 11, 12] from rfl]
      simp only [List.map_cons, List.map_nil, List.getD_cons_zero, List.getD_cons_succ, List.drop_succ_cons, List.drop_zero]
      refine laneO_run 1 (by kernel_rfl) ?_
      simp only [List.take_succ_cons, List.take_zero, List.drop_succ_cons, List.drop_zero]
      repeat (go_big_quiet_step (fail))
      refine wpQuiet_nil ?_
      refine laneO_call (v := (.pointer (some ⟨t, 0, none⟩))) (by kernel_rfl) (by rfl) (fun C hC h0 => ?_) ?_
      focus (go_big_quiet_op; exact ⟨_, fun w hw => (held_t t w).mono fun e w' ⟨he, hb⟩ => ⟨he, hb ▸ hw⟩, rfl⟩)
      simp only [Act.put, List.setIfInBounds_toArray, List.set_cons_zero, List.set_cons_succ]
      refine laneO_run 2 (by kernel_rfl) ?_
      simp only [List.take_succ_cons, List.take_zero, List.drop_succ_cons, List.drop_zero]
      repeat (go_big_quiet_step (fail))
      refine wpQuiet_nil ?_
      refine laneO_call (v := (.bool false)) (by kernel_rfl) (by rfl) (fun C hC h0 => ?_) ?_
      focus (go_big_quiet_op; exact ⟨_, fun w hw => (HX.out w (h0 w hw)).mono fun e w' ⟨he, hb⟩ => ⟨he, hb ▸ hw⟩, rfl⟩)
      simp only [Act.put, List.setIfInBounds_toArray, List.set_cons_zero, List.set_cons_succ]
      refine laneO_run 5 (by kernel_rfl) ?_
      simp only [List.take_succ_cons, List.take_zero, List.drop_succ_cons, List.drop_zero]
      repeat (go_big_quiet_step (fail))
      refine wpQuiet_nil ?_
      refine laneO_call (v := (.int .i64 (deepZ L n.par))) (by kernel_rfl) (by rfl) (fun C hC h0 => ?_) ?_
      focus (go_big_quiet_op; exact ⟨_, fun w hw => (tdeep_any (TT.out w (h0 w hw)) hp hL).mono fun e w' ⟨he, hb⟩ => ⟨he, hb ▸ hw⟩, rfl⟩)
      simp only [Act.put, List.setIfInBounds_toArray, List.set_cons_zero, List.set_cons_succ]
      refine laneO_run 2 (by kernel_rfl) ?_
      simp only [List.take_succ_cons, List.take_zero, List.drop_succ_cons, List.drop_zero]
      repeat (go_big_quiet_step (fail))
      refine wpQuiet_nil ?_
      refine laneO_end0 rfl rfl fun w5 hb5 => ?_
      have B5 := Lib.hid (B1.out.trans (Below.mono hb5 B1.out.size))
      clear y0 TT HX
      go_wp2
      go_ret
      exact ⟨ret_bool E.out.symm, B5.out⟩
  case true =>
      rw [htx] at HX
      have E := Lib.hid (show takesB L last n = false by rw [F3.out, htx]; simp)
      refine region_lane [] (List.range 13) [13] (by kernel_rfl) (by kernel_rfl) (fun _ _ _ _ _ h => h) ?_
      simp only [pick, List.map_nil]
      refine wpQuiet_nil ⟨rfl, ?_⟩
      rw [show List.range 13 = [0, 1, 2, 3, 4, 5, 6, 7, 8, 9, 10, 11, 12] from rfl]
      simp only [List.map_cons, List.map_nil, List.getD_cons_zero, List.getD_cons_succ, List.drop_succ_cons, List.drop_zero]
      refine laneO_run 1 (by kernel_rfl) ?_
      simp only [List.take_succ_cons, List.take_zero, List.drop_succ_cons, List.drop_zero]
      repeat (go_big_quiet_step (fail))
      refine wpQuiet_nil ?_
      refine laneO_call (v := (.pointer (some ⟨t, 0, none⟩))) (by kernel_rfl) (by rfl) (fun C hC h0 => ?_) ?_
      focus (go_big_quiet_op; exact ⟨_, fun w hw => (held_t t w).mono fun e w' ⟨he, hb⟩ => ⟨he, hb ▸ hw⟩, rfl⟩)
      simp only [Act.put, List.setIfInBounds_toArray, List.set_cons_zero, List.set_cons_succ]
      refine laneO_run 2 (by kernel_rfl) ?_
      simp only [List.take_succ_cons, List.take_zero, List.drop_succ_cons, List.drop_zero]
      repeat (go_big_quiet_step (fail))
      refine wpQuiet_nil ?_
      refine laneO_call (v := (.bool true)) (by kernel_rfl) (by rfl) (fun C hC h0 => ?_) ?_
      focus (go_big_quiet_op; exact ⟨_, fun w hw => (HX.out w (h0 w hw)).mono fun e w' ⟨he, hb⟩ => ⟨he, hb ▸ hw⟩, rfl⟩)
      simp only [Act.put, List.setIfInBounds_toArray, List.set_cons_zero, List.set_cons_succ]
      refine laneO_run 2 (by kernel_rfl) ?_
      simp only [List.take_succ_cons, List.take_zero, List.drop_succ_cons, List.drop_zero]
      repeat (go_big_quiet_step (fail))
      refine wpQuiet_nil ?_
      refine laneO_skip (by kernel_rfl) (by rfl) ?_
      simp only [Act.put, List.setIfInBounds_toArray, List.set_cons_zero, List.set_cons_succ]
      refine laneO_skip (by kernel_rfl) (by rfl) ?_
      simp only [Act.put, List.setIfInBounds_toArray, List.set_cons_zero, List.set_cons_succ]
      refine laneO_skip (by kernel_rfl) (by rfl) ?_
      simp only [Act.put, List.setIfInBounds_toArray, List.set_cons_zero, List.set_cons_succ]
      refine laneO_skip (by kernel_rfl) (by rfl) ?_
      simp only [Act.put, List.setIfInBounds_toArray, List.set_cons_zero, List.set_cons_succ]
      refine laneO_skip (by kernel_rfl) (by rfl) ?_
      simp only [Act.put, List.setIfInBounds_toArray, List.set_cons_zero, List.set_cons_succ]
      refine laneO_run 1 (by kernel_rfl) ?_
      simp only [List.take_succ_cons, List.take_zero, List.drop_succ_cons, List.drop_zero]
      repeat (go_big_quiet_step (fail))
      refine wpQuiet_nil ?_
      refine laneO_end0 rfl rfl fun w5 hb5 => ?_
      have B5 := Lib.hid (B1.out.trans (Below.mono hb5 B1.out.size))
      clear y0 TT HX
      go_wp2
      go_ret
      exact ⟨ret_bool E.out.symm, B5.out⟩
end Go.Proofs.YtbhdpfacfgldiaaGreatDoor
/- A row of nodes, as the walk reads them. -/
namespace Go.Proofs.YtbhdpfacfgldiaaGreatDoor
open Go Go.RowKit
set_option linter.unusedVariables false
set_option linter.unusedSimpArgs false

def rowsC : List Nd → List Value → List Value
  | n :: r, s :: t => nodeC n s ++ rowsC r t
  | _, _ => []
theorem rowsC_length : ∀ (l : List Nd) (s : List Value), s.length = l.length → (rowsC l s).length = l.length * 5
  | [], [], _ => rfl
  | n :: r, s :: t, h => by
    rw [rowsC, List.length_append, rowsC_length r t (by simpa using h)]
    simp [nodeC]; omega
theorem rowsC_get : ∀ (l : List Nd) (s : List Value) (h : s.length = l.length) (k : Nat) (hk : k < l.length) (j : Nat) (hj : j < 5), (rowsC l s)[k * 5 + j]? = (nodeC l[k] (s[k]'(by omega)))[j]?
  | n :: r, s :: t, h, 0, _, j, hj => by
    rw [rowsC, List.getElem?_append_left (by simp [nodeC]; omega)]
    simp
  | n :: r, s :: t, h, k + 1, hk, j, hj => by
    rw [rowsC, List.getElem?_append_right (by simp [nodeC]; omega)]
    have := rowsC_get r t (by simpa using h) k (by simpa using hk) j hj
    simp only [List.getElem_cons_succ]
    rw [← this]
    congr 1
    simp [nodeC]; omega
/-- A row of nodes in blocks ahead of B, their lists too. -/
structure NodesLow (w : World) (B : Nat) (A : Option Addr) (l : List Nd) (svs : List Value) : Prop where
  len : svs.length = l.length
  row : Row w B A (rowsC l svs)
  sty : ∀ k (h : k < l.length), StyLow w B (svs[k]'(by omega)) l[k].sty
  dat : ∀ n ∈ l, n.dat.size ≤ 9223372036854775807 ∧ In64i n.id ∧ In64i n.par
  few : l.length ≤ 1000000
theorem NodesLow.below {w w' : World} {B : Nat} {A : Option Addr} {l : List Nd} {svs : List Value} (h : NodesLow w B A l svs) (hb : Below B w w') : NodesLow w' B A l svs :=
  ⟨h.len, h.row.below hb, fun k hk => (h.sty k hk).below hb, h.dat, h.few⟩
theorem NodesLow.nd {w : World} {B : Nat} {A : Option Addr} {l : List Nd} {svs : List Value} (h : NodesLow w B A l svs) {k : Nat} (hk : k < l.length) :
    ∃ ad sv, svs[k]? = some sv ∧ A = some ad ∧ ad.block < B ∧ StyLow w B sv l[k].sty ∧ w.cell? (ad.add (k * 5)) = some (.int .i64 l[k].id) ∧ w.cell? ⟨(ad.add (k * 5)).block, (ad.add (k * 5)).off + 1, none⟩ = some (.int .i64 l[k].par) ∧
      w.cell? ⟨(ad.add (k * 5)).block, (ad.add (k * 5)).off + 2, none⟩ = some (.bool l[k].tx) ∧ w.cell? ⟨(ad.add (k * 5)).block, (ad.add (k * 5)).off + 3, none⟩ = some (.string l[k].dat) ∧ w.cell? ⟨(ad.add (k * 5)).block, (ad.add (k * 5)).off + 4, none⟩ = some sv := by
  have hl := rowsC_length l svs h.len
  obtain ⟨ad, e, hb, hc⟩ := h.row (by omega)
  have at_ : ∀ j, j < 5 → ∀ v, (nodeC l[k] (svs[k]'(by have := h.len; omega)))[j]? = some v → w.cell? (ad.add (k * 5 + j)) = some v := fun j hj v hv => by
    have h1 : k * 5 + j < (rowsC l svs).length := by omega
    rw [hc _ h1]
    have h2 := rowsC_get l svs h.len k hk j hj
    rw [List.getElem?_eq_getElem h1, hv] at h2
    exact h2
  have far : ∀ j, 0 < j → (⟨(ad.add (k * 5)).block, (ad.add (k * 5)).off + j, none⟩ : Addr) = ad.add (k * 5 + j) := fun j hj => by
    have : (ad.add (k * 5)).add j = ad.add (k * 5 + j) := add_of_add _ _ _
    rw [← this]
    generalize ad.add (k * 5) = b
    unfold Addr.add
    rw [if_neg (by omega)]
  refine ⟨ad, svs[k]'(by have := h.len; omega), List.getElem?_eq_getElem _, e, hb, h.sty k hk, ?_, ?_, ?_, ?_, ?_⟩
  · exact at_ 0 (by omega) _ rfl
  · rw [far 1 (by omega)]; exact at_ 1 (by omega) _ rfl
  · rw [far 2 (by omega)]; exact at_ 2 (by omega) _ rfl
  · rw [far 3 (by omega)]; exact at_ 3 (by omega) _ rfl
  · rw [far 4 (by omega)]; exact at_ 4 (by omega) _ rfl
/-- All but the first. -/
theorem NodesLow.tail {w : World} {B : Nat} {A : Option Addr} {r : Nd} {R : List Nd} {s : Value} {S : List Value} (h : NodesLow w B A (r :: R) (s :: S)) (A' : Option Addr) (hA : R ≠ [] → A' = A.map (·.add 5)) : NodesLow w B A' R S := by
  refine ⟨by simpa using h.len, ?_, fun k hk => by have := h.sty (k + 1) (by simpa using hk); simpa using this, fun n hn => h.dat n (List.mem_cons_of_mem _ hn), by have := h.few; simp at this; omega⟩
  intro hpos
  have hne : R ≠ [] := by intro e; subst e; simp [rowsC] at hpos
  have hl := rowsC_length (r :: R) (s :: S) h.len
  obtain ⟨ad, e, hb, hc⟩ := h.row (by rw [hl]; simp)
  refine ⟨ad.add 5, by rw [hA hne, e]; rfl, by rw [add_block]; exact hb, fun i hi => ?_⟩
  have h5 : i + 5 < (rowsC (r :: R) (s :: S)).length := by rw [rowsC]; simp [nodeC]; omega
  rw [add_of_add, show 5 + i = i + 5 by omega, hc _ h5]
  refine congrArg some ?_
  simp only [rowsC]
  rw [List.getElem_append_right (by simp [nodeC])]
  simp [nodeC]
end Go.Proofs.YtbhdpfacfgldiaaGreatDoor
/- tree.Of. -/
namespace Go.Proofs.YtbhdpfacfgldiaaGreatDoor
open Go Go.RowKit
set_option linter.unusedVariables false
set_option linter.unusedSimpArgs false
set_option maxRecDepth 20000
set_option maxHeartbeats 2000000

def OfPost (W : World) (most : Int) (l : List Nd) (e : Ending) (w' : World) : Prop :=
  if ofB most l = true then ∃ t, e = .returned (.tuple #[.pointer (some ⟨t, 0, none⟩), .bool true]) ∧ Tree w' W.heap.size t (mostZ most) l else e = .returned (.tuple #[.pointer none, .bool false])
theorem of_step (m : Nat) (r : Nd) (R : List Nd) (k : Nat) (hk : k < R.length) (last : Int) : growB m (r :: R.take k) last (R.drop k) = (decide (k + 1 < m) && takesB (r :: R.take k) last R[k] && growB m (r :: R.take (k + 1)) R[k].id (R.drop (k + 1))) := by
  have e : (r :: R.take k).length = k + 1 := by simp; omega
  rw [List.drop_eq_getElem_cons hk, growB, e, List.take_succ_eq_append_getElem hk]
  rfl
theorem own_mono {w : World} {base base' e size n : Nat} {v : Value} {xs : List Value} (h : w.ownsRow base e size v n xs) (hb : base' ≤ base) : w.ownsRow base' e size v n xs := by
  refine ⟨h.1, ?_⟩
  rcases h.2 with h0 | ⟨g, cap, cur, hv, h1, h2⟩
  · exact .inl h0
  · exact .inr ⟨g, cap, cur, hv, by omega, h2⟩
theorem Tree.mono {w : World} {base base' t : Nat} {most : Int} {L : List Nd} (h : Tree w base t most L) (hb : base' ≤ base) : Tree w base' t most L := by
  obtain ⟨b, f, sv, kv, h⟩ := h
  exact ⟨b, f, sv, kv, h.ok, ⟨by have := h.low; omega, by have := h.low; omega⟩, h.hd, h.mp, h.dom, fun n hn g hg => ⟨by have := (h.nod n hn g hg).1; omega, (h.nod n hn g hg).2⟩, fun n hn => (h.sty n hn).mono hb, fun n hn => own_mono (h.kid n hn) hb, h.inj, h.apart⟩
theorem give_root (r : Nd) (h : rootB r = true) : giveZ [root0] r = [r] := by
  unfold rootB at h
  simp only [Bool.and_eq_true, decide_eq_true_eq, Bool.not_eq_true'] at h
  obtain ⟨⟨⟨h1, h2⟩, h3⟩, -⟩ := h
  cases r with
  | mk a b c d e =>
    simp only at h1 h2 h3
    subst h1 h2 h3
    rfl
theorem tof_at (most : Int) (A : Option Addr) (c : Nat) (l : List Nd) (svs : List Value) (W : World) (h : NodesLow W W.heap.size A l svs) (hc : l.length ≤ c) (hU : ∀ n ∈ l, n.tx = false → ∀ d ∈ n.sty, UntoldAt W d) :
    Calls Tryz.prog 7 #[.int .i64 most, .slice A l.length c] W fun e w' => OfPost W most l e w' ∧ Below W.heap.size W w' := by
  have H := Lib.hid h
  have HU := Lib.hid hU
  clear h hU
  cases l with
  | nil =>
    go_enter Tryz.func7, Tryz.ntmps7
    go_wp2
    refine bodyPost_ret (v := .tuple #[.pointer none, .bool false]) (by simp [results, Tryz.results7, go_sem]) rfl ⟨by unfold OfPost; rw [if_neg (by rw [ofB]; decide)], Below.refl _ _⟩
  | cons r R =>
    cases svs with
    | nil => have := H.out.len; simp at this
    | cons s S =>
    obtain ⟨ad, sv, es, rfl, hb0, hs0, d0, d1, d2, d3, d4⟩ := H.out.nd (k := 0) (by simp)
    have es : s = sv := by simpa using es
    subst es
    simp only [Nat.zero_mul, add_zero, List.getElem_cons_zero] at d0 d1 d2 d3 d4 hs0
    have HR := Lib.hid (isRoot_any r s W (HU.out r (by simp)) (hs0.at_ (Nat.le_refl _)) (H.out.dat r (by simp)).1)
    have hlen : (0 : Int) < (r :: R).length := by simp
    cases hr : rootB r
    · rw [hr] at HR
      go_enter Tryz.func7, Tryz.ntmps7
      go_wp2_with fail
      refine HR.out.mono ?_
      rintro e w1 ⟨rfl, hb⟩
      have B1 := Lib.hid hb
      clear hb
      go_wp2
      refine bodyPost_ret (v := .tuple #[.pointer none, .bool false]) (by simp [results, Tryz.results7, go_sem]) rfl ⟨by unfold OfPost; rw [if_neg (by rw [ofB, hr]; simp)], B1.out⟩
    · rw [hr] at HR
      go_enter Tryz.func7, Tryz.ntmps7
      go_wp2_with fail
      refine HR.out.mono ?_
      rintro e w1 ⟨rfl, hb⟩
      have B1 := Lib.hid hb
      clear hb
      go_wp2_with fail
      refine (tnew_any most w1).mono ?_
      rintro e w2 ⟨t, rfl, hT, hb⟩
      have T2 := Lib.hid (hT.mono B1.out.size)
      have B2 := Lib.hid (B1.out.trans (hb.mono B1.out.size))
      clear hT hb HR d0 d1 d2 d3 d4
      obtain ⟨ad', sv', es, ea, -, -, d0, d1, d2, d3, d4⟩ := H.out.nd (k := 0) (by simp)
      injection ea with ea
      subst ea
      have es : s = sv' := by simpa using es
      subst es
      simp only [Nat.zero_mul, add_zero, List.getElem_cons_zero] at d0 d1 d2 d3 d4
      have y0 : ∀ x : Later w2.heap.size w2, x.w.cell? ad = some (.int .i64 r.id) := fun x => (Below.cell (B2.out.trans (x.h.mono B2.out.size)) hb0).trans d0
      have y1 : ∀ x : Later w2.heap.size w2, x.w.cell? ⟨ad.block, ad.off + 1, none⟩ = some (.int .i64 r.par) := fun x => (Below.cell (B2.out.trans (x.h.mono B2.out.size)) (show (⟨ad.block, ad.off + 1, none⟩ : Addr).block < W.heap.size from hb0)).trans d1
      have y2 : ∀ x : Later w2.heap.size w2, x.w.cell? ⟨ad.block, ad.off + 2, none⟩ = some (.bool r.tx) := fun x => (Below.cell (B2.out.trans (x.h.mono B2.out.size)) (show (⟨ad.block, ad.off + 2, none⟩ : Addr).block < W.heap.size from hb0)).trans d2
      have y3 : ∀ x : Later w2.heap.size w2, x.w.cell? ⟨ad.block, ad.off + 3, none⟩ = some (.string r.dat) := fun x => (Below.cell (B2.out.trans (x.h.mono B2.out.size)) (show (⟨ad.block, ad.off + 3, none⟩ : Addr).block < W.heap.size from hb0)).trans d3
      have y4 : ∀ x : Later w2.heap.size w2, x.w.cell? ⟨ad.block, ad.off + 4, none⟩ = some s := fun x => (Below.cell (B2.out.trans (x.h.mono B2.out.size)) (show (⟨ad.block, ad.off + 4, none⟩ : Addr).block < W.heap.size from hb0)).trans d4
      clear d0 d1 d2 d3 d4
      go_upto_region 4 with fail
      refine region_lane [] [0, 1, 2, 3, 4] [5] (by kernel_rfl) (by kernel_rfl) (fun _ _ _ _ _ h => h) ?_
      simp only [pick, List.map_nil]
      refine wpQuiet_nil ⟨rfl, ?_⟩
      simp only [List.map_cons, List.map_nil, List.getD_cons_zero, List.getD_cons_succ, List.drop_succ_cons, List.drop_zero]
      refine laneO_run 1 (by kernel_rfl) ?_
      simp only [List.take_succ_cons, List.take_zero, List.drop_succ_cons, List.drop_zero]
      repeat (go_big_quiet_step (fail))
      refine wpQuiet_nil ?_
      refine laneO_call (v := (.pointer (some ⟨t, 0, none⟩))) (by kernel_rfl) (by rfl) (fun C hC h0 => ?_) ?_
      focus (go_big_quiet_op; exact ⟨_, fun w hw => (held_t t w).mono fun e w' ⟨he, hb⟩ => ⟨he, hb ▸ hw⟩, rfl⟩)
      simp only [Act.put, List.setIfInBounds_toArray, List.set_cons_zero, List.set_cons_succ]
      refine laneO_run 3 (by kernel_rfl) ?_
      simp only [List.take_succ_cons, List.take_zero, List.drop_succ_cons, List.drop_zero]
      repeat (go_big_quiet_step (fail))
      refine wpQuiet_nil ?_
      refine laneO_end0 rfl rfl fun w3 hb3 => ?_
      have T3 := Lib.hid (T2.out.behind hb3)
      have B3 := Lib.hid (B2.out.trans (Below.mono hb3 B2.out.size))
      clear y0 y1 y2 y3 y4
      have GV := Lib.hid (ngive_any T3.out B3.out.size (n := r) (sv := s) (hs0.below B3.out) (by unfold rootB at hr; simp only [Bool.and_eq_true, decide_eq_true_eq] at hr; rw [hr.1.1.1]; rfl))
      rw [give_root r hr] at GV
      go_wp2_with fail
      refine GV.out.mono ?_
      rintro e w4 ⟨rfl, hT, hb⟩
      have T4 := Lib.hid hT
      have B4 := Lib.hid (B3.out.trans hb)
      clear hT hb GV T2 T3 B1 B2 B3 hb3
      have h7 : (1 : Int) ≤ (r :: R).length := by simp; omega
      go_upto_region 6 with fail
      go_cut [29, 30, 31] (fun v29 v30 v31 wx => ∃ A' c', v29 = .slice A' R.length c' ∧ (R ≠ [] → A' = some (ad.add 5)) ∧ v30 = .int .i64 R.length ∧ v31 = .int .i64 0 ∧ wx = w4)
      case first =>
        by_cases hc1 : c = 1
        · have hR0 : R = [] := by
            cases R with
            | nil => rfl
            | cons a b => simp at hc; omega
          subst hc1 hR0
          go_wp2_with fail
          go_meet
          exact ⟨_, _, rfl, fun h => absurd rfl h, rfl, rfl, rfl⟩
        · go_wp2_with fail
          go_meet
          exact ⟨_, _, rfl, fun _ => rfl, rfl, rfl, rfl⟩
      case rest =>
        obtain ⟨A', c', rfl, hA, rfl, rfl, rfl⟩ := hcut
        have HT := Lib.hid (H.out.tail A' hA)
        have HUR := Lib.hid (fun n (hn : n ∈ R) => HU.out n (List.mem_cons_of_mem _ hn))
        have hm1 := mostZ_bd most
        clear h7 hA
        go_wp2_with fail
        go_loopw [7, 31] (fun v7 v31 wr => ∃ (k : Nat) (last : Int), k ≤ R.length ∧ v31 = .int .i64 k ∧ v7 = .int .i64 last ∧ Hid (In64i last) ∧ Hid (Tree wr W.heap.size t (mostZ most) (r :: R.take k)) ∧ Hid (growB (mostZ most) [r] 0 R = growB (mostZ most) (r :: R.take k) last (R.drop k)) ∧ k + 1 ≤ mostZ most ∧ Hid (Below W.heap.size W wr)) (fun v7 v31 _ => R.length - (intOf v31).toNat)
        case atStart => exact ⟨0, 0, Nat.zero_le _, rfl, rfl, Lib.hid (by unfold In64i; omega), T4, Lib.hid rfl, by omega, B4⟩
        case round =>
          clear T4 B4
          obtain ⟨k, last, hk, rfl, rfl, hla, hT, hG, hkm, hB⟩ := hrel
          by_cases hlt : k < R.length
          · obtain ⟨ad2, sv2, e2, rfl, hb2, hs2, d0, d1, d2, d3, d4⟩ := (HT.out.below hB.out).nd hlt
            have ST := Lib.hid (of_step (mostZ most) r R k hlt last)
            have DT := Lib.hid (HT.out.dat R[k] (List.getElem_mem hlt))
            have UU := Lib.hid (HUR.out R[k] (List.getElem_mem hlt))
            have TAK := Lib.hid (show R.take (k + 1) = R.take k ++ [R[k]] from List.take_succ_eq_append_getElem hlt)
            have hLn : (r :: R.take k).length = k + 1 := by simp; omega
            generalize R[k] = n at *
            obtain ⟨As, cs, rfl, -⟩ := id hs2
            have P5 := Lib.hid (Whole.mk wr 32 (nodeC n (.slice As n.sty.length cs)).toArray)
            have hal : Below wr.heap.size wr (wr.alloc (.cells (nodeC n (.slice As n.sty.length cs)).toArray 32)) := (Below.refl _ _).alloc (Nat.le_refl _) _
            have T5 := Lib.hid (hT.out.behind hal)
            have B5 := Lib.hid (hB.out.trans (hal.mono hB.out.size))
            have S5 := Lib.hid (hs2.below (hal.mono hB.out.size))
            clear hal hs2
            unfold nodeC at P5 T5 B5 S5
            go_upto_region 9 with fail
            generalize wr.alloc _ = w5 at *
            generalize wr.heap.size = q at *
            clear d0 d1 d2 d3 d4
            have P5 : Hid (Whole w5 q 32 (nodeC n (.slice As n.sty.length cs))) := P5
            go_wp2_with fail
            refine (held_t t w5).mono ?_
            rintro e w6 ⟨rfl, rfl⟩
            go_wp2_with fail
            refine (nfull_any T5.out).mono ?_
            rintro e w6 ⟨rfl, hb⟩
            have T6 := Lib.hid (T5.out.behind hb)
            have B6 := Lib.hid (B5.out.trans (hb.mono B5.out.size))
            have P6 := Lib.hid (P5.out.under hb P5.out.size)
            have S6 := Lib.hid (S5.out.below (hb.mono B5.out.size))
            clear hb T5 B5 P5 S5
            rw [hLn]
            by_cases hfull : mostZ most ≤ k + 1
            · have hd : decide ((mostZ most : Int) ≤ ((k + 1 : Nat) : Int)) = true := by rw [decide_eq_true_eq]; omega
              have EQ := Lib.hid (show growB (mostZ most) [r] 0 R = false by rw [hG.out, ST.out, decide_eq_false (by omega)]; simp)
              have BX := B6
              rw [hd]
              go_wp2_with fail
              refine bodyPost_ret (v := .tuple #[.pointer none, .bool false]) (by simp [results, Tryz.results7, go_sem]) rfl ⟨?_, BX.out⟩
              unfold OfPost
              rw [if_neg (by rw [ofB, hr, Bool.true_and, EQ.out]; simp)]
            · have hd : decide ((mostZ most : Int) ≤ ((k + 1 : Nat) : Int)) = false := by rw [decide_eq_false_iff_not]; omega
              rw [hd]
              have TK := Lib.hid (takes_any T6.out hla.out n (.slice As n.sty.length cs) (fun ht d hd => (UU.out ht d hd).step B6.out) (S6.out.at_ B6.out.size) DT.out.1 DT.out.2.1 DT.out.2.2 (by rw [hLn]; omega))
              have c0 : w6.cell? ⟨q, 0, none⟩ = some (.int .i64 n.id) := P6.out.cell 0
              have c1 : w6.cell? ⟨q, 1, none⟩ = some (.int .i64 n.par) := P6.out.cell 1
              have c2 : w6.cell? ⟨q, 2, none⟩ = some (.bool n.tx) := P6.out.cell 2
              have c3 : w6.cell? ⟨q, 3, none⟩ = some (.string n.dat) := P6.out.cell 3
              have c4 : w6.cell? ⟨q, 4, none⟩ = some (.slice As n.sty.length cs) := P6.out.cell 4
              go_wp2_with fail
              refine TK.out.mono ?_
              rintro e w7 ⟨rfl, hb⟩
              have T7 := Lib.hid (T6.out.behind hb)
              have B7 := Lib.hid (B6.out.trans (hb.mono B6.out.size))
              have P7 := Lib.hid (P6.out.under hb P6.out.size)
              have S7 := Lib.hid (S6.out.below (hb.mono B6.out.size))
              clear hb T6 B6 P6 S6 TK c0 c1 c2 c3 c4
              cases htk : takesB (r :: R.take k) last n
              · have EQ := Lib.hid (show growB (mostZ most) [r] 0 R = false by rw [hG.out, ST.out, htk]; simp)
                have BX := B7
                go_wp2_with fail
                refine bodyPost_ret (v := .tuple #[.pointer none, .bool false]) (by simp [results, Tryz.results7, go_sem]) rfl ⟨?_, BX.out⟩
                unfold OfPost
                rw [if_neg (by rw [ofB, hr, Bool.true_and, EQ.out]; simp)]
              · have EQ := Lib.hid (show growB (mostZ most) [r] 0 R = growB (mostZ most) (r :: R.take (k + 1)) n.id (R.drop (k + 1)) by rw [hG.out, ST.out, htk, decide_eq_true (by omega)]; simp)
                obtain ⟨f1, f2, -, -, -, -, f7⟩ := takes_facts htk
                go_upto_region 11 with fail
                have YP := Lib.hid (fun w (hb : Behind w7 w) => P7.out.under hb P7.out.size)
                refine region_lane [] [0, 1, 2] [3] (by kernel_rfl) (by kernel_rfl) (fun _ _ _ _ _ h => h) ?_
                simp only [pick, List.map_nil]
                refine wpQuiet_nil ⟨rfl, ?_⟩
                simp only [List.map_cons, List.map_nil, List.getD_cons_zero, List.getD_cons_succ, List.drop_succ_cons, List.drop_zero]
                refine laneO_run 1 (by kernel_rfl) ?_
                simp only [List.take_succ_cons, List.take_zero, List.drop_succ_cons, List.drop_zero]
                repeat (go_big_quiet_step (fail))
                refine wpQuiet_nil ?_
                refine laneO_call (v := (.pointer (some ⟨t, 0, none⟩))) (by kernel_rfl) (by rfl) (fun C hC h0 => ?_) ?_
                focus (go_big_quiet_op; exact ⟨_, fun w hw => (held_t t w).mono fun e w' ⟨he, hb⟩ => ⟨he, hb ▸ hw⟩, rfl⟩)
                simp only [Act.put, List.setIfInBounds_toArray, List.set_cons_zero, List.set_cons_succ]
                refine laneO_fixed (v := .agg (nodeC n (.slice As n.sty.length cs)).toArray) (by kernel_rfl) (fun w hw => .inl ⟨by rfl, cells_gives (n := 5) nodeT (.tmp 9) rfl q rfl (nodeC n (.slice As n.sty.length cs)) rfl 32 (YP.out w hw)⟩) ?_
                simp only [Act.put, List.setIfInBounds_toArray, List.set_cons_zero, List.set_cons_succ]
                refine laneO_end0 rfl rfl fun w8 hb8 => ?_
                have T8 := Lib.hid (T7.out.behind hb8)
                have B8 := Lib.hid (B7.out.trans (Below.mono hb8 B7.out.size))
                have P8 := Lib.hid (P7.out.under hb8 P7.out.size)
                have S8 := Lib.hid (S7.out.below (Below.mono hb8 B7.out.size))
                clear YP T7 B7 P7 S7 hb8
                go_wp2_with fail
                refine (nput_any T8.out B8.out.size (S8.out.at_ B8.out.size) f1 f2 f7 (by rw [hLn]; omega)).mono ?_
                rintro e w9 ⟨rfl, hT9, hb, hq⟩
                have T9 := Lib.hid (show Tree w9 W.heap.size t (mostZ most) (r :: R.take (k + 1)) by rw [TAK.out]; exact hT9)
                have B9 := Lib.hid (B8.out.trans hb)
                have P9 := hq q _ P8.out
                have c0 : w9.cell? ⟨q, 0, none⟩ = some (.int .i64 n.id) := P9.cell 0
                clear hT9 hb hq P9 P8 S8 T8 B8
                go_wp2_with fail
                go_roundw
                case rel => exact ⟨k + 1, n.id, by omega, by go_num, rfl, Lib.hid DT.out.2.1, T9, EQ, by omega, B9⟩
                case measure => simp [intOf]; omega
          · have hq : k = R.length := by omega
            have EQ := Lib.hid (show ofB most (r :: R) = true by rw [ofB, hr, Bool.true_and, hG.out, hq, List.drop_length]; rfl)
            have TX := Lib.hid (show Tree wr W.heap.size t (mostZ most) (r :: R) by have := hT.out; rw [hq, List.take_length] at this; exact this)
            go_wp2_with fail
            refine bodyPost_ret (v := .tuple #[.pointer (some ⟨t, 0, none⟩), .bool true]) (by simp [results, Tryz.results7, go_sem]) rfl ⟨?_, hB.out⟩
            unfold OfPost
            rw [if_pos EQ.out]
            exact ⟨t, rfl, TX.out⟩
theorem tof_any (most : Int) (A : Option Addr) (c : Nat) (l : List Nd) (svs : List Value) (W : World) (h : NodesLow W W.heap.size A l svs) (hc : l.length ≤ c) (hU : ∀ n ∈ l, n.tx = false → ∀ d ∈ n.sty, UntoldOK d) :
    Calls Tryz.prog 7 #[.int .i64 most, .slice A l.length c] W fun e w' => OfPost W most l e w' ∧ Below W.heap.size W w' :=
  tof_at most A c l svs W h hc fun n hn ht d hd => (hU n hn ht d hd).at_ W
end Go.Proofs.YtbhdpfacfgldiaaGreatDoor
/- tree.Node; a tree stands while a row of nodes is written. -/
namespace Go.Proofs.YtbhdpfacfgldiaaGreatDoor
open Go Go.RowKit
set_option linter.unusedVariables false
set_option linter.unusedSimpArgs false
set_option maxRecDepth 20000
set_option maxHeartbeats 2000000

/-- What a row of nodes is not. -/
def NodeRow (w : World) (k : Nat) : Prop := ∃ cur fr, w.heap[k]? = some (.cells cur 32 fr)
theorem node_row_whole {w : World} {k : Nat} (h : NodeRow w k) {t : TypeId} {cs : List Value} (hw : Whole w k t cs) (ht : t ≠ 32) : False := by
  obtain ⟨cur, fr, h⟩ := h
  have h2 : w.heap[k]? = _ := hw
  rw [h] at h2
  injection h2 with h2
  simp at h2
  exact ht h2.2.1.symm
theorem node_row_own {w : World} {k : Nat} (h : NodeRow w k) {base e size m : Nat} {v : Value} {xs : List Value} (ho : w.ownsRow base e size v m xs) (he : e ≠ 32) : v.ownBlock ≠ some k := by
  obtain ⟨cur, fr, h⟩ := h
  intro hk
  rcases ho.2 with ⟨rfl, -⟩ | ⟨g, cap, cur', rfl, -, hg, -⟩
  · simp [Value.ownBlock] at hk
  · simp [Value.ownBlock] at hk
    subst hk
    rw [h] at hg
    injection hg with hg
    simp at hg
    exact he hg.2.1.symm
theorem Tree.rows {w w' : World} {base t : Nat} {most : Int} {L : List Nd} {S : List Nat} (h : Tree w base t most L) (hO : Only S w w') (hS : ∀ k ∈ S, NodeRow w k) : Tree w' base t most L := by
  obtain ⟨b, f, sv, kv, h⟩ := h
  refine ⟨b, f, sv, kv, h.ok, h.low, hO.whole h.hd fun hx => node_row_whole (hS _ hx) h.hd (by decide), h.mp.only hO fun hx => ?_, h.dom, fun n hn g hg => ⟨(h.nod n hn g hg).1, hO.whole (h.nod n hn g hg).2 fun hx => node_row_whole (hS _ hx) (h.nod n hn g hg).2 (by decide)⟩, fun n hn => (h.sty n hn).only hO fun k hk hx => ?_, fun n hn => hO.owns (h.kid n hn) fun k hk hx => node_row_own (hS _ hx) (h.kid n hn) (by decide) hk, h.inj, h.apart⟩
  · obtain ⟨cur, fr, e⟩ := hS _ hx
    obtain ⟨D, ⟨es, clock, hb, -⟩, -⟩ := h.mp
    rw [hb] at e
    cases e
  · obtain ⟨A, c, e, hr, -⟩ := h.sty n hn
    rw [e] at hk
    exact node_row_own (hS _ hx) hr (by decide) hk
theorem tnode_any {W : World} {base t : Nat} {most : Int} {L : List Nd} (hT : Tree W base t most L) {id : Int} (hi : In64i id) {n : Nd} (ha : atZ L id = some n) :
    Calls Tryz.prog 16 #[.pointer (some ⟨t, 0, none⟩), .int .i64 id] W fun e w' => (∃ A c, e = .returned (.tuple #[.agg #[.int .i64 n.id, .int .i64 n.par, .bool n.tx, .string n.dat, .slice A n.sty.length c], .bool true]) ∧ StyOwn w' W.heap.size (.slice A n.sty.length c) n.sty) ∧ Below W.heap.size W w' := by
  have hal : Below W.heap.size W (W.alloc (.cells #[.int .i64 0, .int .i64 0, .bool false, .string ⟨#[]⟩, .slice none 0 0] 32)) := (Below.refl _ _).alloc (Nat.le_refl _) _
  have R0 := Lib.hid (Whole.mk W 32 #[.int .i64 0, .int .i64 0, .bool false, .string ⟨#[]⟩, .slice none 0 0])
  have H := Lib.hid (nnode_any (hT.behind hal) hi)
  have B0 := Lib.hid hal
  clear hal hT
  go_enter Tryz.func16, Tryz.ntmps16
  go_upto_region 1 with fail
  generalize W.alloc _ = w0 at *
  go_wp2_with fail
  refine (held_t t w0).mono ?_
  rintro e w1 ⟨rfl, rfl⟩
  go_wp2_with fail
  refine H.out.mono ?_
  rintro e w1 ⟨hp, hb⟩
  unfold NodePost at hp
  rw [ha] at hp
  obtain ⟨sv', rfl, hs⟩ := hp
  have R1 := Lib.hid (R0.out.under hb R0.out.size)
  have B1 := Lib.hid (B0.out.trans (hb.mono B0.out.size))
  have z0 : W.heap.size < w0.heap.size := R0.out.size
  have n1 := hs.other R1.out (by decide)
  have HS := Lib.hid hs
  obtain ⟨A2, c2, rfl, -⟩ := hs
  clear hb H R0 B0
  go_wp2_with (refine cells_store (n := 5) nodeT (.tmp 4) (.tmp 10) rfl rfl W.heap.size rfl (nodeC n (.slice A2 n.sty.length c2)) rfl (node_one n) rfl 32 [.int .i64 0, .int .i64 0, .bool false, .string ⟨#[]⟩, .slice none 0 0] ?_ rfl ?_; (focus (exact R1.out)); intro w3 h3 o3; have R3 := Lib.hid h3; have O3 := Lib.hid o3; clear h3 o3)
  exact cells_end2 (n := 5) nodeT rfl W.heap.size rfl (nodeC n (.slice A2 n.sty.length c2)) rfl 32 R3.out rfl ⟨⟨A2, c2, rfl, (HS.out.only O3.out (by intro g hg hm; simp at hm; subst hm; exact n1 hg)).mono (by omega)⟩, B1.out.trans (O3.out.below (by simp) (by have := R1.out.size; omega))⟩
end Go.Proofs.YtbhdpfacfgldiaaGreatDoor
/- tree.say, Say. -/
namespace Go.Proofs.YtbhdpfacfgldiaaGreatDoor
open Go Go.RowKit
set_option linter.unusedVariables false
set_option linter.unusedSimpArgs false
set_option maxRecDepth 20000
set_option maxHeartbeats 2000000

theorem nodeInfo : (Tryz.prog.info? 32).map (fun i => (i.zero, i.size, i.bytes)) = some (some (.agg #[.int .i64 0, .int .i64 0, .bool false, .string ⟨#[]⟩, .slice none 0 0]), 5, 64) := by kernel_rfl
/-- A row of nodes of the call's own, their lists too. -/
def NodesOwn (w : World) (lo : Nat) (v : Value) (l : List Nd) : Prop := ∃ A c svs, v = .slice A l.length c ∧ svs.length = l.length ∧ w.ownsRow lo 32 5 (.slice A l.length c) l.length (rowsC l svs) ∧ ∀ k (h : k < l.length) (h2 : k < svs.length), StyOwn w lo svs[k] l[k].sty
theorem rowsC_append : ∀ (l : List Nd) (s : List Value) (h : s.length = l.length) (n : Nd) (v : Value), rowsC (l ++ [n]) (s ++ [v]) = rowsC l s ++ nodeC n v
  | [], [], _, n, v => by simp [rowsC]
  | m :: r, u :: t, h, n, v => by
    simp only [List.cons_append, rowsC, rowsC_append r t (by simpa using h) n v, List.append_assoc]
theorem own_row {w : World} {base size m : Nat} {v : Value} {xs : List Value} (ho : w.ownsRow base 32 size v m xs) {k : Nat} (hk : v.ownBlock = some k) : NodeRow w k := by
  rcases ho.2 with ⟨rfl, -⟩ | ⟨g, cap, cur', rfl, -, hg, -⟩
  · simp [Value.ownBlock] at hk
  · simp [Value.ownBlock] at hk
    subst hk
    exact ⟨_, _, hg⟩
theorem StyOwn.rows {w w' : World} {base : Nat} {sv : Value} {l : List Dc} {S : List Nat} (h : StyOwn w base sv l) (hO : Only S w w') (hS : ∀ k ∈ S, NodeRow w k) : StyOwn w' base sv l :=
  h.only hO fun k hk hx => by
    obtain ⟨A, c, e, hr, -⟩ := h
    rw [e] at hk
    exact node_row_own (hS _ hx) hr (by decide) hk
theorem IdsOwn.rows {w w' : World} {base : Nat} {v : Value} {l : List Int} {S : List Nat} (h : IdsOwn w base v l) (hO : Only S w w') (hS : ∀ k ∈ S, NodeRow w k) : IdsOwn w' base v l :=
  h.only hO fun k hk hx => by
    obtain ⟨A, c, e, hr, -⟩ := h
    rw [e] at hk
    exact node_row_own (hS _ hx) hr (by decide) hk
/-- One more. -/
theorem NodesOwn.push {w w' : World} {lo : Nat} {l : List Nd} {A : Option Addr} {c : Nat} {svs : List Value} (h1 : svs.length = l.length) (h3 : ∀ k (h : k < l.length) (h2 : k < svs.length), StyOwn w lo svs[k] l[k].sty)
    (ho : w.ownsRow lo 32 5 (.slice A l.length c) l.length (rowsC l svs)) {n : Nd} {sv : Value} {v' : Value} (hg : Only (Value.slice A l.length c).ownBlock.toList w w') (hv : w'.ownsRow lo 32 5 v' (l.length + 1) (rowsC l svs ++ nodeC n sv)) (hs : StyOwn w' lo sv n.sty) : NodesOwn w' lo v' (l ++ [n]) := by
  obtain ⟨A', c', rfl⟩ := own_shape hv
  refine ⟨A', c', svs ++ [sv], by simp, by simp [h1], ?_, fun k hk hk2 => ?_⟩
  · rw [rowsC_append l svs h1]; simpa using hv
  · by_cases hl : k < l.length
    · rw [List.getElem_append_left (by omega), List.getElem_append_left hl]
      exact (h3 k hl (by omega)).rows hg fun x hx => own_row ho (by simpa using hx)
    · have e : k = l.length := by simp at hk; omega
      subst e
      rw [List.getElem_append_right (by omega), List.getElem_append_right (by omega)]
      simpa [h1] using hs
theorem NodesOwn.behind {w w' : World} {lo : Nat} {v : Value} {l : List Nd} (h : NodesOwn w lo v l) (hb : Below w.heap.size w w') : NodesOwn w' lo v l := by
  obtain ⟨A, c, svs, e, h1, h2, h3⟩ := h
  have ho : Only [] w w' := Only.of_below hb
  exact ⟨A, c, svs, e, h1, ho.owns h2 (by simp), fun k hk hk2 => (h3 k hk hk2).only ho (by simp)⟩
theorem NodesOwn.block {w : World} {lo : Nat} {v : Value} {l : List Nd} (h : NodesOwn w lo v l) : ∀ k ∈ v.ownBlock.toList, NodeRow w k := by
  obtain ⟨A, c, svs, rfl, h1, h2, h3⟩ := h
  intro k hk
  exact own_row h2 (by simpa using hk)
theorem kid_flat {n : Nd} {ks : List Tr} {j : Nat} (hj : j < ks.length) : ks[j].flat.length < (Tr.mk n ks).flat.length := by
  have h : ∀ (ks : List Tr) (j : Nat) (hj : j < ks.length), ks[j].flat.length ≤ (flats ks).length := by
    intro ks
    induction ks with
    | nil => intro j hj; simp at hj
    | cons k r ih =>
      intro j hj
      rw [flats, List.length_append]
      cases j with
      | zero => simp
      | succ j => have := ih j (by simpa using hj); simp; omega
  have := h ks j hj
  rw [Tr.flat]; simp; omega
theorem fitss_get {L : List Nd} {p : Int} : ∀ {ks : List Tr}, Fitss L p ks → ∀ j (hj : j < ks.length), Fits L ks[j]
  | k :: r, h, 0, _ => by rw [Fitss] at h; exact h.2.1
  | k :: r, h, j + 1, hj => by rw [Fitss] at h; exact fitss_get h.2.2 j (by simpa using hj)
theorem flats_take (ks : List Tr) (j : Nat) (hj : j < ks.length) : flats (ks.take (j + 1)) = flats (ks.take j) ++ ks[j].flat := by
  rw [List.take_succ_eq_append_getElem hj, flats_append, flats, flats, List.append_nil]
theorem say_any {base t : Nat} {most : Int} {L : List Nd} (hL : L.length ≤ 1000) (lo : Nat) : ∀ (m : Nat) (T : Tr), T.flat.length ≤ m → Fits L T → ∀ (W : World) (v : Value) (l : List Nd), Tree W base t most L → NodesOwn W lo v l → lo ≤ W.heap.size → l.length + T.flat.length ≤ 100000 →
    Calls Tryz.prog 45 #[.pointer (some ⟨t, 0, none⟩), v, .int .i64 T.n.id] W fun e w' => ∃ v', e = .returned v' ∧ NodesOwn w' lo v' (l ++ T.flat) ∧ Tree w' base t most L ∧ Only v.ownBlock.toList W w' ∧ (v'.ownBlock = v.ownBlock ∨ ∃ k, v'.ownBlock = some k ∧ W.heap.size ≤ k) := by
  intro m
  induction m with
  | zero => intro T hT; cases T with | mk n ks => rw [Tr.flat] at hT; simp at hT
  | succ m ih =>
    intro T hTm hF W v l hT hv hlo hbd
    cases T with
    | mk n ks =>
    have IH := Lib.hid ih
    clear ih
    rw [Fits] at hF
    obtain ⟨ha, hk, hFs⟩ := hF
    have FS := Lib.hid (fun j (hj : j < ks.length) => fitss_get hFs j hj)
    have LT := Lib.hid (fun j (hj : j < ks.length) => (show ks[j].flat.length ≤ m by have := kid_flat (n := n) hj; omega))
    have hfl : (Tr.mk n ks).flat = n :: flats ks := by rw [Tr.flat]
    rw [hfl] at hbd ⊢
    have hnm : n ∈ L := (at_some ha).1
    have hrg := hT.ok.rng n hnm
    have hI : In64i n.id := by unfold In64i; omega
    have TN := Lib.hid (tnode_any hT hI ha)
    obtain ⟨A, c, svs, rfl, h1, ho, h3⟩ := hv
    have HO := Lib.hid ho
    have H3 := Lib.hid h3
    have T0 := Lib.hid hT
    obtain ⟨i0, hi, hz0, hz1, hz2⟩ := info_parts nodeInfo
    clear hT ho h3 hFs hTm
    show Calls Tryz.prog _ #[.pointer (some ⟨t, 0, none⟩), .slice A l.length c, .int .i64 n.id] W _
    go_enter Tryz.func45, Tryz.ntmps45
    go_wp2_with fail
    refine TN.out.mono ?_
    rintro e w1 ⟨⟨A1, c1, rfl, hs1⟩, hb⟩
    have B1 := Lib.hid hb
    have S1 := Lib.hid hs1
    clear hb hs1 TN
    go_upto_region 2 with fail
    have P2 := Lib.hid (Whole.mk w1 32 (nodeC n (.slice A1 n.sty.length c1)).toArray)
    have b12 : Below w1.heap.size w1 (w1.alloc (.cells (nodeC n (.slice A1 n.sty.length c1)).toArray 32)) := (Below.refl _ _).alloc (Nat.le_refl _) _
    have B2 := Lib.hid (B1.out.trans (b12.mono B1.out.size))
    have S2 := Lib.hid (S1.out.only (Only.of_below (S := []) b12) (by simp))
    clear b12 B1 S1
    unfold nodeC at P2 B2 S2
    generalize w1.alloc _ = w2 at *
    generalize w1.heap.size = q at *
    have c0 : w2.cell? ⟨q, 0, none⟩ = some (.int .i64 n.id) := P2.out.cell 0
    have c1' : w2.cell? ⟨q, 1, none⟩ = some (.int .i64 n.par) := P2.out.cell 1
    have c2' : w2.cell? ⟨q, 2, none⟩ = some (.bool n.tx) := P2.out.cell 2
    have c3' : w2.cell? ⟨q, 3, none⟩ = some (.string n.dat) := P2.out.cell 3
    have c4' : w2.cell? ⟨q, 4, none⟩ = some (.slice A1 n.sty.length c1) := P2.out.cell 4
    have b23 : Below w2.heap.size w2 (w2.alloc (.cells #[.int .i64 n.id, .int .i64 n.par, .bool n.tx, .string n.dat, .slice A1 n.sty.length c1] 32)) := (Below.refl _ _).alloc (Nat.le_refl _) _
    have B3 := Lib.hid (B2.out.trans (b23.mono B2.out.size))
    have S3 := Lib.hid (S2.out.only (Only.of_below (S := []) b23) (by simp))
    have O3 := Lib.hid ((Only.of_below (S := []) B3.out).owns HO.out (by simp))
    have T3 := Lib.hid (T0.out.behind B3.out)
    have P3 := Lib.hid (Whole.mk w2 32 #[.int .i64 n.id, .int .i64 n.par, .bool n.tx, .string n.dat, .slice A1 n.sty.length c1])
    clear b23 P2 B2 S2
    go_upto_region 3 with (at_builtin; refine wpList_append_own_at _ rfl (.tmp 17) (.tmp 19) 23 rfl lo 32 i0 (.agg #[.int .i64 0, .int .i64 0, .bool false, .string ⟨#[]⟩, .slice none 0 0]) 5 64 Tryz.underlying23 hi hz0 hz1 hz2 rfl (by decide) _ l.length (rowsC l svs) rfl O3.out ⟨w2.heap.size, 0, none⟩ 1 1 (nodeC n (.slice A1 n.sty.length c1)) rfl rfl ?_ (node_one n) (by unfold maxLen; simp at hbd; omega) (by simp at hbd; omega) (by have := B3.out.size; omega) ?_; (focus (intro j u hj; rw [head_add]; exact (P3.out.cell j).trans hj)); intro v4 w4 g1 g2 g3 g4; have Q1 := Lib.hid g1; have Q2 := Lib.hid (Only.of_grown g2); have Q4 := Lib.hid g4; clear g1 g2 g3 g4)
    have rowsQ : ∀ k ∈ (Value.slice A l.length c).ownBlock.toList, NodeRow (w2.alloc (.cells #[.int .i64 n.id, .int .i64 n.par, .bool n.tx, .string n.dat, .slice A1 n.sty.length c1] 32)) k := fun k hk => own_row O3.out (by simpa using hk)
    have O4 := Lib.hid ((Only.of_below (S := (Value.slice A l.length c).ownBlock.toList) B3.out).trans Q2.out (fun x hx => .inl hx))
    have T4 := Lib.hid (T3.out.rows Q2.out rowsQ)
    have S4 := Lib.hid ((S3.out.rows Q2.out rowsQ).mono hlo)
    have N4 := Lib.hid (NodesOwn.push h1 H3.out HO.out (n := n) (sv := .slice A1 n.sty.length c1) O4.out Q1.out S4.out)
    have K4 : Hid (v4.ownBlock = (Value.slice A l.length c).ownBlock ∨ ∃ k, v4.ownBlock = some k ∧ W.heap.size ≤ k) := Lib.hid (by
      rcases Q4.out with e | e
      · exact .inl e
      · exact .inr ⟨_, e, B3.out.size⟩)
    have KD := Lib.hid (tkids_any T4.out hI hrg.1 hL)
    rw [hk] at KD
    have zW4 : W.heap.size ≤ w4.heap.size := O4.out.size
    clear rowsQ Q1 Q2 Q4 T3 S3 O3 P3 B3 S4 H3 HO T0 c0 c1' c2' c3' c4'
    generalize w2.alloc _ = w3 at *
    go_wp2_with fail
    refine KD.out.mono ?_
    rintro e w5 ⟨kv, rfl, hkv, hb5⟩
    have T5 := Lib.hid (T4.out.behind hb5)
    have N5 := Lib.hid (N4.out.behind hb5)
    have O5 := Lib.hid (O4.out.trans (T := []) (Only.of_below hb5) (by simp))
    have I5 := Lib.hid hkv
    obtain ⟨Ak, ck, rfl, -, hkl⟩ := hkv
    generalize hbk : w4.heap.size = bk at *
    clear hb5 T4 N4 O4 KD
    have hml : (ks.map (·.n.id)).length = ks.length := by simp
    generalize hmk : (ks.map (·.n.id)).length = mk at *
    go_wp2_with fail
    go_loopw [1, 25] (fun v1 v25 wr => ∃ j : Nat, j ≤ ks.length ∧ v25 = .int .i64 j ∧ Hid (NodesOwn wr lo v1 (l ++ n :: flats (ks.take j))) ∧ Hid (Tree wr base t most L) ∧ Hid (IdsOwn wr bk (.slice Ak mk ck) (ks.map (·.n.id))) ∧ Hid (Only (Value.slice A l.length c).ownBlock.toList W wr) ∧ Hid (v1.ownBlock = (Value.slice A l.length c).ownBlock ∨ ∃ k, v1.ownBlock = some k ∧ W.heap.size ≤ k)) (fun v1 v25 _ => ks.length - (intOf v25).toNat)
    case atStart => exact ⟨0, Nat.zero_le _, rfl, by rw [List.take_zero, flats]; exact N5, T5, I5, O5, K4⟩
    case round =>
      clear T5 N5 O5 I5 K4
      obtain ⟨j, hj, rfl, hN, hT, hIk, hO, hK⟩ := hrel
      by_cases hlt : j < ks.length
      · obtain ⟨Ax, cx, ex, hx, -⟩ := hIk.out
        injection ex with ea eb ec
        subst ea ec
        obtain ⟨ad, rfl, hb, hc⟩ := (show Row wr wr.heap.size Ak (i64s (ks.map (·.n.id))) from row_of_own hx).int (show j < (ks.map (·.n.id)).length by rw [List.length_map]; exact hlt)
        have ez : (ks.map (·.n.id))[j]'(by rw [List.length_map]; exact hlt) = ks[j].n.id := by simp
        rw [ez] at hc
        have bdj : (l ++ n :: flats (ks.take j)).length + ks[j].flat.length ≤ 100000 := by
          have e1 := congrArg List.length (flats_take ks j hlt)
          have e2 : (flats ks).length = (flats (ks.take (j + 1))).length + (flats (ks.drop (j + 1))).length := by
            rw [← List.length_append, ← flats_append, List.take_append_drop]
          simp at e1 hbd ⊢
          omega
        have R := Lib.hid (IH.out ks[j] (LT.out j hlt) (FS.out j hlt) wr _ _ hT.out hN.out (by have := hO.out.size; omega) bdj)
        have FT := Lib.hid (show (l ++ n :: flats (ks.take j)) ++ ks[j].flat = l ++ n :: flats (ks.take (j + 1)) by rw [flats_take ks j hlt]; simp)
        rw [FT.out] at R
        clear FT bdj ez hx
        generalize ks[j].n.id = z at *
        go_wp2_with fail
        refine R.out.mono ?_
        rintro e w6 ⟨v6, rfl, r1, r2, r3, r4⟩
        have N6 := Lib.hid r1
        have T6 := Lib.hid r2
        have I6 := Lib.hid (hIk.out.rows r3 hN.out.block)
        have O6 := Lib.hid (hO.out.trans r3 (fun x hx => by
          rcases hK.out with e | ⟨k, e, hk'⟩
          · exact .inl (by rw [← e]; exact hx)
          · refine .inr ?_
            rw [e] at hx
            have : x = k := by simpa using hx
            omega))
        have K6 : Hid (v6.ownBlock = (Value.slice A l.length c).ownBlock ∨ ∃ k, v6.ownBlock = some k ∧ W.heap.size ≤ k) := Lib.hid (by
          rcases r4 with e | ⟨k, e, hk'⟩
          · rw [e]; exact hK.out
          · exact .inr ⟨k, e, by have := hO.out.size; omega⟩)
        clear r1 r2 r3 r4 R hN hT hIk hO hK hc
        go_wp2_with fail
        go_roundw
        case rel => exact ⟨j + 1, by omega, by go_num, N6, T6, I6, O6, K6⟩
        case measure => simp [intOf]; omega
      · have hq : j = ks.length := by omega
        have NX := Lib.hid (show NodesOwn wr lo _ (l ++ n :: flats ks) from by have := hN.out; rw [hq, List.take_length] at this; exact this)
        clear hN
        go_wp2_with fail
        go_ret
        exact ⟨_, rfl, NX.out, hT.out, hO.out, hK.out⟩
end Go.Proofs.YtbhdpfacfgldiaaGreatDoor
/- tree.Say. -/
namespace Go.Proofs.YtbhdpfacfgldiaaGreatDoor
open Go Go.RowKit
set_option linter.unusedVariables false
set_option linter.unusedSimpArgs false
set_option maxRecDepth 20000
set_option maxHeartbeats 2000000

theorem tsay_any {W : World} {base t : Nat} {most : Int} {L : List Nd} (hT : Tree W base t most L) (hL : L.length ≤ 1000) {T : Tr} (hf : T.flat = L) (hF : Fits L T) (h0 : T.n.id = 0) :
    Calls Tryz.prog 25 #[.pointer (some ⟨t, 0, none⟩)] W fun e w' => ∃ v, e = .returned v ∧ NodesOwn w' W.heap.size v L ∧ Tree w' base t most L ∧ Below W.heap.size W w' := by
  have HT := Lib.hid hT
  have HN := Lib.hid (tlen_any hT)
  have SY := Lib.hid (fun (w : World) (v : Value) (hT : Tree w base t most L) (hv : NodesOwn w W.heap.size v []) (hz : W.heap.size ≤ w.heap.size) => say_any (base := base) (t := t) (most := most) hL W.heap.size T.flat.length T (Nat.le_refl _) hF w v [] hT hv hz (by rw [hf]; simp; omega))
  rw [h0, List.nil_append, hf] at SY
  clear hT hF h0 hf
  obtain ⟨i0, hi, hz0, hz1, hz2⟩ := info_parts nodeInfo
  go_enter Tryz.func25, Tryz.ntmps25
  go_wp2_with fail
  refine HN.out.mono ?_
  rintro e w1 ⟨rfl, rfl⟩
  go_wp2_with (at_make; refine wpList_make_own _ rfl _ _ 23 rfl W.heap.size 32 i0 (.agg #[.int .i64 0, .int .i64 0, .bool false, .string ⟨#[]⟩, .slice none 0 0]) 5 Tryz.underlying23 hi hz0 hz1 .i64 .i64 _ L.length rfl rfl rfl (by rw [hz2]; omega) (by unfold maxLen; omega) (Nat.le_refl _) ?_; intro w2 r1 r2; have R1 := Lib.hid r1; have R2 := Lib.hid (Only.of_grown r2); clear r1 r2)
  have B2 : Hid (Below W.heap.size W w2) := Lib.hid (R2.out.below (by simp) (Nat.le_refl _))
  have T2 := Lib.hid (HT.out.behind B2.out)
  have N2 : Hid (NodesOwn w2 W.heap.size (.slice (some ⟨W.heap.size, 0, none⟩) 0 L.length) []) := Lib.hid ⟨_, _, [], rfl, rfl, R1.out, fun k hk => by simp at hk⟩
  refine (SY.out w2 _ T2.out N2.out B2.out.size).mono ?_
  rintro e w3 ⟨v, rfl, r1, r2, r3, -⟩
  have Q1 := Lib.hid r1
  have Q2 := Lib.hid r2
  have Q3 : Hid (Below W.heap.size W w3) := Lib.hid (B2.out.trans (r3.below (by intro x hx; simp [Value.ownBlock] at hx; omega) B2.out.size))
  clear r1 r2 r3 SY
  go_wp2
  go_ret
  exact ⟨_, rfl, Q1.out, Q2.out, Q3.out⟩
end Go.Proofs.YtbhdpfacfgldiaaGreatDoor
/- quoinref4.Same of two lists that read alike. -/
namespace Go.Proofs.YtbhdpfacfgldiaaGreatDoor
open Go Go.RowKit
set_option linter.unusedVariables false
set_option linter.unusedSimpArgs false
set_option maxRecDepth 20000
set_option maxHeartbeats 1000000

theorem dsame_any (l : List Dc) (s1 s2 : Value) (W : World) (h1 : StyAt W s1 l) (h2 : StyAt W s2 l) :
    Calls Tryz.prog 44 #[s1, s2] W fun e w' => e = .returned (.bool true) ∧ Below W.heap.size W w' := by
  obtain ⟨A, ca, rfl, hA, hl, -⟩ := h1
  obtain ⟨B, cb, rfl, hB, -, -⟩ := h2
  have HA := Lib.hid hA
  have HB := Lib.hid hB
  clear hA hB
  go_enter Tryz.func44, Tryz.ntmps44
  go_wp2
  go_loopw [5] (fun v5 wr => ∃ k : Nat, k ≤ l.length ∧ v5 = .int .i64 k ∧ Hid (Below W.heap.size W wr)) (fun v5 _ => l.length - (intOf v5).toNat)
  case atStart => exact ⟨0, Nat.zero_le _, rfl, Lib.hid (Below.refl _ _)⟩
  case round =>
    obtain ⟨k, hk, rfl, hb⟩ := hrel
    by_cases hlt : k < l.length
    · obtain ⟨ad, rfl, ha, a0, a1, a2, a3⟩ := ((HA.out.below hb.out).more hb.out.size).dec hlt
      obtain ⟨bd, rfl, hb', b0, b1, b2, b3⟩ := ((HB.out.below hb.out).more hb.out.size).dec hlt
      have hb := hb
      generalize l[k].p = z0 at *
      generalize l[k].w = z1 at *
      generalize l[k].k = z2 at *
      generalize l[k].n = z3 at *
      go_upto_region 6 with fail
      have ya0 : ∀ x : Later wr.heap.size wr, x.w.cell? (ad.add (k * 4)) = some (.int .i64 z0) := fun x => (Below.cell x.h (show (ad.add (k * 4) : Addr).block < wr.heap.size from by first | exact ha | (rw [add_block]; exact ha))).trans a0
      have ya1 : ∀ x : Later wr.heap.size wr, x.w.cell? (⟨(ad.add (k * 4)).block, (ad.add (k * 4)).off + 1, none⟩) = some (.int .i64 z1) := fun x => (Below.cell x.h (show (⟨(ad.add (k * 4)).block, (ad.add (k * 4)).off + 1, none⟩ : Addr).block < wr.heap.size from by first | exact ha | (rw [add_block]; exact ha))).trans a1
      have ya2 : ∀ x : Later wr.heap.size wr, x.w.cell? (⟨(ad.add (k * 4)).block, (ad.add (k * 4)).off + 2, none⟩) = some (.int .i64 z2) := fun x => (Below.cell x.h (show (⟨(ad.add (k * 4)).block, (ad.add (k * 4)).off + 2, none⟩ : Addr).block < wr.heap.size from by first | exact ha | (rw [add_block]; exact ha))).trans a2
      have ya3 : ∀ x : Later wr.heap.size wr, x.w.cell? (⟨(ad.add (k * 4)).block, (ad.add (k * 4)).off + 3, none⟩) = some (.int .i64 z3) := fun x => (Below.cell x.h (show (⟨(ad.add (k * 4)).block, (ad.add (k * 4)).off + 3, none⟩ : Addr).block < wr.heap.size from by first | exact ha | (rw [add_block]; exact ha))).trans a3
      have yb0 : ∀ x : Later wr.heap.size wr, x.w.cell? (bd.add (k * 4)) = some (.int .i64 z0) := fun x => (Below.cell x.h (show (bd.add (k * 4) : Addr).block < wr.heap.size from by first | exact hb' | (rw [add_block]; exact hb'))).trans b0
      have yb1 : ∀ x : Later wr.heap.size wr, x.w.cell? (⟨(bd.add (k * 4)).block, (bd.add (k * 4)).off + 1, none⟩) = some (.int .i64 z1) := fun x => (Below.cell x.h (show (⟨(bd.add (k * 4)).block, (bd.add (k * 4)).off + 1, none⟩ : Addr).block < wr.heap.size from by first | exact hb' | (rw [add_block]; exact hb'))).trans b1
      have yb2 : ∀ x : Later wr.heap.size wr, x.w.cell? (⟨(bd.add (k * 4)).block, (bd.add (k * 4)).off + 2, none⟩) = some (.int .i64 z2) := fun x => (Below.cell x.h (show (⟨(bd.add (k * 4)).block, (bd.add (k * 4)).off + 2, none⟩ : Addr).block < wr.heap.size from by first | exact hb' | (rw [add_block]; exact hb'))).trans b2
      have yb3 : ∀ x : Later wr.heap.size wr, x.w.cell? (⟨(bd.add (k * 4)).block, (bd.add (k * 4)).off + 3, none⟩) = some (.int .i64 z3) := fun x => (Below.cell x.h (show (⟨(bd.add (k * 4)).block, (bd.add (k * 4)).off + 3, none⟩ : Addr).block < wr.heap.size from by first | exact hb' | (rw [add_block]; exact hb'))).trans b3
      clear a0 a1 a2 a3 b0 b1 b2 b3
      refine region_lane [] [0, 1, 2, 3, 4, 5, 6, 7] [8] (by kernel_rfl) (by kernel_rfl) (fun _ _ _ _ _ h => h) ?_
      simp only [pick, List.map_nil]
      refine wpQuiet_nil ⟨rfl, ?_⟩
      simp only [List.map_cons, List.map_nil, List.getD_cons_zero, List.getD_cons_succ, List.drop_succ_cons, List.drop_zero]
      refine laneO_run 8 (by kernel_rfl) ?_
      simp only [List.take_succ_cons, List.take_zero, List.drop_succ_cons, List.drop_zero]
      repeat (go_big_quiet_step (fail))
      refine wpQuiet_nil ?_
      refine laneO_end0 rfl rfl fun w2 hb2 => ?_
      have B2 := Lib.hid (hb.out.trans (Below.mono hb2 hb.out.size))
      clear ya0 ya1 ya2 ya3 yb0 yb1 yb2 yb3
      go_wp2_with fail
      go_roundw
      case rel => exact ⟨k + 1, by omega, by go_num, B2⟩
      case measure => simp [intOf]; omega
    · go_wp2_with fail
      go_ret
      exact ⟨rfl, hb.out⟩
end Go.Proofs.YtbhdpfacfgldiaaGreatDoor
/- .. where some operations of the region float: they read what no other one of it turns, and may come up anywhere, among the tail, too. No program is named here. -/
namespace Go.Proofs.YtbhdpfacfgldiaaGreatDoor
set_option linter.unusedVariables false
set_option linter.unusedSimpArgs false
open Go Go.RowKit

section
variable {P : Program} {ops : Array Oper} {Q : Exit → Act → World → Prop} {md : Region.Mode} {C : World → Prop}

/-- Whatever order is picked, and every world between is one of the class. -/
def wpAnyC (P : Program) (md : Region.Mode) (ops : Array Oper) (Q : Exit → Act → World → Prop) (C : World → Prop) : Nat → Array Bool → Act → World → Prop
  | 0, listed, a, w => Region.ready md ops listed = [] ∧ Q .normal a w
  | f + 1, listed, a, w => (Region.ready md ops listed = [] → Q .normal a w) ∧ ∀ i ∈ Region.ready md ops listed, wpOp P ops Q i (fun a' w' => C w' ∧ wpAnyC P md ops Q C f (listed.setIfInBounds i true) a' w') a w
theorem wpAny_of_C : ∀ (f : Nat) (listed : Array Bool) (a : Act) (w : World), wpAnyC P md ops Q C f listed a w → wpAny P md ops Q f listed a w := by
  intro f
  induction f with
  | zero => intro listed a w h; exact h
  | succ f ih => intro listed a w h; exact ⟨h.1, fun i hi => wpOp_mono (fun a' w' h' => ih _ _ _ h'.2) (h.2 i hi)⟩

def YieldsC (P : Program) (ops : Array Oper) (C : World → Prop) (o : Oper) (v : Value) (a : Act) : Prop :=
  (Region.wanted o (yielded ops a.tmps) = true ∧ ∀ w, C w → (execOp a.eval o).run P w = .ok (.value v) w) ∨ (Region.wanted o (yielded ops a.tmps) = false ∧ v = undef)
theorem YieldsC.at_ {i : Nat} {o : Oper} {v : Value} {a : Act} (hi : ops[i]? = some o) (hy : YieldsC P ops C o v a) {K : Act → World → Prop} {w : World} (hC : C w) (h : K (a.put o.dst v) w) : wpOp P ops Q i K a w := by
  unfold wpOp
  simp only [hi]
  rcases hy with ⟨hw, hv⟩ | ⟨hw, rfl⟩
  · rw [if_pos hw]
    refine .inl ?_
    unfold Oper.wp
    rw [hv w hC]
    exact h
  · rw [if_neg (by rw [hw]; exact Bool.false_ne_true)]; exact h
theorem YieldsC.same {o : Oper} {v : Value} {a a' : Act} (hy : YieldsC P ops C o v a) (he : execOp a'.eval o = execOp a.eval o) (hw : Region.wanted o (yielded ops a'.tmps) = Region.wanted o (yielded ops a.tmps)) : YieldsC P ops C o v a' := by
  unfold YieldsC at *
  rw [he, hw]; exact hy
theorem wpOp_putC {j : Nat} {oi oj : Oper} {v : Value} (hj : ops[j]? = some oj) (hap : oi.apart ops oj = true) (hsi : ∀ cs b, oi.op ≠ .select cs b) (hsj : ∀ cs b, oj.op ≠ .select cs b)
    (hQ : ∀ c a w, Q (.panic c) (a.put oi.dst v) w → Q (.panic c) a w) {K : Act → World → Prop} {a : Act} {w : World} (hy : YieldsC P ops C oi v a) (h : wpOp P ops Q j K (a.put oi.dst v) w) :
    wpOp P ops Q j (fun a' w' => YieldsC P ops C oi v a' ∧ K (a'.put oi.dst v) w') a w := by
  obtain ⟨h1, h2, h3⟩ := Oper.apart_spec hap
  have keep : ∀ (b : Act), YieldsC P ops C oi v b → ∀ u, YieldsC P ops C oi v (b.put oj.dst u) := fun b hy u => hy.same (execOp_put oi hsi b oj.dst u h3) (wanted_put oi b oj.dst u h3)
  have hd : ∀ d, YieldsC P ops C oi v { a with defers := d :: a.defers } := fun d => hy.same rfl rfl
  unfold wpOp at *
  simp only [hj] at *
  rw [wanted_put oj a oi.dst v h1] at h
  by_cases hw : Region.wanted oj (yielded ops a.tmps) = true
  · rw [if_pos hw] at h ⊢
    rcases h with h | ⟨ha, hl⟩
    · refine .inl ?_
      unfold Oper.wp at *
      rw [execOp_put oj hsj a oi.dst v h1] at h
      generalize (execOp a.eval oj).run P w = r at *
      cases r with
      | halt x w' =>
        cases x <;> simp only [Oper.upon] at h ⊢
        exact hQ _ _ _ h
      | ok n w' =>
        cases n <;> simp only [Oper.upon] at h ⊢
        case value u => exact ⟨keep a hy u, by rw [← Act.put_comm a v u h2]; exact h⟩
        case skip => exact ⟨keep a hy _, by rw [← Act.put_comm a v undef h2]; exact h⟩
        case defer d =>
          refine ⟨keep _ (hd d) _, ?_⟩
          rw [← Act.put_comm _ v undef h2, ← Act.put_defers]
          exact h
        case enter f args =>
          refine Calls.mono h fun e w'' he => ?_
          cases e with
          | returned u => exact ⟨keep a hy u, by rw [← Act.put_comm a v u h2]; exact he⟩
          | panicked c => exact hQ _ _ _ he
          | outgrown => exact he
        case row row args => exact Rows.mono h fun u w'' he => ⟨keep a hy u, by rw [← Act.put_comm a v u h2]; exact he⟩
    · exact .inr ⟨by unfold Oper.asks at *; rw [execOp_put oj hsj a oi.dst v h1] at ha; exact ha, hl⟩
  · rw [if_neg hw] at h ⊢
    exact ⟨keep a hy _, by rw [← Act.put_comm a v undef h2]; exact h⟩
theorem floatC_first {i : Nat} {oi : Oper} {v : Value} (hi : ops[i]? = some oi) (hsel : ∀ (j : Nat) (o : Oper) cs b, ops[j]? = some o → o.op ≠ .select cs b) (hQ : ∀ c a w, Q (.panic c) (a.put oi.dst v) w → Q (.panic c) a w) (f : Nat) :
    ∀ (listed : Array Bool) (a : Act) (w : World), (∀ j oj, ops[j]? = some oj → j ≠ i → listed.getD j true = false → (∀ e ∈ oj.after, Region.binds md e = true → e.on ≠ i) → oi.apart ops oj = true) →
      i ∈ Region.ready md ops listed → YieldsC P ops C oi v a → C w → wpAnyC P md ops Q C f (listed.setIfInBounds i true) (a.put oi.dst v) w → wpAnyC P md ops Q C (f + 1) listed a w := by
  induction f with
  | zero =>
    intro listed a w _ hr hy hC H
    refine ⟨fun h => (by rw [h] at hr; cases hr), fun j hj => ?_⟩
    by_cases e : j = i
    · subst e; exact hy.at_ hi hC ⟨hC, H⟩
    · have := ready_mono hj e
      rw [H.1] at this; cases this
  | succ f ih =>
    intro listed a w hfree hr hy hC H
    refine ⟨fun h => (by rw [h] at hr; cases hr), fun j hj => ?_⟩
    by_cases e : j = i
    · subst e; exact hy.at_ hi hC ⟨hC, H⟩
    · have h1 := H.2 j (ready_mono hj e)
      obtain ⟨hjun, oj, hoj, hall⟩ := mem_ready.1 hj
      have hnot : ∀ x ∈ oj.after, Region.binds md x = true → x.on ≠ i := fun x hx hb heq => by
        have h2 := hall x hx hb
        rw [heq, getD_both (mem_ready.1 hr).1] at h2
        cases h2
      refine wpOp_mono (fun a' w' h3 => ⟨h3.2.1, ih (listed.setIfInBounds j true) a' w' (fun k ok hk hki hk1 hno => hfree k ok hk hki ?_ hno) (ready_mono hr (Ne.symm e)) h3.1 h3.2.1 ?_⟩)
        (wpOp_putC hoj (hfree j oj hoj e hjun hnot) (fun cs b => hsel i oi cs b hi) (fun cs b => hsel j oj cs b hoj) hQ hy h1)
      · by_cases hjk : j = k
        · subst hjk; exact hjun
        · rw [getD_set_ne true hjk] at hk1; exact hk1
      · rw [Array.setIfInBounds_comm _ _ e]; exact h3.2.2

/-- The tail, and every world between is one of the class. -/
def wpTail (P : Program) (ops : Array Oper) (Q : Exit → Act → World → Prop) (C : World → Prop) : List Oper → Act → World → Prop
  | [], a, w => Q .normal a w
  | o :: r, a, w => if Region.wanted o (yielded ops a.tmps) = true then o.wp P a w (fun a' w' => C w' ∧ wpTail P ops Q C r a' w') Q else C w ∧ wpTail P ops Q C r (a.put o.dst undef) w
theorem tail_step {o : Oper} {r : List Oper} {a : Act} {w : World} (hw : Region.wanted o (yielded ops a.tmps) = true) (h : ∀ K : Act → World → Prop, (∀ a' w', C w' → wpTail P ops Q C r a' w' → K a' w') → o.wp P a w K Q) : wpTail P ops Q C (o :: r) a w := by
  unfold wpTail
  rw [if_pos hw]
  exact h _ fun a' w' h1 h2 => ⟨h1, h2⟩
theorem tail_end {a : Act} {w : World} (h : Q .normal a w) : wpTail P ops Q C [] a w := h
/-- A call of one argument in the tail. -/
theorem tail_call1 {o : Oper} {r : List Oper} {a : Act} {w : World} {f : FuncId} {fn : Func} {c : Code} {t : Tmp} {x v : Value} {ts : Array TypeId} {X : World → Prop} (hop : o.op = .call { callee := .value (.func f), args := #[.tmp t], argTypes := ts })
    (hw : Region.wanted o (yielded ops a.tmps) = true) (hx : a.tmps.getD t undef = x) (hf : P.funcs[f]? = some fn) (hname : (fn.name == "runtime.NumGoroutine") = false) (hb : fn.body = some c)
    (h : Calls P f #[x] w fun e w' => e = .returned v ∧ X w') (hX : ∀ w', X w' → C w') (hr : ∀ w', X w' → wpTail P ops Q C r (a.put o.dst v) w') : wpTail P ops Q C (o :: r) a w :=
  tail_step hw fun K hK => by
    unfold Oper.wp
    rw [run_enter hop hf hname hb]
    have e : (#[Operand.tmp t]).map a.eval = #[x] := by simp [Act.eval, ← hx]
    rw [e]
    simp only [Oper.upon]
    refine h.mono fun e w' he => ?_
    obtain ⟨rfl, hx'⟩ := he
    exact hK _ _ (hX _ hx') (hr _ hx')
theorem anyC_of_turn : ∀ (ts : List Nat) (L : Array Bool) (a : Act) (w : World), turnB md ops ts L = true → wpTail P ops Q C (ts.filterMap (ops[·]?)) a w → wpAnyC P md ops Q C ts.length L a w
  | [], _, _, _, hB, h => ⟨by simpa [turnB] using hB, h⟩
  | t :: r, L, a, w, hB, h => by
    simp only [turnB, Bool.and_eq_true, decide_eq_true_eq] at hB
    have ht : t ∈ Region.ready md ops L := by rw [hB.1]; simp
    have ho : ops[t]? = some (ops[t]'(mem_ready'.1 ht).2.1) := Array.getElem?_eq_getElem _
    rw [List.filterMap_cons_some ho] at h
    refine ⟨fun h1 => (by rw [hB.1] at h1; cases h1), fun i hi => ?_⟩
    rw [hB.1] at hi
    obtain rfl : i = t := by simpa using hi
    have hw : wpOp P ops Q i (fun a' w' => C w' ∧ wpTail P ops Q C (r.filterMap (ops[·]?)) a' w') a w := by
      unfold wpOp
      simp only [ho]
      unfold wpTail at h
      split
      · rename_i hw; rw [if_pos hw] at h; exact .inl h
      · rename_i hw; rw [if_neg hw] at h; exact h
    exact wpOp_mono (fun a' w' h' => ⟨h'.1, anyC_of_turn r _ a' w' hB.2 h'.2⟩) hw

/-- What floats, taken first. -/
theorem float_first {w : World} {f : Nat} {K : Act → Prop} (hs : Region.noSelect ops = true) (hQ : ∀ c (a : Act) (d : Tmp) v w, Q (.panic c) (a.put (some d) v) w → Q (.panic c) a w) (hC : C w) : ∀ (fl : List Nat) (L : Array Bool) (a : Act), pureB md ops fl L = true →
    wpQuiet P ops C K (fl.filterMap (ops[·]?)) a → (∀ a', K a' → wpAnyC P md ops Q C f (fl.foldl (fun L k => L.setIfInBounds k true) L) a' w) → wpAnyC P md ops Q C (fl.length + f) L a w
  | [], L, a, _, h, hK => by rw [show ([] : List Nat).length + f = f by simp]; exact hK a h
  | k :: r, L, a, hB, h, hK => by
    simp only [pureB, Bool.and_eq_true] at hB
    obtain ⟨⟨⟨hr, hf⟩, hp⟩, hB⟩ := hB
    cases ho : ops[k]? with
    | none => rw [ho] at hp; simp at hp
    | some o =>
      rw [ho] at hp
      simp only [Option.map_some, Option.getD_some] at hp
      rw [List.filterMap_cons_some ho] at h
      have hst : ∃ v, YieldsC P ops C o v a ∧ wpQuiet P ops C K (r.filterMap (ops[·]?)) (a.put o.dst v) := by
        simp only [wpQuiet] at h
        by_cases hw : Region.wanted o (yielded ops a.tmps) = true
        · rw [if_pos hw] at h
          obtain ⟨v, h1, h2⟩ := h
          exact ⟨v, .inl ⟨hw, fun w hC => simple_run hp (h1 w hC)⟩, h2⟩
        · rw [if_neg hw] at h
          exact ⟨undef, .inr ⟨by simpa using hw, rfl⟩, h⟩
      obtain ⟨v, hy, hrest⟩ := hst
      rw [show (k :: r).length + f = (r.length + f) + 1 by simp; omega]
      exact floatC_first ho (Region.noSelect_spec hs) (fun c a w h' => by cases hd : o.dst with | none => rw [hd] at h'; exact h' | some d => rw [hd] at h'; exact hQ c a d v w h') _ L a w (Region.free_spec ho hf) (by simpa using hr) hy hC
        (float_first hs hQ hC r _ _ hB hrest (by simpa using hK))

section
variable {w0 : World} {a0 : Act} {L0 : Array Bool} {hs : List Nat} {E0 : Env} {Ts : Nat → Told} {g : Nat}
theorem anyC_of_mid (hB : laneB md ops a0.tmps.size L0 hs = true) (hE : ∀ t, Steady (E0 t)) (hO : ∀ pre k post, hs = pre ++ k :: post → ∃ o, ops[k]? = some o ∧ owes P ops w0 (envAt ops Ts pre E0) o (Ts k))
    (hF : ∀ a w, Behind w0 w → a.defers = a0.defers → a.tmps.size = a0.tmps.size → (∀ t, envAt ops Ts hs E0 t (a.tmps.getD t undef) w) → wpAnyC P md ops Q (Behind w0) g (listedAll ops L0 hs) a w) :
    ∀ (f : Nat) (listed : Array Bool) (a : Act) (w : World), (hs.filter fun k => !listed.getD k false).length = f → Mid md ops w0 a0 L0 hs E0 Ts listed a w → wpAnyC P md ops Q (Behind w0) (f + g) listed a w := by
  have hT : ∀ k ∈ hs, Steady (Ts k) := fun k hk => by
    obtain ⟨pre, post, e⟩ := List.append_of_mem hk
    obtain ⟨o, _, h⟩ := hO pre k post e
    exact h.1
  intro f
  induction f with
  | zero =>
    intro listed a w hf m
    obtain ⟨hL, hend⟩ := m.done hf
    rw [Nat.zero_add, hL]
    exact hF a w m.behind m.defers m.tsize hend
  | succ f ih =>
    intro listed a w hf m
    rw [show f + 1 + g = (f + g) + 1 by omega]
    refine ⟨fun h0 => (m.more hB (by omega) h0).elim, fun k hk => ?_⟩
    obtain ⟨hks, hlen⟩ := m.turn hB (by omega) hk
    obtain ⟨pre, post, e⟩ := List.append_of_mem hks
    obtain ⟨o, ho, _, hob⟩ := hO pre k post e
    have hm := m.meets hB e hk
    have hlk : looksOf ops k = o.looksAt ops := by simp [looksOf, ho]
    have hdk : dstOf ops k = o.dst := by simp [dstOf, ho]
    rw [hlk] at hm
    have hgo : ∀ K : Act → World → Prop, (∀ v w', Behind w w' → Ts k v w' → K (a.put o.dst v) w') → wpOp P ops Q k K a w := fun K hK => (hob a w m.behind hm).elim (fun h => wpOp_of_gives ho h hK) fun h => wpOp_of_givesBy ho h hK
    refine hgo _ fun v w' hb hv => ⟨m.behind.trans hb, ?_⟩
    rw [← hdk]
    exact ih _ _ _ (by omega) (m.step hB hE hT hks hk hb hv)
end
end

def finTail (P : Program) (ops : Array Oper) (w0 : World) (Q : Exit → Act → World → Prop) (tail : List Oper) (a1 : Act) (E : Env) : Prop :=
  ∀ a' w', Behind w0 w' → a'.defers = a1.defers → a'.tmps.size = a1.tmps.size → (∀ t, E t (a'.tmps.getD t undef) w') → wpTail P ops Q (Behind w0) tail a' w'
theorem laneO_tail {P : Program} {ops : Array Oper} {Q : Exit → Act → World → Prop} {w0 : World} {a : Act} {F : List (Tmp × Told)} {tail : List Oper} {a1 : Act} (hn : (F.map (·.1)).Nodup) (hl : (F.all fun x => decide (x.1 < a.tmps.size)) = true) (hd : a.defers = a1.defers) (hs : a.tmps.size = a1.tmps.size)
    (h : ∀ w', Behind w0 w' → fillAll F a w' fun a'' => wpTail P ops Q (Behind w0) tail a'' w') : laneO P ops w0 (finTail P ops w0 Q tail a1) [] (envOf a F) :=
  fun a' w' hb h1 h2 hm => fill_spec F a hn (by simpa using hl) (h1.trans hd.symm) (h2.trans hs.symm) hm (h w' hb)
def topFB (ops : Array Oper) (size : Nat) (ps fl hs ts : List Nat) : Bool :=
  Region.noSelect ops && pureB .any ops ps (Array.replicate ops.size false) && pureB .any ops fl (firstAll ops.size ps) && laneB .any ops size (firstAll ops.size (ps ++ fl)) hs && turnB .any ops ts (listedAll ops (firstAll ops.size (ps ++ fl)) hs) && decide (ps.length + (fl.length + (hs.length + ts.length)) = ops.size)
/-- A region that draws its order: ps hang on no world; fl read what stands; hs by promises; then the tail ts in its order. -/
theorem region_float {P : Program} {id : Nat} {Q : Exit → Act → World → Prop} {a : Act} {w : World} {l : List Oper} (ps fl hs ts : List Nat) (hm : P.follows .mixedOrders = true) (hB : topFB l.toArray a.tmps.size ps fl hs ts = true)
    (hQ : ∀ c (a : Act) (d : Tmp) v w, Q (.panic c) (a.put (some d) v) w → Q (.panic c) a w)
    (h : wpQuiet P l.toArray (fun _ => True) (fun a1 => wpQuiet P l.toArray (fun w' => ∃ s : Later w.heap.size w, w' = s.w) (fun a2 => a2.tmps.size = a.tmps.size ∧ laneO P l.toArray w (finTail P l.toArray w Q (pick l ts) a2) (pick l hs) (envOf a2 [])) (pick l fl) a1) (pick l ps) a) : (Code.region id l.toArray true).wp P Q a w := by
  simp only [topFB, Bool.and_eq_true, decide_eq_true_eq] at hB
  obtain ⟨⟨⟨⟨⟨hsel, hp⟩, hfl⟩, hl⟩, hseq⟩, hlen⟩ := hB
  refine wp_region_any hm ?_
  have hcl := closed_fold (md := .any) (ops := l.toArray) ps (Array.replicate l.toArray.size false) (by simp) (fun i hi => by rw [getD_replicate_false] at hi; cases hi) hp
  have hcl2 := closed_fold (md := .any) (ops := l.toArray) fl (firstAll l.toArray.size ps) hcl.2 hcl.1 hfl
  have hfold : fl.foldl (fun L k => L.setIfInBounds k true) (firstAll l.toArray.size ps) = firstAll l.toArray.size (ps ++ fl) := by simp [firstAll, List.foldl_append]
  rw [hfold] at hcl2
  have key : ∀ fuel, fuel = ps.length + (fl.length + (hs.length + ts.length)) → wpAny P .any l.toArray Q fuel (Array.replicate l.toArray.size false) a { w with drawn := w.drawn + 1 } := by
    intro fuel hfuel
    rw [hfuel]
    rw [← pick_eq ps (by simpa using pure_lt ps _ hp)] at h
    refine pure_first hsel hQ ps _ a hp h fun a1 h1 => ?_
    rw [← pick_eq fl (by simpa using pure_lt fl _ hfl)] at h1
    refine wpAny_of_C (C := Behind w) _ _ _ _ (float_first hsel hQ (Behind.drawn w) fl _ a1 hfl (wpQuiet_class (fun w' => ⟨fun hb => ⟨⟨w', hb⟩, rfl⟩, fun ⟨s, e⟩ => e ▸ s.h⟩) _ _ h1) fun a2 ⟨hs2, h2⟩ => ?_)
    show wpAnyC P .any l.toArray Q (Behind w) _ (fl.foldl (fun L k => L.setIfInBounds k true) (firstAll l.toArray.size ps)) a2 _
    rw [hfold]
    have hl' : ∀ k ∈ hs, k < l.toArray.size := fun k hk => by
      simp only [laneB, Bool.and_eq_true] at hl
      obtain ⟨⟨⟨_, _⟩, hh⟩, _⟩ := hl
      simp only [headB, List.all_eq_true, Bool.and_eq_true, decide_eq_true_eq] at hh
      exact (hh k hk).1.1
    rw [← pick_eq hs (by simpa using hl'), ← pick_eq ts (by simpa using turn_lt ts _ hseq)] at h2
    have hpairs : hs.Nodup := by
      simp only [laneB, Bool.and_eq_true] at hl
      exact (pairsB_spec hs hl.1.1.1).1
    obtain ⟨Ts, hO, hF⟩ := lane_all hs _ hpairs (lane_of_laneO hs _ hl' h2)
    have hh' : ∀ k ∈ hs, (firstAll l.toArray.size (ps ++ fl)).getD k false = false := fun k hk => by
      simp only [laneB, Bool.and_eq_true] at hl
      obtain ⟨⟨⟨_, _⟩, hh⟩, _⟩ := hl
      simp only [headB, List.all_eq_true, Bool.and_eq_true] at hh
      simpa using (hh k hk).2
    have hfil : (hs.filter fun k => !(firstAll l.toArray.size (ps ++ fl)).getD k false).length = hs.length := by
      rw [List.filter_eq_self.2]
      intro k hk
      simp only [hh' k hk, Bool.not_false]
    refine anyC_of_mid (w0 := w) (a0 := a2) (E0 := envOf a2 []) (Ts := Ts) (g := ts.length) (by rw [hs2]; exact hl) (envOf_steady (by intro x hx; cases hx)) hO (fun a' w' hb hd hsz' hm' => anyC_of_turn ts _ a' w' hseq (hF a' w' hb hd hsz' hm')) hs.length _ a2 _ hfil
      ⟨Behind.drawn w, hcl2.2, rfl, rfl, hcl2.1, fun _ h => h, fun _ h => .inl h, fun t k hk hlk => ?_, fun t _ => by simp [envOf]⟩
    rw [hh' k hk] at hlk
    cases hlk
  exact key _ hlen.symm
end Go.Proofs.YtbhdpfacfgldiaaGreatDoor
/- quoinref6.Same of two rows of nodes that read alike. -/
namespace Go.Proofs.YtbhdpfacfgldiaaGreatDoor
open Go Go.RowKit
set_option linter.unusedVariables false
set_option linter.unusedSimpArgs false
set_option maxRecDepth 20000
set_option maxHeartbeats 2000000

/-- A row of nodes that reads so. -/
def NodesSee (w : World) (v : Value) (l : List Nd) : Prop := ∃ A c svs, v = .slice A l.length c ∧ svs.length = l.length ∧ l.length ≤ 1000000 ∧ Row w w.heap.size A (rowsC l svs) ∧ ∀ k (h : k < l.length) (h2 : k < svs.length), StyAt w svs[k] l[k].sty
theorem NodesOwn.see {w : World} {lo : Nat} {v : Value} {l : List Nd} (h : NodesOwn w lo v l) (hl : l.length ≤ 1000000) : NodesSee w v l := by
  obtain ⟨A, c, svs, e, h1, h2, h3⟩ := h
  exact ⟨A, c, svs, e, h1, hl, row_of_own h2, fun k hk hk2 => (h3 k hk hk2).at_⟩
theorem NodesLow.see {w : World} {B : Nat} {A : Option Addr} {c : Nat} {l : List Nd} {svs : List Value} (h : NodesLow w B A l svs) (hB : B ≤ w.heap.size) : NodesSee w (.slice A l.length c) l :=
  ⟨A, c, svs, rfl, h.len, h.few, h.row.more hB, fun k hk hk2 => (h.sty k hk).at_ hB⟩
theorem Row.ndr {w : World} {B : Nat} {A : Option Addr} {l : List Nd} {svs : List Value} (h : Row w B A (rowsC l svs)) (hs : svs.length = l.length) {k : Nat} (hk : k < l.length) (hk2 : k < svs.length) :
    ∃ ad, A = some ad ∧ ad.block < B ∧ w.cell? (ad.add (k * 5)) = some (.int .i64 l[k].id) ∧ w.cell? ⟨(ad.add (k * 5)).block, (ad.add (k * 5)).off + 1, none⟩ = some (.int .i64 l[k].par) ∧
      w.cell? ⟨(ad.add (k * 5)).block, (ad.add (k * 5)).off + 2, none⟩ = some (.bool l[k].tx) ∧ w.cell? ⟨(ad.add (k * 5)).block, (ad.add (k * 5)).off + 3, none⟩ = some (.string l[k].dat) ∧ w.cell? ⟨(ad.add (k * 5)).block, (ad.add (k * 5)).off + 4, none⟩ = some svs[k] := by
  have hl := rowsC_length l svs hs
  obtain ⟨ad, e, hb, hc⟩ := h (by omega)
  have at_ : ∀ j, j < 5 → ∀ v, (nodeC l[k] svs[k])[j]? = some v → w.cell? (ad.add (k * 5 + j)) = some v := fun j hj v hv => by
    have h1 : k * 5 + j < (rowsC l svs).length := by omega
    rw [hc _ h1]
    have h2 := rowsC_get l svs hs k hk j hj
    rw [List.getElem?_eq_getElem h1, hv] at h2
    exact h2
  have far : ∀ j, 0 < j → (⟨(ad.add (k * 5)).block, (ad.add (k * 5)).off + j, none⟩ : Addr) = ad.add (k * 5 + j) := fun j hj => by
    have : (ad.add (k * 5)).add j = ad.add (k * 5 + j) := add_of_add _ _ _
    rw [← this]
    generalize ad.add (k * 5) = b
    unfold Addr.add
    rw [if_neg (by omega)]
  refine ⟨ad, e, hb, ?_, ?_, ?_, ?_, ?_⟩
  · exact at_ 0 (by omega) _ rfl
  · rw [far 1 (by omega)]; exact at_ 1 (by omega) _ rfl
  · rw [far 2 (by omega)]; exact at_ 2 (by omega) _ rfl
  · rw [far 3 (by omega)]; exact at_ 3 (by omega) _ rfl
  · rw [far 4 (by omega)]; exact at_ 4 (by omega) _ rfl
theorem nsame_any (l : List Nd) (v1 v2 : Value) (W : World) (h1 : NodesSee W v1 l) (h2 : NodesSee W v2 l) :
    Calls Tryz.prog 19 #[v1, v2] W fun e w' => e = .returned (.bool true) ∧ Below W.heap.size W w' := by
  obtain ⟨A, ca, sa, rfl, la, hl, hA, ga⟩ := h1
  obtain ⟨B, cb, sb, rfl, lb, -, hB, gb⟩ := h2
  have HA := Lib.hid hA
  have HB := Lib.hid hB
  have GA := Lib.hid ga
  have GB := Lib.hid gb
  clear hA hB ga gb
  go_enter Tryz.func19, Tryz.ntmps19
  go_wp2
  go_loopw [5] (fun v5 wr => ∃ k : Nat, k ≤ l.length ∧ v5 = .int .i64 k ∧ Hid (Below W.heap.size W wr)) (fun v5 _ => l.length - (intOf v5).toNat)
  case atStart => exact ⟨0, Nat.zero_le _, rfl, Lib.hid (Below.refl _ _)⟩
  case round =>
    obtain ⟨k, hk, rfl, hb⟩ := hrel
    by_cases hlt : k < l.length
    · obtain ⟨ad, rfl, ha, a0, a1, a2, a3, a4⟩ := ((HA.out.below hb.out).more hb.out.size).ndr la hlt (by omega)
      obtain ⟨bd, rfl, hb3, b0, b1, b2, b3, b4⟩ := ((HB.out.below hb.out).more hb.out.size).ndr lb hlt (by omega)
      have SA := (GA.out k hlt (by omega)).below hb.out
      have SB := (GB.out k hlt (by omega)).below hb.out
      have SAH := Lib.hid SA
      have SBH := Lib.hid SB
      generalize sa[k] = xa at *
      generalize sb[k] = xb at *
      obtain ⟨As, cs, rfl, -⟩ := SA
      obtain ⟨Bs, ds, rfl, -⟩ := SB
      have DS := Lib.hid (fun w (hw : Below wr.heap.size wr w) => dsame_any l[k].sty _ _ w (SAH.out.below hw) (SBH.out.below hw))
      have DS2 := Lib.hid (fun w (hw : Below wr.heap.size wr w) => dsame_any l[k].sty _ _ w (SBH.out.below hw) (SBH.out.below hw))
      clear SAH SBH
      generalize l[k].id = z0 at *
      generalize l[k].par = z1 at *
      generalize l[k].tx = z2 at *
      generalize l[k].dat = z3 at *
      generalize l[k].sty.length = m at *
      go_upto_region 6 with fail
      have ya0 : ∀ x : Later wr.heap.size wr, x.w.cell? (ad.add (k * 5)) = some (.int .i64 z0) := fun x => (Below.cell x.h (show (ad.add (k * 5) : Addr).block < wr.heap.size from by first | exact ha | (rw [add_block]; exact ha))).trans a0
      have ya1 : ∀ x : Later wr.heap.size wr, x.w.cell? (⟨(ad.add (k * 5)).block, (ad.add (k * 5)).off + 1, none⟩) = some (.int .i64 z1) := fun x => (Below.cell x.h (show (⟨(ad.add (k * 5)).block, (ad.add (k * 5)).off + 1, none⟩ : Addr).block < wr.heap.size from by first | exact ha | (rw [add_block]; exact ha))).trans a1
      have ya2 : ∀ x : Later wr.heap.size wr, x.w.cell? (⟨(ad.add (k * 5)).block, (ad.add (k * 5)).off + 2, none⟩) = some (.bool z2) := fun x => (Below.cell x.h (show (⟨(ad.add (k * 5)).block, (ad.add (k * 5)).off + 2, none⟩ : Addr).block < wr.heap.size from by first | exact ha | (rw [add_block]; exact ha))).trans a2
      have ya3 : ∀ x : Later wr.heap.size wr, x.w.cell? (⟨(ad.add (k * 5)).block, (ad.add (k * 5)).off + 3, none⟩) = some (.string z3) := fun x => (Below.cell x.h (show (⟨(ad.add (k * 5)).block, (ad.add (k * 5)).off + 3, none⟩ : Addr).block < wr.heap.size from by first | exact ha | (rw [add_block]; exact ha))).trans a3
      have ya4 : ∀ x : Later wr.heap.size wr, x.w.cell? (⟨(ad.add (k * 5)).block, (ad.add (k * 5)).off + 4, none⟩) = some (.slice As m cs) := fun x => (Below.cell x.h (show (⟨(ad.add (k * 5)).block, (ad.add (k * 5)).off + 4, none⟩ : Addr).block < wr.heap.size from by first | exact ha | (rw [add_block]; exact ha))).trans a4
      have yb0 : ∀ x : Later wr.heap.size wr, x.w.cell? (bd.add (k * 5)) = some (.int .i64 z0) := fun x => (Below.cell x.h (show (bd.add (k * 5) : Addr).block < wr.heap.size from by first | exact hb3 | (rw [add_block]; exact hb3))).trans b0
      have yb1 : ∀ x : Later wr.heap.size wr, x.w.cell? (⟨(bd.add (k * 5)).block, (bd.add (k * 5)).off + 1, none⟩) = some (.int .i64 z1) := fun x => (Below.cell x.h (show (⟨(bd.add (k * 5)).block, (bd.add (k * 5)).off + 1, none⟩ : Addr).block < wr.heap.size from by first | exact hb3 | (rw [add_block]; exact hb3))).trans b1
      have yb2 : ∀ x : Later wr.heap.size wr, x.w.cell? (⟨(bd.add (k * 5)).block, (bd.add (k * 5)).off + 2, none⟩) = some (.bool z2) := fun x => (Below.cell x.h (show (⟨(bd.add (k * 5)).block, (bd.add (k * 5)).off + 2, none⟩ : Addr).block < wr.heap.size from by first | exact hb3 | (rw [add_block]; exact hb3))).trans b2
      have yb3 : ∀ x : Later wr.heap.size wr, x.w.cell? (⟨(bd.add (k * 5)).block, (bd.add (k * 5)).off + 3, none⟩) = some (.string z3) := fun x => (Below.cell x.h (show (⟨(bd.add (k * 5)).block, (bd.add (k * 5)).off + 3, none⟩ : Addr).block < wr.heap.size from by first | exact hb3 | (rw [add_block]; exact hb3))).trans b3
      have yb4 : ∀ x : Later wr.heap.size wr, x.w.cell? (⟨(bd.add (k * 5)).block, (bd.add (k * 5)).off + 4, none⟩) = some (.slice Bs m ds) := fun x => (Below.cell x.h (show (⟨(bd.add (k * 5)).block, (bd.add (k * 5)).off + 4, none⟩ : Addr).block < wr.heap.size from by first | exact hb3 | (rw [add_block]; exact hb3))).trans b4
      clear a0 a1 a2 a3 a4 b0 b1 b2 b3 b4
      refine region_float [0, 1, 4, 5] [2, 3, 6, 7] [8, 9] [10, 11] (by kernel_rfl) (by kernel_rfl) (fun _ _ _ _ _ h => h) ?_
      simp only [pick, List.map_cons, List.map_nil, List.getD_cons_zero, List.getD_cons_succ, List.drop_succ_cons, List.drop_zero]
      repeat (go_big_quiet_step (fail))
      refine wpQuiet_nil ?_
      repeat (go_big_quiet_step (fail))
      refine wpQuiet_nil ⟨rfl, ?_⟩
      refine laneO_told (newT wr.heap.size 32 [.int .i64 0, .int .i64 0, .bool false, .string ⟨#[]⟩, .slice none 0 0]) (newT_steady _ _ _) (by kernel_rfl) rfl (fun w hw => .inl ⟨by rfl, ?_⟩) ?_
      focus (unfold gives; simp [go_sem]; exact newT_new wr.heap.size 32 #[.int .i64 0, .int .i64 0, .bool false, .string ⟨#[]⟩, .slice none 0 0] w hw.size)
      refine laneO_told (newT wr.heap.size 32 [.int .i64 0, .int .i64 0, .bool false, .string ⟨#[]⟩, .slice none 0 0]) (newT_steady _ _ _) (by kernel_rfl) rfl (fun w hw => .inl ⟨by rfl, ?_⟩) ?_
      focus (unfold gives; simp [go_sem]; exact newT_new wr.heap.size 32 #[.int .i64 0, .int .i64 0, .bool false, .string ⟨#[]⟩, .slice none 0 0] w hw.size)
      refine laneO_tail (by simp) (by rfl) rfl rfl fun w1 hb1 => ?_
      rintro x ⟨gb, rfl, hgb, hWb⟩ y ⟨ga, rfl, hga, hWa⟩
      simp only [Act.put, List.setIfInBounds_toArray, List.set_cons_zero, List.set_cons_succ, fillAll]
      clear ya0 ya1 ya2 ya3 ya4 yb0 yb1 yb2 yb3 yb4
      have ZA := Lib.hid hWa
      have ZB := Lib.hid hWb
      have B1 := Lib.hid (show Below wr.heap.size wr w1 from hb1)
      clear hWa hWb hb1
      refine tail_step (by rfl) fun K hK => ?_
      refine wp_store_row 32 (.tmp 6) (.tmp 22) rfl ga #[.int .i64 z0, .int .i64 z1, .bool z2, .string z3, .slice As m cs] rfl rfl 32 #[.int .i64 0, .int .i64 0, .bool false, .string ⟨#[]⟩, .slice none 0 0] ZA.out (by kernel_rfl) rfl (by simp [Value.oneCell']) ?_
      have Z2 := Lib.hid (setRow_heap w1 ga _ #[.int .i64 z0, .int .i64 z1, .bool z2, .string z3, .slice As m cs] _ _ ZA.out)
      have O2 : Hid (Only [ga] w1 (w1.setRow ga #[.int .i64 z0, .int .i64 z1, .bool z2, .string z3, .slice As m cs])) := Lib.hid ⟨rfl, rfl, rfl, by simp, fun k _ hk => setRow_other w1 ga k _ (by simpa using hk)⟩
      have B2 := Lib.hid (B1.out.trans (O2.out.below (by simp; omega) B1.out.size))
      have ZB2 : Hid (∃ old : List Value, old.length = 5 ∧ Whole (w1.setRow ga #[.int .i64 z0, .int .i64 z1, .bool z2, .string z3, .slice As m cs]) gb 32 old) := Lib.hid (by
        by_cases e : gb = ga
        · subst e; exact ⟨_, rfl, (show Whole _ _ _ [.int .i64 z0, .int .i64 z1, .bool z2, .string z3, .slice As m cs] from Z2.out)⟩
        · exact ⟨_, rfl, O2.out.whole ZB.out (by simp; exact e)⟩)
      refine hK _ _ B2.out ?_
      clear hK K
      generalize w1.setRow ga _ = w2 at *
      obtain ⟨old, hold, hZB⟩ := ZB2.out
      refine tail_step (by rfl) fun K hK => ?_
      refine wp_store_row 32 (.tmp 7) (.tmp 26) rfl gb #[.int .i64 z0, .int .i64 z1, .bool z2, .string z3, .slice Bs m ds] rfl rfl 32 old.toArray hZB (by kernel_rfl) (by simp [hold]) (by simp [Value.oneCell']) ?_
      have Z3 := Lib.hid (show Whole _ gb 32 [.int .i64 z0, .int .i64 z1, .bool z2, .string z3, .slice Bs m ds] from setRow_heap w2 gb _ #[.int .i64 z0, .int .i64 z1, .bool z2, .string z3, .slice Bs m ds] _ _ hZB)
      have O3 : Hid (Only [gb] w2 (w2.setRow gb #[.int .i64 z0, .int .i64 z1, .bool z2, .string z3, .slice Bs m ds])) := Lib.hid ⟨rfl, rfl, rfl, by simp, fun k _ hk => setRow_other w2 gb k _ (by simpa using hk)⟩
      have B3 := Lib.hid (B2.out.trans (O3.out.below (by simp; omega) B2.out.size))
      have ZA3 : Hid (∃ sv, (sv = .slice As m cs ∨ sv = .slice Bs m ds) ∧ Whole (w2.setRow gb #[.int .i64 z0, .int .i64 z1, .bool z2, .string z3, .slice Bs m ds]) ga 32 [.int .i64 z0, .int .i64 z1, .bool z2, .string z3, sv]) := Lib.hid (by
        by_cases e : ga = gb
        · subst e; exact ⟨_, .inr rfl, Z3.out⟩
        · exact ⟨_, .inl rfl, O3.out.whole (show Whole _ ga 32 [.int .i64 z0, .int .i64 z1, .bool z2, .string z3, .slice As m cs] from Z2.out) (by simp; exact e)⟩)
      refine hK _ _ B3.out ?_
      clear hK K
      refine tail_end ?_
      generalize w2.setRow gb _ = w3 at *
      obtain ⟨sv, hsv, hZA⟩ := ZA3.out
      have ZA3 := Lib.hid hZA
      clear hZA hZB
      have p0 : w3.cell? ⟨ga, 0, none⟩ = some (.int .i64 z0) := ZA3.out.cell 0
      have p1 : w3.cell? ⟨ga, 1, none⟩ = some (.int .i64 z1) := ZA3.out.cell 1
      have p2 : w3.cell? ⟨ga, 2, none⟩ = some (.bool z2) := ZA3.out.cell 2
      have p3 : w3.cell? ⟨ga, 3, none⟩ = some (.string z3) := ZA3.out.cell 3
      have p4 : w3.cell? ⟨ga, 4, none⟩ = some sv := ZA3.out.cell 4
      have q0 : w3.cell? ⟨gb, 0, none⟩ = some (.int .i64 z0) := Z3.out.cell 0
      have q1 : w3.cell? ⟨gb, 1, none⟩ = some (.int .i64 z1) := Z3.out.cell 1
      have q2 : w3.cell? ⟨gb, 2, none⟩ = some (.bool z2) := Z3.out.cell 2
      have q3 : w3.cell? ⟨gb, 3, none⟩ = some (.string z3) := Z3.out.cell 3
      have q4 : w3.cell? ⟨gb, 4, none⟩ = some (.slice Bs m ds) := Z3.out.cell 4
      have D3 : Hid (Calls Tryz.prog 44 #[sv, .slice Bs m ds] w3 fun e w' => e = .returned (.bool true) ∧ Below w3.heap.size w3 w') := Lib.hid (by
        rcases hsv with rfl | rfl
        · exact DS.out w3 B3.out
        · exact DS2.out w3 B3.out)
      go_wp2_with fail
      refine D3.out.mono ?_
      rintro e w4 ⟨rfl, hb4⟩
      have B4 := Lib.hid (hb.out.trans ((B3.out.trans (hb4.mono B3.out.size)).mono hb.out.size))
      clear hb4 DS D3 p0 p1 p2 p3 p4 q0 q1 q2 q3 q4 ZA3 Z3
      go_wp2_with fail
      go_roundw
      case rel => exact ⟨k + 1, by omega, by go_num, B4⟩
      case measure => simp [intOf]; omega
    · go_wp2_with fail
      go_ret
      exact ⟨rfl, hb.out⟩
end Go.Proofs.YtbhdpfacfgldiaaGreatDoor
/- quoinref6.New; plain nodes (elements without declarations) as rows. -/
namespace Go.Proofs.YtbhdpfacfgldiaaGreatDoor
open Go Go.RowKit
set_option linter.unusedVariables false
set_option linter.unusedSimpArgs false
set_option maxRecDepth 20000
set_option maxHeartbeats 4000000

theorem own_lit6 (w : World) (e : TypeId) (size : Nat) (cs : Array Value) (h : cs.size = size) : (w.alloc (.cells cs e)).ownsRow w.heap.size e size (.slice (some ⟨w.heap.size, 0, none⟩) 1 1) 1 cs.toList := by
  refine ⟨by simp [h], .inr ⟨w.heap.size, 1, cs, rfl, Nat.le_refl _, heap_alloc_new w _, Nat.le_refl _, by decide, by simp [h], ?_⟩⟩
  rw [List.take_of_length_le (by simp [h])]
abbrev noS : Value := .slice none 0 0
def plC (l : List Nd) : List Value := rowsC l (l.map fun _ => noS)
theorem plC_append (l : List Nd) (n : Nd) : plC (l ++ [n]) = plC l ++ nodeC n noS := by
  unfold plC
  rw [List.map_append]
  exact rowsC_append l _ (by rw [List.length_map]) n noS
theorem noS_own (w : World) (lo : Nat) : StyOwn w lo noS [] := ⟨none, 0, rfl, ⟨rfl, .inl ⟨rfl, rfl⟩⟩, by decide⟩
/-- A row of plain nodes of its own. -/
def PlOwn (w : World) (lo : Nat) (A : Option Addr) (n c : Nat) (l : List Nd) : Prop := w.ownsRow lo 32 5 (.slice A n c) n (plC l)
theorem PlOwn.see {w : World} {lo n c : Nat} {A : Option Addr} {l : List Nd} (h : PlOwn w lo A n c l) (hn : l.length = n) (hs : ∀ x ∈ l, x.sty = []) (hl : n ≤ 1000000) : NodesSee w (.slice A n c) l := by
  subst hn
  refine ⟨A, c, l.map fun _ => noS, rfl, by rw [List.length_map], hl, row_of_own h, fun k hk h2 => ?_⟩
  rw [List.getElem_map, hs _ (List.getElem_mem hk)]
  exact (noS_own w 0).at_
theorem PlOwn.low {w : World} {lo n c : Nat} {A : Option Addr} {l : List Nd} (h : PlOwn w lo A n c l) (hn : l.length = n) (hs : ∀ x ∈ l, x.sty = [] ∧ x.dat.size = 0 ∧ 0 ≤ x.id + 1 ∧ x.id ≤ 1000000 ∧ 0 ≤ x.par + 1 ∧ x.par ≤ 1000000) (hl : n ≤ 1000000) : NodesLow w w.heap.size A l (l.map fun _ => noS) := by
  refine ⟨by rw [List.length_map], row_of_own h, fun k hk => ?_, fun x hx => ?_, by omega⟩
  · rw [List.getElem_map, (hs _ (List.getElem_mem hk)).1]
    exact ⟨none, 0, rfl, Row.nil _ _ _, by decide, fun _ => rfl⟩
  · obtain ⟨h1, h2, h3, h4, h5, h6⟩ := hs x hx
    unfold In64i
    omega
theorem rtree_flat : FlatT Tryz.prog 40 2 := ⟨⟨_, Tryz.underlying40, rfl⟩, by kernel_rfl⟩
theorem rnew_any (most : Int) (W : World) : Calls Tryz.prog 27 #[.int .i64 most] W fun e w' => ∃ g, e = .returned (.agg #[.int .i64 (mostZ most), .slice (some ⟨g, 0, none⟩) 1 1]) ∧ PlOwn w' W.heap.size (some ⟨g, 0, none⟩) 1 1 [root0] ∧ Below W.heap.size W w' := by
  have E := Lib.hid (show min (max most 1) 500 = (mostZ most : Int) by unfold mostZ; omega)
  go_enter Tryz.func27, Tryz.ntmps27
  go_wp2_with fail
  rw [E.out]
  refine cells_end (n := 2) rtree_flat rfl W.heap.size rfl [.int .i64 (mostZ most), .slice (some ⟨W.heap.size + 1, 0, none⟩) 1 1] rfl 40 ?_ rfl ⟨W.heap.size + 1, rfl, ?_, ?_⟩
  · exact (Whole.mk W 40 #[.int .i64 (mostZ most), .slice (some ⟨W.heap.size + 1, 0, none⟩) 1 1]).made _
  · have := own_lit6 (W.alloc (.cells #[.int .i64 (mostZ most), .slice (some ⟨W.heap.size + 1, 0, none⟩) 1 1] 40)) 32 5 #[.int .i64 0, .int .i64 (-1), .bool false, .string ⟨#[]⟩, .slice none 0 0] rfl
    have hz : (W.alloc (.cells #[.int .i64 (mostZ most), .slice (some ⟨W.heap.size + 1, 0, none⟩) 1 1] 40)).heap.size = W.heap.size + 1 := by simp
    rw [hz] at this
    exact own_mono this (Nat.le_succ _)
  · exact ((Below.refl _ _).alloc (Nat.le_refl _) _).alloc (by simp) _
end Go.Proofs.YtbhdpfacfgldiaaGreatDoor
/- 'append' onto a row of the call's own, its place told: the old block, or a new one. No program is named here. -/
namespace Go.Proofs.YtbhdpfacfgldiaaGreatDoor
set_option linter.unusedVariables false
set_option linter.unusedSimpArgs false
open Go.RowKit

theorem own_raise {w : World} {b b' e size : Nat} {v : Value} {n : Nat} {xs : List Value} (h : w.ownsRow b e size v n xs) (hb : ∀ g, v.ownBlock = some g → b' ≤ g) : w.ownsRow b' e size v n xs := by
  refine ⟨h.1, ?_⟩
  rcases h.2 with h0 | ⟨g, cap, cur, hv, hg, rest⟩
  · exact .inl h0
  · exact .inr ⟨g, cap, cur, hv, hb g (by simp [hv, Value.ownBlock]), rest⟩
theorem own_zero {w : World} {b e size : Nat} {v : Value} {n : Nat} {xs : List Value} (h : w.ownsRow b e size v n xs) : w.ownsRow 0 e size v n xs := own_raise h fun _ _ => Nat.zero_le _
theorem own_low {w : World} {b e size : Nat} {v : Value} {n : Nat} {xs : List Value} (h : w.ownsRow b e size v n xs) : ∀ g, v.ownBlock = some g → b ≤ g := fun g hg => (h.lt g hg).1
theorem wpList_pushB {ops : Array Oper} {rest : List Oper} {o : Oper} {a : Act} {w : World} {Q : Exit → Act → World → Prop} {P : Program} (hw : Region.wanted o (yielded ops a.tmps) = true) (s x : Operand) (t : TypeId)
    (ho : o.op = .call { callee := .builtin .append, args := #[s, x], argTypes := #[t, t] })
    (base e size bytes : Nat) (z : Value) (ht : P.underlying t = some (.slice e)) (hinfo : (P.info? e).map (fun i => (i.zero, i.size, i.bytes)) = some (some z, size, bytes))
    (hzs : z.cells.size = size) (hsz : 0 < size) (n : Nat) (v : Value) (xs : List Value) (hs : a.eval s = v) (hown : w.ownsRow base e size v n xs) (hbase : base ≤ w.heap.size)
    (ad : Addr) (m c : Nat) (news : List Value) (hx : a.eval x = .slice (some ad) m c) (hl : news.length = m * size) (hm : 0 < m) (hnews : ∀ j u, news[j]? = some u → w.cell? (ad.add j) = some u) (h1 : ∀ u ∈ news, u.oneCell' = true)
    (h63 : n + m ≤ maxLen) (hbytes : (n + m) * bytes ≤ 140737488355328)
    (h : ∀ A' c' w', w'.ownsRow base e size (.slice A' (n + m) c') (n + m) (xs ++ news) → Only v.ownBlock.toList w w' → (∀ g, (Value.slice A' (n + m) c').ownBlock = some g → v.ownBlock = some g ∨ w.heap.size ≤ g) → wpList P ops Q rest (a.put o.dst (.slice A' (n + m) c')) w') : wpList P ops Q (o :: rest) a w :=
  wpList_wanted hw fun K hK => by
    obtain ⟨v', w', hr, h2, h3, h4⟩ := run_push (P := P) (w := w) t o.type z ht hinfo hzs hsz v (own_zero hown) ad m c news hl hm hnews h1 h63 hbytes
    obtain ⟨A', c', rfl, _⟩ := owns_nil h2
    have h5 := own_raise (b' := base) h2 fun g hg => by
      rcases h4 g hg with h6 | h6
      · exact own_low hown g h6
      · omega
    unfold Oper.wp execOp
    simp only [ho, resolve, invoke, builtin, Sem.run_bind, Sem.run_pure, Result.andThen_ok, List.map_toArray, List.map_cons, List.map_nil, hs, hx, hr]
    exact hK _ _ (h A' c' w' h5 (Only.of_grown h3) h4)
/-- One element of a literal that was just made. -/
theorem wpList_pushOne {ops : Array Oper} {rest : List Oper} {o : Oper} {a : Act} {w : World} {Q : Exit → Act → World → Prop} {P : Program} (hw : Region.wanted o (yielded ops a.tmps) = true) (s x : Operand) (t : TypeId)
    (ho : o.op = .call { callee := .builtin .append, args := #[s, x], argTypes := #[t, t] })
    (base e size bytes : Nat) (z : Value) (ht : P.underlying t = some (.slice e)) (hinfo : (P.info? e).map (fun i => (i.zero, i.size, i.bytes)) = some (some z, size, bytes))
    (hzs : z.cells.size = size) (hsz : 0 < size) (n : Nat) (v : Value) (xs : List Value) (hs : a.eval s = v) (hown : w.ownsRow base e size v n xs) (hbase : base ≤ w.heap.size)
    (g : Nat) (news : List Value) (hx : a.eval x = .slice (some ⟨g, 0, none⟩) 1 1) (hg : Whole w g e news) (hl : news.length = size) (h1 : ∀ u ∈ news, u.oneCell' = true)
    (h63 : n + 1 ≤ maxLen) (hbytes : (n + 1) * bytes ≤ 140737488355328)
    (h : ∀ A' c' w', w'.ownsRow base e size (.slice A' (n + 1) c') (n + 1) (xs ++ news) → Only v.ownBlock.toList w w' → (∀ g, (Value.slice A' (n + 1) c').ownBlock = some g → v.ownBlock = some g ∨ w.heap.size ≤ g) → wpList P ops Q rest (a.put o.dst (.slice A' (n + 1) c')) w') : wpList P ops Q (o :: rest) a w :=
  wpList_pushB hw s x t ho base e size bytes z ht hinfo hzs hsz n v xs hs hown hbase ⟨g, 0, none⟩ 1 1 news hx (by omega) (by decide) (fun j u hu => by rw [head_add, hg.cell j]; exact hu) h1 h63 hbytes h
theorem own_push {W w w' : World} {B : Nat} {v : Value} {e size n : Nat} {xs : List Value} (ho : w.ownsRow B e size v n xs) (hB : Below B W w) (hw : B ≤ w.heap.size) (h : Only v.ownBlock.toList w w') : Below B W w' :=
  hB.trans (h.below (fun x hx => (ho.lt x (by simpa using hx)).1) hw)
end Go.Proofs.YtbhdpfacfgldiaaGreatDoor
/- Two rows of the call's own, side by side. No program is named here. -/
namespace Go.Proofs.YtbhdpfacfgldiaaGreatDoor
open Go Go.RowKit
set_option linter.unusedVariables false
set_option linter.unusedSimpArgs false

structure TwoOwn (W w : World) (e s : TypeId × Nat) (v1 : Value) (n1 : Nat) (x1 : List Value) (v2 : Value) (n2 : Nat) (x2 : List Value) : Prop where
  one : w.ownsRow W.heap.size e.1 e.2 v1 n1 x1
  two : w.ownsRow W.heap.size s.1 s.2 v2 n2 x2
  far : ∀ g, v1.ownBlock = some g → v2.ownBlock ≠ some g
  low : Below W.heap.size W w
section
variable {W w w' : World} {e s : TypeId × Nat} {v1 v2 v' : Value} {n1 n2 : Nat} {x1 x2 xs : List Value}
theorem own_pushB {B : Nat} {v : Value} {e size n : Nat} {xs : List Value} (ho : w.ownsRow B e size v n xs) (hB : Below B W w) (hw : B ≤ w.heap.size) (h : Only v.ownBlock.toList w w') : Below B W w' :=
  hB.trans (h.below (fun x hx => (ho.lt x (by simpa using hx)).1) hw)
theorem TwoOwn.behind (h : TwoOwn W w e s v1 n1 x1 v2 n2 x2) (hb : Below w.heap.size w w') : TwoOwn W w' e s v1 n1 x1 v2 n2 x2 :=
  ⟨(Only.of_below (S := []) hb).owns h.one (by simp), (Only.of_below (S := []) hb).owns h.two (by simp), h.far, h.low.trans (hb.mono h.low.size)⟩
theorem TwoOwn.push1 (h : TwoOwn W w e s v1 n1 x1 v2 n2 x2) (ho : w'.ownsRow W.heap.size e.1 e.2 v' (n1 + 1) (x1 ++ xs)) (hn : Only v1.ownBlock.toList w w')
    (hk : ∀ g, v'.ownBlock = some g → v1.ownBlock = some g ∨ w.heap.size ≤ g) : TwoOwn W w' e s v' (n1 + 1) (x1 ++ xs) v2 n2 x2 :=
  ⟨ho, hn.owns h.two (fun g hg e => h.far g (by simpa using e) hg), fun g hg e => by
    rcases hk g hg with h1 | h1
    · exact h.far g h1 e
    · have := owns_lt h.two e; omega, own_pushB h.one h.low h.low.size hn⟩
theorem TwoOwn.push2 (h : TwoOwn W w e s v1 n1 x1 v2 n2 x2) (ho : w'.ownsRow W.heap.size s.1 s.2 v' (n2 + 1) (x2 ++ xs)) (hn : Only v2.ownBlock.toList w w')
    (hk : ∀ g, v'.ownBlock = some g → v2.ownBlock = some g ∨ w.heap.size ≤ g) : TwoOwn W w' e s v1 n1 x1 v' (n2 + 1) (x2 ++ xs) :=
  ⟨hn.owns h.one (fun g hg e => h.far g hg (by simpa using e)), ho, fun g hg e => by
    rcases hk g e with h1 | h1
    · exact h.far g hg h1
    · have := owns_lt h.one hg; omega, own_pushB h.two h.low h.low.size hn⟩
/-- A block of its own that is neither's. -/
theorem TwoOwn.off (h : TwoOwn W w e s v1 n1 x1 v2 n2 x2) {g : Nat} (hg : w.heap.size ≤ g) : v1.ownBlock ≠ some g ∧ v2.ownBlock ≠ some g :=
  ⟨fun e => by have := owns_lt h.one e; omega, fun e => by have := owns_lt h.two e; omega⟩
theorem TwoOwn.only {S : List Nat} (h : TwoOwn W w e s v1 n1 x1 v2 n2 x2) (ho : Only S w w') (hS : ∀ g ∈ S, v1.ownBlock ≠ some g ∧ v2.ownBlock ≠ some g ∧ W.heap.size ≤ g) : TwoOwn W w' e s v1 n1 x1 v2 n2 x2 :=
  ⟨ho.owns h.one fun g hg he => (hS g he).1 hg, ho.owns h.two fun g hg he => (hS g he).2.1 hg, h.far, h.low.trans (ho.below (fun g hg => (hS g hg).2.2) h.low.size)⟩
theorem TwoOwn.swap (h : TwoOwn W w e s v1 n1 x1 v2 n2 x2) : TwoOwn W w s e v2 n2 x2 v1 n1 x1 := ⟨h.two, h.one, fun g h2 h1 => h.far g h1 h2, h.low⟩
end
end Go.Proofs.YtbhdpfacfgldiaaGreatDoor
/- quoinref1.Held. -/
namespace Go.Proofs.YtbhdpfacfgldiaaGreatDoor
open Go.RowKit
set_option linter.unusedVariables false
set_option linter.unusedSimpArgs false

theorem rheld_any (n lo hi : Int) (w : World) :
    Calls Tryz.prog 91 #[.int .i64 n, .int .i64 lo, .int .i64 hi] w fun e w' => e = .returned (.int .i64 (min (max n lo) hi)) ∧ w = w' := by
  go_enter Tryz.func91, Tryz.ntmps91
  go_wp2
  all_goals (go_ret; exact ⟨ret_int (by first | rfl | omega), rfl⟩)
end Go.Proofs.YtbhdpfacfgldiaaGreatDoor
