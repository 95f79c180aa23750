import Derived.Test.YtbhdpfacfgldiaaGreatDoorZQ
import Derived.WalkKit
import Derived.Maps.AppendAt
import Derived.Test.YtbhdpfacfgldiaaGreatDoorProg
import Derived.Test.YtbhdpfacfgldiaaGreatDoorShelf
import Derived.Lib.Builder
import Derived.Lib.AppendStr
import Derived.OwnWalk
import Derived.BigRegion
import Derived.Lib.Hide
import Derived.LoopTactic
import Derived.Laws.Strings
import Derived.Lib.IndexBytes
/- nodes: what is asked of a tree, one node at a time. -/
namespace Go.Proofs.YtbhdpfacfgldiaaGreatDoor
open Go Go.RowKit
set_option linter.unusedVariables false
set_option linter.unusedSimpArgs false
set_option maxRecDepth 20000
set_option maxHeartbeats 4000000

theorem zeroPtr (w : World) : (zeroValue 83).run Tryz.prog w = .ok (.pointer none) w := by kernel_rfl
section
variable {w : World} {base t b : Nat} {most : Int} {L : List Nd} {f : Int → Option Nat} {sv kv : Int → Value}
theorem TreeAt.look (h : TreeAt w base t b most L f sv kv) {id : Int} (hi : In64i id) :
    (Instr.lookup 84 (.map (some b)) (.int .i64 id) false).run Tryz.prog w = .ok (ptrV (f id)) w :=
  h.mp.look Tryz.underlying3 Tryz.underlying84 (zeroPtr w) hi
theorem TreeAt.cells (h : TreeAt w base t b most L f sv kv) : w.cell? ⟨t, 0, none⟩ = some (.int .i64 most) ∧ w.cell? ⟨t, 1, none⟩ = some (.map (some b)) := ⟨h.hd.cell 0, h.hd.cell 1⟩
theorem TreeAt.node (h : TreeAt w base t b most L f sv kv) {id : Int} {n : Nd} (ha : atZ L id = some n) : ∃ g, f id = some g ∧ base ≤ g ∧ Whole w g 88 (ndC n (sv id) (kv id)) := by
  obtain ⟨hm, rfl⟩ := at_some ha
  obtain ⟨g, hg⟩ := h.there hm
  exact ⟨g, hg, h.nod n hm g hg⟩
end
theorem nhas_any {W : World} {base t : Nat} {most : Int} {L : List Nd} (hT : Tree W base t most L) {id : Int} (hi : In64i id) :
    Calls Tryz.prog 43 #[.pointer (some ⟨t, 0, none⟩), .int .i64 id] W fun e w' => e = .returned (.bool (hasZ L id)) ∧ W = w' := by
  obtain ⟨b, f, sv, kv, h⟩ := hT
  obtain ⟨c0, c1⟩ := h.cells
  have hl := h.look hi
  have hd := h.dom id
  clear h
  rw [← hd]
  cases hf : f id with
  | none =>
    rw [hf] at hl
    change (Instr.lookup 84 (.map (some b)) (.int .i64 id) false).run Tryz.prog W = .ok (.pointer none) W at hl
    go_enter Tryz.func43, Tryz.ntmps43
    go_wp2_with (rw [hl])
    go_ret
    exact ⟨rfl, rfl⟩
  | some g =>
    rw [hf] at hl
    change (Instr.lookup 84 (.map (some b)) (.int .i64 id) false).run Tryz.prog W = .ok (.pointer (some ⟨g, 0, none⟩)) W at hl
    go_enter Tryz.func43, Tryz.ntmps43
    go_wp2_with (rw [hl])
    go_ret
    exact ⟨rfl, rfl⟩
theorem nlen_any {W : World} {base t : Nat} {most : Int} {L : List Nd} (hT : Tree W base t most L) :
    Calls Tryz.prog 40 #[.pointer (some ⟨t, 0, none⟩)] W fun e w' => e = .returned (.int .i64 L.length) ∧ W = w' := by
  obtain ⟨b, f, sv, kv, h⟩ := hT
  obtain ⟨c0, c1⟩ := h.cells
  have hl := fun ty => h.mp.len Tryz.underlying84 ty
  clear h
  go_enter Tryz.func40, Tryz.ntmps40
  go_wp2_with (rw [hl])
  go_ret
  exact ⟨rfl, rfl⟩
theorem nparent_any {W : World} {base t : Nat} {most : Int} {L : List Nd} (hT : Tree W base t most L) {id : Int} (hi : In64i id) :
    Calls Tryz.prog 39 #[.pointer (some ⟨t, 0, none⟩), .int .i64 id] W fun e w' => e = .returned (.int .i64 (parZ L id)) ∧ W = w' := by
  obtain ⟨b, f, sv, kv, h⟩ := hT
  obtain ⟨c0, c1⟩ := h.cells
  have hl := h.look hi
  cases ha : atZ L id with
  | none =>
    have hn : hasZ L id = false := by unfold hasZ; rw [ha]; rfl
    rw [h.gone hn] at hl
    change (Instr.lookup 84 (.map (some b)) (.int .i64 id) false).run Tryz.prog W = .ok (.pointer none) W at hl
    have hp : parZ L id = -1 := par_no hn
    clear h
    go_enter Tryz.func39, Tryz.ntmps39
    go_wp2_with (rw [hl])
    go_ret
    exact ⟨ret_int hp.symm, rfl⟩
  | some n =>
    obtain ⟨g, hg, -, hw⟩ := h.node ha
    rw [hg] at hl
    change (Instr.lookup 84 (.map (some b)) (.int .i64 id) false).run Tryz.prog W = .ok (.pointer (some ⟨g, 0, none⟩)) W at hl
    have hp : parZ L id = n.par := by unfold parZ; rw [ha]
    have d1 : W.cell? ⟨g, 1, none⟩ = some (.int .i64 n.par) := hw.cell 1
    clear h hw
    go_enter Tryz.func39, Tryz.ntmps39
    go_wp2_with (rw [hl])
    go_ret
    exact ⟨ret_int hp.symm, rfl⟩
theorem ntext_any {W : World} {base t : Nat} {most : Int} {L : List Nd} (hT : Tree W base t most L) {id : Int} (hi : In64i id) :
    Calls Tryz.prog 58 #[.pointer (some ⟨t, 0, none⟩), .int .i64 id] W fun e w' => e = .returned (.bool (txZ L id)) ∧ W = w' := by
  obtain ⟨b, f, sv, kv, h⟩ := hT
  obtain ⟨c0, c1⟩ := h.cells
  have hl := h.look hi
  cases ha : atZ L id with
  | none =>
    have hn : hasZ L id = false := by unfold hasZ; rw [ha]; rfl
    rw [h.gone hn] at hl
    change (Instr.lookup 84 (.map (some b)) (.int .i64 id) false).run Tryz.prog W = .ok (.pointer none) W at hl
    have hp : txZ L id = false := by unfold txZ; rw [ha]
    clear h
    go_enter Tryz.func58, Tryz.ntmps58
    go_wp2_with (rw [hl])
    go_ret
    exact ⟨ret_bool hp.symm, rfl⟩
  | some n =>
    obtain ⟨g, hg, -, hw⟩ := h.node ha
    rw [hg] at hl
    change (Instr.lookup 84 (.map (some b)) (.int .i64 id) false).run Tryz.prog W = .ok (.pointer (some ⟨g, 0, none⟩)) W at hl
    have hp : txZ L id = n.tx := by unfold txZ; rw [ha]
    have d1 : W.cell? ⟨g, 2, none⟩ = some (.bool n.tx) := hw.cell 2
    clear h hw
    go_enter Tryz.func58, Tryz.ntmps58
    go_wp2_with (rw [hl])
    go_ret
    exact ⟨ret_bool hp.symm, rfl⟩
end Go.Proofs.YtbhdpfacfgldiaaGreatDoor
/- slices.Clone of declarations and of numbers; nodes.lent; Node, Kids. -/
namespace Go.Proofs.YtbhdpfacfgldiaaGreatDoor
open Go Go.RowKit
set_option linter.unusedVariables false
set_option linter.unusedSimpArgs false
set_option maxRecDepth 20000
set_option maxHeartbeats 4000000

theorem declInfo : (Tryz.prog.info? 70).map (fun i => (i.zero, i.size, i.bytes)) = some (some (.agg #[.int .i64 0, .int .i64 0, .int .i64 0, .int .i64 0]), 4, 32) := by kernel_rfl
theorem intInfo : (Tryz.prog.info? 3).map (fun i => (i.zero, i.size, i.bytes)) = some (some (.int .i64 0), 1, 8) := by kernel_rfl
theorem cloneD_any (sv : Value) (l : List Dc) (W : World) (h : StyAt W sv l) :
    Calls Tryz.prog 57 #[sv] W fun e w' => ∃ sv', e = .returned sv' ∧ StyOwn w' W.heap.size sv' l ∧ Below W.heap.size W w' := by
  obtain ⟨A, c, rfl, hR, hl, hn⟩ := h
  have q : ∀ (w : World) (a : Option Addr) (n c n' c' : Nat), (binOp .eql 30 (.slice a n c) (.slice none n' c')).run Tryz.prog w = .ok (.bool a.isNone) w := fun w a n c n' c' => Lib.run_eql_slice_nil w _ _ a n c n' c' Tryz.underlying30
  have HR := Lib.hid hR
  clear hR
  cases A with
  | none =>
    have h0 : l = [] := by
      cases l with
      | nil => rfl
      | cons d r =>
        obtain ⟨ad, e, -⟩ := HR.out (by rw [i64s_length, dCells_length]; simp)
        cases e
    subst h0
    go_enter Tryz.func57, Tryz.ntmps57
    go_wp2_with (rw [q])
    go_ret
    exact ⟨_, rfl, ⟨none, 0, rfl, ⟨rfl, .inl ⟨rfl, rfl⟩⟩, by simp⟩, Below.refl _ _⟩
  | some ad =>
    have hq := q W (some ad) l.length c 0 0
    go_enter Tryz.func57, Tryz.ntmps57
    go_wp2_with (first
      | (rw [q])
      | (at_builtin; refine wpList_plain rfl fun K hK => wp_push_all (.tmp 5) (.tmp 6) 30 rfl W.heap.size 70 4 32 (.agg #[.int .i64 0, .int .i64 0, .int .i64 0, .int .i64 0]) Tryz.underlying30 declInfo rfl (by decide) 0 0 (some ⟨W.heap.size, 0, none⟩) [] rfl (World.ownsRow_made W #[] 0 (Nat.le_refl _) (Nat.zero_le _) rfl) W.heap.size l.length c (some ad) (i64s (dCells l)) rfl (fun e => by cases e) (by rw [i64s_length, dCells_length]) (HR.out.alloc (Nat.le_refl _) _) (fun u hu => i64s_one _ u hu) (by unfold maxLen; omega) (by omega) (by simp) ?_; intro A1 c1 w1 ho hb; refine hK _ _ ?_; have HO := Lib.hid ho; have HB := Lib.hid hb; clear ho hb))
    go_ret
    have hs := HO.out
    rw [Nat.zero_add, List.nil_append] at hs
    have hs : StyOwn w1 W.heap.size (.slice A1 l.length c1) l := ⟨A1, c1, rfl, hs, hl⟩
    exact ⟨_, rfl, hs, ((Below.refl _ _).alloc (Nat.le_refl _) _).trans HB.out⟩
/-- A node as a struct of five cells. -/
def nodeC (n : Nd) (sv : Value) : List Value := [.int .i64 n.id, .int .i64 n.par, .bool n.tx, .string n.dat, sv]
theorem lent_any (n : Nd) (sv : Value) (W : World) (h : StyAt W sv n.sty) :
    Calls Tryz.prog 59 #[.agg (nodeC n sv).toArray] W fun e w' => ∃ sv', e = .returned (.agg (nodeC n sv').toArray) ∧ StyOwn w' W.heap.size sv' n.sty ∧ Below W.heap.size W w' := by
  have B0 := Lib.hid (((Below.refl W.heap.size W).alloc (Nat.le_refl _) (.cells (nodeC n sv).toArray 32)).alloc (by simp) (.cells #[.int .i64 0, .int .i64 0, .bool false, .string ⟨#[]⟩, .slice none 0 0] 32))
  have N0 := Lib.hid ((Whole.mk W 32 (nodeC n sv).toArray).made (.cells #[.int .i64 0, .int .i64 0, .bool false, .string ⟨#[]⟩, .slice none 0 0] 32))
  have R0 := Lib.hid (Whole.mk (W.alloc (.cells (nodeC n sv).toArray 32)) 32 #[.int .i64 0, .int .i64 0, .bool false, .string ⟨#[]⟩, .slice none 0 0])
  simp only [World.size_alloc] at R0
  have HS := Lib.hid (StyAt.below h (((Below.refl W.heap.size W).alloc (Nat.le_refl _) (.cells (nodeC n sv).toArray 32)).alloc (by simp) (.cells #[.int .i64 0, .int .i64 0, .bool false, .string ⟨#[]⟩, .slice none 0 0] 32)))
  obtain ⟨A1, c1, rfl, -⟩ := h
  go_enter Tryz.func59, Tryz.ntmps59
  go_upto_region 1 with fail
  generalize (W.alloc _).alloc _ = w0 at *
  have c4 : w0.cell? ⟨W.heap.size, 4, none⟩ = some (.slice A1 n.sty.length c1) := N0.out.cell 4
  go_wp2_with fail
  refine (cloneD_any _ n.sty w0 HS.out).mono ?_
  rintro e w1 ⟨sv', rfl, hs, hb⟩
  have N1 := Lib.hid (N0.out.under hb N0.out.size)
  have R1 := Lib.hid (R0.out.under hb R0.out.size)
  have B1 := Lib.hid (B0.out.trans (hb.mono B0.out.size))
  have HS1 := Lib.hid hs
  obtain ⟨A2, c2, rfl, -⟩ := hs
  have h0 : W.heap.size + 1 < w0.heap.size := R0.out.size
  have n1 := HS1.out.other N1.out (by decide)
  have n2 := HS1.out.other R1.out (by decide)
  clear hb N0 R0 B0 HS c4
  have c4 : w1.cell? ⟨W.heap.size, 4, none⟩ = some (.slice A1 n.sty.length c1) := N1.out.cell 4
  have f4 := N1.out.free 4
  have N2 : Hid (Whole (w1.setCell ⟨W.heap.size, 4, none⟩ (.slice A2 n.sty.length c2)) W.heap.size 32 (nodeC n (.slice A2 n.sty.length c2))) := Lib.hid (N1.out.put 4 (.slice A2 n.sty.length c2))
  have R2 := Lib.hid (R1.out.other (p := ⟨W.heap.size, 4, none⟩) (by simp) (.slice A2 n.sty.length c2))
  have B2 := Lib.hid (B1.out.setCell (p := ⟨W.heap.size, 4, none⟩) (by simp) (.slice A2 n.sty.length c2))
  have O2 : Hid (Only [W.heap.size] w1 (w1.setCell ⟨W.heap.size, 4, none⟩ (.slice A2 n.sty.length c2))) := Lib.hid ((Only.refl _ _).setCell _ (.inl (by simp)) _)
  go_upto_region 2 with fail
  generalize w1.setCell _ _ = w2 at *
  clear c4 f4 N1 R1
  go_wp2_with (first
    | (refine cells_load (n := 5) ⟨⟨_, Tryz.underlying32, rfl⟩, by kernel_rfl⟩ (.tmp 1) rfl rfl W.heap.size rfl (nodeC n (.slice A2 n.sty.length c2)) rfl 32 ?_ ?_; (focus (exact N2.out)))
    | (refine cells_store (n := 5) ⟨⟨_, Tryz.underlying32, rfl⟩, by kernel_rfl⟩ (.tmp 2) (.tmp 7) rfl rfl (W.heap.size + 1) rfl (nodeC n (.slice A2 n.sty.length c2)) rfl ?_ rfl 32 [.int .i64 0, .int .i64 0, .bool false, .string ⟨#[]⟩, .slice none 0 0] ?_ rfl ?_; (focus (intro v hv; simp only [nodeC, List.mem_cons, List.not_mem_nil, or_false] at hv; rcases hv with rfl | rfl | rfl | rfl | rfl <;> rfl)); (focus (exact R2.out)); intro w3 h3 o3; have R3 := Lib.hid h3; have O3 := Lib.hid o3; clear h3 o3))
  refine cells_end (n := 5) ⟨⟨_, Tryz.underlying32, rfl⟩, by kernel_rfl⟩ rfl (W.heap.size + 1) rfl (nodeC n (.slice A2 n.sty.length c2)) rfl 32 R3.out rfl ⟨(.slice A2 n.sty.length c2), rfl, ?_, B2.out.trans (O3.out.below (by simp) (by have := R2.out.size; omega))⟩
  have h1 := HS1.out.only O2.out (by intro g hg hm; simp at hm; subst hm; exact n1 hg)
  exact (h1.only O3.out (by intro g hg hm; simp at hm; subst hm; exact n2 hg)).mono (by omega)
end Go.Proofs.YtbhdpfacfgldiaaGreatDoor
/- nodes.Node, Kids. -/
namespace Go.Proofs.YtbhdpfacfgldiaaGreatDoor
open Go Go.RowKit
set_option linter.unusedVariables false
set_option linter.unusedSimpArgs false
set_option maxRecDepth 20000
set_option maxHeartbeats 4000000

def node0 : List Value := [.int .i64 0, .int .i64 0, .bool false, .string ⟨#[]⟩, .slice none 0 0]
theorem nodeT : FlatT Tryz.prog 32 5 := ⟨⟨_, Tryz.underlying32, rfl⟩, by kernel_rfl⟩
theorem node_one (n : Nd) {A : Option Addr} {k c : Nat} : ∀ v ∈ nodeC n (.slice A k c), v.oneCell' = true := by
  intro v hv
  simp only [nodeC, List.mem_cons, List.not_mem_nil, or_false] at hv
  rcases hv with rfl | rfl | rfl | rfl | rfl <;> rfl
theorem node0_one : ∀ v ∈ node0, v.oneCell' = true := by
  intro v hv
  simp only [node0, List.mem_cons, List.not_mem_nil, or_false] at hv
  rcases hv with rfl | rfl | rfl | rfl | rfl <;> rfl
/-- What Node answers. -/
def NodePost (W : World) (L : List Nd) (id : Int) (e : Ending) (w' : World) : Prop := match atZ L id with
  | none => ∃ v, e = .returned (.tuple #[v, .bool false])
  | some n => ∃ sv', e = .returned (.tuple #[.agg (nodeC n sv').toArray, .bool true]) ∧ StyOwn w' W.heap.size sv' n.sty
theorem nnode_any {W : World} {base t : Nat} {most : Int} {L : List Nd} (hT : Tree W base t most L) {id : Int} (hi : In64i id) :
    Calls Tryz.prog 42 #[.pointer (some ⟨t, 0, none⟩), .int .i64 id] W fun e w' => NodePost W L id e w' ∧ Below W.heap.size W w' := by
  have B0 := Lib.hid ((Below.refl W.heap.size W).alloc (Nat.le_refl _) (.cells #[.int .i64 0, .int .i64 0, .bool false, .string ⟨#[]⟩, .slice none 0 0] 32))
  have R0 := Lib.hid (Whole.mk W 32 #[.int .i64 0, .int .i64 0, .bool false, .string ⟨#[]⟩, .slice none 0 0])
  have hT0 := hT.behind ((Below.refl W.heap.size W).alloc (Nat.le_refl _) (.cells #[.int .i64 0, .int .i64 0, .bool false, .string ⟨#[]⟩, .slice none 0 0] 32))
  obtain ⟨b, f, sv, kv, h⟩ := hT0
  obtain ⟨c0, c1⟩ := h.cells
  have hl := h.look hi
  cases ha : atZ L id with
  | none =>
    have hn : hasZ L id = false := by unfold hasZ; rw [ha]; rfl
    rw [h.gone hn] at hl
    have HP : Hid (∀ v w', NodePost W L id (.returned (.tuple #[v, .bool false])) w') := Lib.hid (fun v w' => by unfold NodePost; rw [ha]; exact ⟨v, rfl⟩)
    clear h ha hn hT
    go_enter Tryz.func42, Tryz.ntmps42
    go_upto_region 1 with fail
    generalize W.alloc _ = w0 at *
    change (Instr.lookup 84 (.map (some b)) (.int .i64 id) false).run Tryz.prog w0 = .ok (.pointer none) w0 at hl
    go_wp2_with (first
      | (rw [hl])
      | (refine cells_store (n := 5) nodeT (.tmp 4) (.tmp 15) rfl rfl W.heap.size rfl node0 rfl node0_one rfl 32 [.int .i64 0, .int .i64 0, .bool false, .string ⟨#[]⟩, .slice none 0 0] ?_ rfl ?_; (focus (exact R0.out)); intro w3 h3 o3; have R3 := Lib.hid h3; have O3 := Lib.hid o3; clear h3 o3))
    exact cells_end2 (n := 5) nodeT rfl W.heap.size rfl node0 rfl 32 R3.out rfl ⟨HP.out _ _, B0.out.trans (O3.out.below (by simp) (by have := R0.out.size; omega))⟩
  | some n =>
    obtain ⟨g, hg, -, hw⟩ := h.node ha
    obtain ⟨hm, hid⟩ := at_some ha
    have hs := h.sty n hm
    rw [hid] at hs
    rw [hg] at hl
    have d0 := hw.cell 0
    have d1 := hw.cell 1
    have d2 := hw.cell 2
    have d3 := hw.cell 3
    have d4 := hw.cell 4
    simp only [ndC, List.getElem?_cons_zero, List.getElem?_cons_succ] at d0 d1 d2 d3 d4
    have HS := Lib.hid hs.at_
    have HP : Hid (∀ sv' w', StyOwn w' W.heap.size sv' n.sty → NodePost W L id (.returned (.tuple #[.agg (nodeC n sv').toArray, .bool true])) w') := Lib.hid (fun sv' w' h => by unfold NodePost; rw [ha]; exact ⟨sv', rfl, h⟩)
    generalize sv id = s at *
    clear h ha hg hm hid hs hT hw
    go_enter Tryz.func42, Tryz.ntmps42
    go_upto_region 1 with fail
    generalize W.alloc _ = w0 at *
    change (Instr.lookup 84 (.map (some b)) (.int .i64 id) false).run Tryz.prog w0 = .ok (.pointer (some ⟨g, 0, none⟩)) w0 at hl
    go_wp2_with (rw [hl])
    refine (lent_any n s w0 HS.out).mono ?_
    rintro e w1 ⟨sv', rfl, hs, hb⟩
    have R1 := Lib.hid (R0.out.under hb R0.out.size)
    have B1 := Lib.hid (B0.out.trans (hb.mono B0.out.size))
    have z0 : W.heap.size < w0.heap.size := R0.out.size
    have HS1 := Lib.hid hs
    have n1 := hs.other R1.out (by decide)
    obtain ⟨A2, c2, rfl, -⟩ := hs
    clear hb R0 B0 HS hl c0 c1 d0 d1 d2 d3 d4
    go_wp2_with (refine cells_store (n := 5) nodeT (.tmp 4) (.tmp 20) rfl rfl W.heap.size rfl (nodeC n (.slice A2 n.sty.length c2)) rfl (node_one n) rfl 32 [.int .i64 0, .int .i64 0, .bool false, .string ⟨#[]⟩, .slice none 0 0] ?_ rfl ?_; (focus (exact R1.out)); intro w3 h3 o3; have R3 := Lib.hid h3; have O3 := Lib.hid o3; clear h3 o3)
    exact cells_end2 (n := 5) nodeT rfl W.heap.size rfl (nodeC n (.slice A2 n.sty.length c2)) rfl 32 R3.out rfl ⟨HP.out _ _ ((HS1.out.only O3.out (by intro g hg hm; simp at hm; subst hm; exact n1 hg)).mono (by omega)), B1.out.trans (O3.out.below (by simp) (by have := R1.out.size; omega))⟩
end Go.Proofs.YtbhdpfacfgldiaaGreatDoor
/- slices.Clone, Index, Insert of numbers; nodes.Kids. -/
namespace Go.Proofs.YtbhdpfacfgldiaaGreatDoor
open Go Go.RowKit
set_option linter.unusedVariables false
set_option linter.unusedSimpArgs false
set_option maxRecDepth 20000
set_option maxHeartbeats 4000000

/-- Numbers as a slice that reads so. -/
def IdsAt (w : World) (v : Value) (l : List Int) : Prop := ∃ A c, v = .slice A l.length c ∧ Row w w.heap.size A (idC l) ∧ l.length ≤ 1000000
/-- .. of its own. -/
def IdsOwn (w : World) (base : Nat) (v : Value) (l : List Int) : Prop := ∃ A c, v = .slice A l.length c ∧ w.ownsRow base 3 1 (.slice A l.length c) l.length (idC l) ∧ l.length ≤ 1000000
theorem IdsOwn.at_ {w : World} {base : Nat} {v : Value} {l : List Int} (h : IdsOwn w base v l) : IdsAt w v l := by
  obtain ⟨A, c, e, ho, hl⟩ := h
  exact ⟨A, c, e, row_of_own ho, hl⟩
theorem IdsOwn.only {S : List Nat} {w w' : World} {base : Nat} {v : Value} {l : List Int} (h : IdsOwn w base v l) (ho : Only S w w') (hn : ∀ g, v.ownBlock = some g → g ∉ S) : IdsOwn w' base v l := by
  obtain ⟨A, c, rfl, hr, hl⟩ := h
  exact ⟨A, c, rfl, ho.owns hr hn, hl⟩
theorem IdsAt.below {w w' : World} {v : Value} {l : List Int} (h : IdsAt w v l) (hb : Below w.heap.size w w') : IdsAt w' v l := by
  obtain ⟨A, c, e, hr, hl⟩ := h
  exact ⟨A, c, e, (hr.below hb).more hb.size, hl⟩
theorem ids_of_own {w : World} {base : Nat} {v : Value} {l : List Int} {e : Nat} (h : w.ownsRow base e 1 v l.length (idC l)) (hl : l.length ≤ 1000000) : IdsAt w v l := by
  obtain ⟨A, c, rfl⟩ := own_shape h
  exact ⟨A, c, rfl, row_of_own h, hl⟩
theorem idC_length (l : List Int) : (idC l).length = l.length := by simp
theorem idC_one (l : List Int) : ∀ u ∈ idC l, u.oneCell' = true := by
  intro u hu
  obtain ⟨z, -, rfl⟩ := List.mem_map.1 hu
  rfl
theorem eqNil (w : World) (a : Option Addr) (n c n' c' : Nat) : (binOp .eql 28 (.slice a n c) (.slice none n' c')).run Tryz.prog w = .ok (.bool a.isNone) w := Lib.run_eql_slice_nil w _ _ a n c n' c' Tryz.underlying28
theorem cloneI_any (v : Value) (l : List Int) (W : World) (h : IdsAt W v l) :
    Calls Tryz.prog 61 #[v] W fun e w' => ∃ v', e = .returned v' ∧ IdsOwn w' W.heap.size v' l ∧ Below W.heap.size W w' := by
  obtain ⟨A, c, rfl, hR, hl⟩ := h
  have q := eqNil
  have HR := Lib.hid hR
  clear hR
  cases A with
  | none =>
    have h0 : l = [] := by
      cases l with
      | nil => rfl
      | cons d r =>
        obtain ⟨ad, e, -⟩ := HR.out (by simp)
        cases e
    subst h0
    go_enter Tryz.func61, Tryz.ntmps61
    go_wp2_with (rw [q])
    go_ret
    exact ⟨_, rfl, ⟨none, 0, rfl, ⟨rfl, .inl ⟨rfl, rfl⟩⟩, by simp⟩, Below.refl _ _⟩
  | some ad =>
    go_enter Tryz.func61, Tryz.ntmps61
    go_wp2_with (first
      | (rw [q])
      | (at_builtin; refine wpList_plain rfl fun K hK => wp_push_all (.tmp 5) (.tmp 6) 28 rfl W.heap.size 3 1 8 (.int .i64 0) Tryz.underlying28 intInfo rfl (by decide) 0 0 (some ⟨W.heap.size, 0, none⟩) [] rfl (World.ownsRow_made W #[] 0 (Nat.le_refl _) (Nat.zero_le _) rfl) W.heap.size l.length c (some ad) (idC l) rfl (fun e => by cases e) (by rw [idC_length, Nat.mul_one]) (HR.out.alloc (Nat.le_refl _) _) (idC_one l) (by unfold maxLen; omega) (by omega) (by simp) ?_; intro A1 c1 w1 ho hb; refine hK _ _ ?_; have HO := Lib.hid ho; have HB := Lib.hid hb; clear ho hb))
    go_ret
    have hs := HO.out
    rw [Nat.zero_add, List.nil_append] at hs
    exact ⟨_, rfl, ⟨A1, c1, rfl, hs, hl⟩, ((Below.refl _ _).alloc (Nat.le_refl _) _).trans HB.out⟩
theorem kids_few (L : List Nd) (id : Int) : (kidsZ L id).length ≤ L.length := by
  unfold kidsZ
  rw [List.length_map]
  have h1 := List.length_filter_le (fun n : Nd => n.par == id) L.tail
  have h2 : L.tail.length = L.length - 1 := List.length_tail
  omega
theorem nkids_any {W : World} {base t : Nat} {most : Int} {L : List Nd} (hT : Tree W base t most L) {id : Int} (hi : In64i id) (h0 : 0 ≤ id) (hL : L.length ≤ 1000) :
    Calls Tryz.prog 38 #[.pointer (some ⟨t, 0, none⟩), .int .i64 id] W fun e w' => ∃ v, e = .returned v ∧ IdsOwn w' W.heap.size v (kidsZ L id) ∧ Below W.heap.size W w' := by
  obtain ⟨b, f, sv, kv, h⟩ := hT
  obtain ⟨c0, c1⟩ := h.cells
  have hl := h.look hi
  cases ha : atZ L id with
  | none =>
    have hn : hasZ L id = false := by unfold hasZ; rw [ha]; rfl
    rw [h.gone hn] at hl
    have hk := kids_none h.ok hn
    change (Instr.lookup 84 (.map (some b)) (.int .i64 id) false).run Tryz.prog W = .ok (.pointer none) W at hl
    clear h
    go_enter Tryz.func38, Tryz.ntmps38
    go_wp2_with (rw [hl])
    go_ret
    exact ⟨_, rfl, by rw [hk]; exact ⟨none, 0, rfl, ⟨rfl, .inl ⟨rfl, rfl⟩⟩, by simp⟩, Below.refl _ _⟩
  | some n =>
    obtain ⟨g, hg, -, hw⟩ := h.node ha
    obtain ⟨hm, hid⟩ := at_some ha
    have hk := h.kid n hm
    rw [hid] at hk
    rw [hg] at hl
    have d5 := hw.cell 5
    simp only [ndC, List.getElem?_cons_zero, List.getElem?_cons_succ] at d5
    have HK := Lib.hid (ids_of_own hk (by have := kids_few L id; omega))
    change (Instr.lookup 84 (.map (some b)) (.int .i64 id) false).run Tryz.prog W = .ok (.pointer (some ⟨g, 0, none⟩)) W at hl
    generalize kv id = v at *
    clear h hk hw ha hg hm
    go_enter Tryz.func38, Tryz.ntmps38
    go_wp2_with (rw [hl])
    refine (cloneI_any v _ W HK.out).mono ?_
    rintro e w1 ⟨v', rfl, hv, hb⟩
    have HV := Lib.hid hv
    have HB := Lib.hid hb
    clear hv hb hl c0 c1 d5
    go_wp2
    go_ret
    exact ⟨v', rfl, HV.out, HB.out⟩
/-- Index of one that is not there. -/
theorem index_none (A : Option Addr) (c : Nat) (zs : List Int) (x : Int) (hx : x ∉ zs) (hl : zs.length ≤ 1000000) (W : World) (hR : Row W W.heap.size A (idC zs)) :
    Calls Tryz.prog 70 #[.slice A zs.length c, .int .i64 x] W fun e w' => e = .returned (.int .i64 (-1)) ∧ W = w' := by
  have HR := Lib.hid (show Row W W.heap.size A (i64s zs) from hR)
  have HX := Lib.hid hx
  clear hR hx
  go_enter Tryz.func70, Tryz.ntmps70
  go_wp2
  go_loopw [5, 8] (fun v5 v8 wr => ∃ k : Nat, k ≤ zs.length ∧ v8 = .int .i64 k ∧ wr = W) (fun v5 v8 _ => zs.length - (intOf v8).toNat)
  case atStart => exact ⟨0, Nat.zero_le _, rfl, rfl⟩
  case round =>
    obtain ⟨k, hk, rfl, rfl⟩ := hrel
    by_cases hlt : k < zs.length
    · obtain ⟨ad, rfl, hb, hc⟩ := HR.out.int hlt
      have hne : (x == zs[k]) = false := by rw [beq_eq_false_iff_ne]; intro e; exact HX.out (e ▸ List.getElem_mem hlt)
      generalize zs[k] = z at *
      go_wp2_with fail
      go_roundw
      case rel => exact ⟨k + 1, by omega, by go_num, by first | rfl | trivial⟩
      case measure => simp [intOf]; omega
    · go_wp2_with fail
      go_ret
      exact ⟨rfl, rfl⟩
/-- Insert at the end, of one. -/
theorem insert_end (base : Nat) (v : Value) (zs : List Int) (x : Int) (g : Nat) (hl : zs.length ≤ 1000000) (W : World) (ho : W.ownsRow base 3 1 v zs.length (idC zs)) (hb : base ≤ W.heap.size) (hg : Whole W g 3 [.int .i64 x]) :
    Calls Tryz.prog 71 #[v, .int .i64 zs.length, .slice (some ⟨g, 0, none⟩) 1 1] W fun e w' => ∃ v', e = .returned v' ∧ w'.ownsRow base 3 1 v' (zs ++ [x]).length (idC (zs ++ [x])) ∧ Only v.ownBlock.toList W w' ∧ (v'.ownBlock = v.ownBlock ∨ v'.ownBlock = some W.heap.size) := by
  obtain ⟨A, c, rfl⟩ := own_shape ho
  have HO := Lib.hid ho
  have HG := Lib.hid hg
  have hcap : zs.length ≤ c := by
    rcases ho.2 with ⟨e, h0⟩ | ⟨g', cap, cur, e, h1, h2, h3, h4⟩
    · injection e with e1 e2 e3; omega
    · injection e with e1 e2 e3; omega
  clear ho hg
  obtain ⟨i0, hi, hz0, hz1, hz2⟩ := info_parts intInfo
  by_cases hcn : c = zs.length
  · subst hcn
    cases A
    · go_enter Tryz.func71, Tryz.ntmps71
      go_wp2_with (at_builtin; refine wpList_append_own_at _ rfl (.tmp 23) (.tmp 24) 28 rfl base 3 i0 (.int .i64 0) 1 8 Tryz.underlying28 hi hz0 hz1 hz2 rfl (by decide) _ zs.length (idC zs) rfl HO.out ⟨g, 0, none⟩ 1 1 [.int .i64 x] rfl rfl ?_ (by intro u hu; simp at hu; subst hu; rfl) (by unfold maxLen; omega) (by omega) hb ?_; (focus (intro j u hj; cases j with | zero => simp at hj; subst hj; exact HG.out.cell 0 | succ j => simp at hj)); intro v' w1 h1 h2 h3 h4; have P1 := Lib.hid h1; have P2 := Lib.hid h2; have P4 := Lib.hid h4; clear h1 h2 h3 h4)
      go_ret
      refine ⟨_, rfl, ?_, Only.of_grown P2.out, P4.out⟩
      have h5 := P1.out
      simpa [idC] using h5
    · go_enter Tryz.func71, Tryz.ntmps71
      go_wp2_with (at_builtin; refine wpList_append_own_at _ rfl (.tmp 23) (.tmp 24) 28 rfl base 3 i0 (.int .i64 0) 1 8 Tryz.underlying28 hi hz0 hz1 hz2 rfl (by decide) _ zs.length (idC zs) rfl HO.out ⟨g, 0, none⟩ 1 1 [.int .i64 x] rfl rfl ?_ (by intro u hu; simp at hu; subst hu; rfl) (by unfold maxLen; omega) (by omega) hb ?_; (focus (intro j u hj; cases j with | zero => simp at hj; subst hj; exact HG.out.cell 0 | succ j => simp at hj)); intro v' w1 h1 h2 h3 h4; have P1 := Lib.hid h1; have P2 := Lib.hid h2; have P4 := Lib.hid h4; clear h1 h2 h3 h4)
      go_ret
      refine ⟨_, rfl, ?_, Only.of_grown P2.out, P4.out⟩
      have h5 := P1.out
      simpa [idC] using h5
  · cases A
    · go_enter Tryz.func71, Tryz.ntmps71
      go_wp2_with (at_builtin; refine wpList_append_own_at _ rfl (.tmp 23) (.tmp 24) 28 rfl base 3 i0 (.int .i64 0) 1 8 Tryz.underlying28 hi hz0 hz1 hz2 rfl (by decide) _ zs.length (idC zs) rfl HO.out ⟨g, 0, none⟩ 1 1 [.int .i64 x] rfl rfl ?_ (by intro u hu; simp at hu; subst hu; rfl) (by unfold maxLen; omega) (by omega) hb ?_; (focus (intro j u hj; cases j with | zero => simp at hj; subst hj; exact HG.out.cell 0 | succ j => simp at hj)); intro v' w1 h1 h2 h3 h4; have P1 := Lib.hid h1; have P2 := Lib.hid h2; have P4 := Lib.hid h4; clear h1 h2 h3 h4)
      go_ret
      refine ⟨_, rfl, ?_, Only.of_grown P2.out, P4.out⟩
      have h5 := P1.out
      simpa [idC] using h5
    · go_enter Tryz.func71, Tryz.ntmps71
      go_wp2_with (at_builtin; refine wpList_append_own_at _ rfl (.tmp 23) (.tmp 24) 28 rfl base 3 i0 (.int .i64 0) 1 8 Tryz.underlying28 hi hz0 hz1 hz2 rfl (by decide) _ zs.length (idC zs) rfl HO.out ⟨g, 0, none⟩ 1 1 [.int .i64 x] rfl rfl ?_ (by intro u hu; simp at hu; subst hu; rfl) (by unfold maxLen; omega) (by omega) hb ?_; (focus (intro j u hj; cases j with | zero => simp at hj; subst hj; exact HG.out.cell 0 | succ j => simp at hj)); intro v' w1 h1 h2 h3 h4; have P1 := Lib.hid h1; have P2 := Lib.hid h2; have P4 := Lib.hid h4; clear h1 h2 h3 h4)
      go_ret
      refine ⟨_, rfl, ?_, Only.of_grown P2.out, P4.out⟩
      have h5 := P1.out
      simpa [idC] using h5
end Go.Proofs.YtbhdpfacfgldiaaGreatDoor
/- Regions that draw: calls whose arguments are told, and whose answer is told or known. No program is named here. -/
namespace Go.Proofs.YtbhdpfacfgldiaaGreatDoor
set_option linter.unusedVariables false
set_option linter.unusedSimpArgs false
open Go.RowKit

section
variable {P : Program} {ops : Array Oper} {w0 : World} {Fin : Env → Prop} {o : Oper} {r : List Oper} {a : Act} {F : List (Tmp × Told)} {d : Tmp}
theorem wanted_told {a' : Act} {w : World} (hw : Region.wanted o (yielded ops a.tmps) = true) (hg : clearB F (guardSlots ops o) = true) (hm : meets (envOf a F) (o.looksAt ops) a' w) : Region.wanted o (yielded ops a'.tmps) = true := by
  rw [same_wanted (a := a) fun s hs => ?_]
  · exact hw
  · have h1 := hm s (by
      unfold guardSlots at hs
      unfold Oper.looksAt
      exact List.mem_append_right _ hs)
    unfold envOf at h1
    rw [clear_spec hg hs] at h1
    exact h1
/-- What a slot is told to hold, at a frame that meets all that is told. -/
theorem told_at {a' : Act} {w : World} {t : Tmp} {f : FuncId} {xs : Array Operand} {ts : Array TypeId} (hop : o.op = .call { callee := .value (.func f), args := xs, argTypes := ts }) (hm : meets (envOf a F) (o.looksAt ops) a' w) (ht : Operand.tmp t ∈ xs) : envOf a F t (a'.tmps.getD t undef) w :=
  hm t (by
    unfold Oper.looksAt
    refine List.mem_append_left _ (List.mem_filterMap.2 ⟨.tmp t, ?_, rfl⟩)
    simp only [hop, Op.operands, Call.operands]
    simpa using ht)
theorem laneO_callT {f : FuncId} {fn : Func} {c : Code} {xs : Array Operand} {ts : Array TypeId} (T : Told) (hT : Steady T) (hop : o.op = .call { callee := .value (.func f), args := xs, argTypes := ts }) (ho : o.dst = some d)
    (hw : Region.wanted o (yielded ops a.tmps) = true) (hg : clearB F (guardSlots ops o) = true) (hf : P.funcs[f]? = some fn) (hname : (fn.name == "runtime.NumGoroutine") = false) (hb : fn.body = some c)
    (h : ∀ (a' : Act) (w : World), Behind w0 w → (∀ t, Operand.tmp t ∈ xs → envOf a F t (a'.tmps.getD t undef) w) → Calls P f (xs.map a'.eval) w fun e w' => ∃ v, e = .returned v ∧ Behind w w' ∧ T v w')
    (hr : laneO P ops w0 Fin r (envOf a ((d, T) :: F))) : laneO P ops w0 Fin (o :: r) (envOf a F) := by
  refine ⟨T, ⟨hT, fun a' w hb' hm => .inl (.inl ⟨wanted_told hw hg hm, ?_⟩)⟩, by rw [ho, upd_told]; exact hr⟩
  unfold gives
  rw [run_enter hop hf hname hb]
  exact ⟨Behind.refl w, h a' w hb' fun t ht => told_at hop hm ht⟩
theorem laneO_callV {f : FuncId} {fn : Func} {c : Code} {xs : Array Operand} {ts : Array TypeId} {v : Value} (hop : o.op = .call { callee := .value (.func f), args := xs, argTypes := ts }) (ho : o.dst = some d) (hd : d < a.tmps.size) (hF : F.lookup d = none)
    (hw : Region.wanted o (yielded ops a.tmps) = true) (hg : clearB F (guardSlots ops o) = true) (hf : P.funcs[f]? = some fn) (hname : (fn.name == "runtime.NumGoroutine") = false) (hb : fn.body = some c)
    (h : ∀ (a' : Act) (w : World), Behind w0 w → (∀ t, Operand.tmp t ∈ xs → envOf a F t (a'.tmps.getD t undef) w) → Calls P f (xs.map a'.eval) w fun e w' => e = .returned v ∧ Behind w w')
    (hr : laneO P ops w0 Fin r (envOf (a.put (some d) v) F)) : laneO P ops w0 Fin (o :: r) (envOf a F) := by
  refine laneO_use (by simp [notSelect, hop]) ho hd hF (fun a' w hb' hm => .inl ⟨wanted_told hw hg hm, ?_⟩) hr
  unfold gives
  rw [run_enter hop hf hname hb]
  exact ⟨Behind.refl w, (h a' w hb' fun t ht => told_at hop hm ht).mono fun e w' ⟨he, hb⟩ => ⟨v, he, hb, rfl⟩⟩
theorem gives_mono {P : Program} {o : Oper} {a : Act} {w : World} {T T' : Told} (h : gives P o a w T) (hT : ∀ v w', Behind w w' → T v w' → T' v w') : gives P o a w T' := by
  unfold gives at h ⊢
  split at h
  · exact ⟨h.1, hT _ _ h.1 h.2⟩
  · exact ⟨h.1, hT _ _ h.1 h.2⟩
  · obtain ⟨h1, h2⟩ := h
    exact ⟨h1, h2.mono fun e w'' ⟨v, he, hb, ht⟩ => ⟨v, he, hb, hT _ _ (Behind.trans h1 hb) ht⟩⟩
  · exact h.elim
/-- An operation on what is told, whose answer is told. -/
theorem laneO_gives (T : Told) (hT : Steady T) (ho : o.dst = some d) (hw : Region.wanted o (yielded ops a.tmps) = true) (hg : clearB F (guardSlots ops o) = true)
    (h : ∀ (a' : Act) (w : World), Behind w0 w → meets (envOf a F) (o.looksAt ops) a' w → gives P o a' w T) (hr : laneO P ops w0 Fin r (envOf a ((d, T) :: F))) : laneO P ops w0 Fin (o :: r) (envOf a F) := by
  refine ⟨T, ⟨hT, fun a' w hb' hm => .inl (.inl ⟨wanted_told hw hg hm, h a' w hb' hm⟩)⟩, by rw [ho, upd_told]; exact hr⟩
end
end Go.Proofs.YtbhdpfacfgldiaaGreatDoor
/- .. where some operations of the region float: they read what no other one of it turns, and may come up anywhere, among the tail, too. No program is named here. -/
namespace Go.Proofs.YtbhdpfacfgldiaaGreatDoor
set_option linter.unusedVariables false
set_option linter.unusedSimpArgs false
open Go Go.RowKit

section
variable {P : Program} {ops : Array Oper} {Q : Exit → Act → World → Prop} {md : Region.Mode} {C : World → Prop}

/-- Whatever order is picked, and every world between is one of the class. -/
def wpAnyC (P : Program) (md : Region.Mode) (ops : Array Oper) (Q : Exit → Act → World → Prop) (C : World → Prop) : Nat → Array Bool → Act → World → Prop
  | 0, listed, a, w => Region.ready md ops listed = [] ∧ Q .normal a w
  | f + 1, listed, a, w => (Region.ready md ops listed = [] → Q .normal a w) ∧ ∀ i ∈ Region.ready md ops listed, wpOp P ops Q i (fun a' w' => C w' ∧ wpAnyC P md ops Q C f (listed.setIfInBounds i true) a' w') a w
theorem wpAny_of_C : ∀ (f : Nat) (listed : Array Bool) (a : Act) (w : World), wpAnyC P md ops Q C f listed a w → wpAny P md ops Q f listed a w := by
  intro f
  induction f with
  | zero => intro listed a w h; exact h
  | succ f ih => intro listed a w h; exact ⟨h.1, fun i hi => wpOp_mono (fun a' w' h' => ih _ _ _ h'.2) (h.2 i hi)⟩

def YieldsC (P : Program) (ops : Array Oper) (C : World → Prop) (o : Oper) (v : Value) (a : Act) : Prop :=
  (Region.wanted o (yielded ops a.tmps) = true ∧ ∀ w, C w → (execOp a.eval o).run P w = .ok (.value v) w) ∨ (Region.wanted o (yielded ops a.tmps) = false ∧ v = undef)
theorem YieldsC.at_ {i : Nat} {o : Oper} {v : Value} {a : Act} (hi : ops[i]? = some o) (hy : YieldsC P ops C o v a) {K : Act → World → Prop} {w : World} (hC : C w) (h : K (a.put o.dst v) w) : wpOp P ops Q i K a w := by
  unfold wpOp
  simp only [hi]
  rcases hy with ⟨hw, hv⟩ | ⟨hw, rfl⟩
  · rw [if_pos hw]
    refine .inl ?_
    unfold Oper.wp
    rw [hv w hC]
    exact h
  · rw [if_neg (by rw [hw]; exact Bool.false_ne_true)]; exact h
theorem YieldsC.same {o : Oper} {v : Value} {a a' : Act} (hy : YieldsC P ops C o v a) (he : execOp a'.eval o = execOp a.eval o) (hw : Region.wanted o (yielded ops a'.tmps) = Region.wanted o (yielded ops a.tmps)) : YieldsC P ops C o v a' := by
  unfold YieldsC at *
  rw [he, hw]; exact hy
theorem wpOp_putC {j : Nat} {oi oj : Oper} {v : Value} (hj : ops[j]? = some oj) (hap : oi.apart ops oj = true) (hsi : ∀ cs b, oi.op ≠ .select cs b) (hsj : ∀ cs b, oj.op ≠ .select cs b)
    (hQ : ∀ c a w, Q (.panic c) (a.put oi.dst v) w → Q (.panic c) a w) {K : Act → World → Prop} {a : Act} {w : World} (hy : YieldsC P ops C oi v a) (h : wpOp P ops Q j K (a.put oi.dst v) w) :
    wpOp P ops Q j (fun a' w' => YieldsC P ops C oi v a' ∧ K (a'.put oi.dst v) w') a w := by
  obtain ⟨h1, h2, h3⟩ := Oper.apart_spec hap
  have keep : ∀ (b : Act), YieldsC P ops C oi v b → ∀ u, YieldsC P ops C oi v (b.put oj.dst u) := fun b hy u => hy.same (execOp_put oi hsi b oj.dst u h3) (wanted_put oi b oj.dst u h3)
  have hd : ∀ d, YieldsC P ops C oi v { a with defers := d :: a.defers } := fun d => hy.same rfl rfl
  unfold wpOp at *
  simp only [hj] at *
  rw [wanted_put oj a oi.dst v h1] at h
  by_cases hw : Region.wanted oj (yielded ops a.tmps) = true
  · rw [if_pos hw] at h ⊢
    rcases h with h | ⟨ha, hl⟩
    · refine .inl ?_
      unfold Oper.wp at *
      rw [execOp_put oj hsj a oi.dst v h1] at h
      generalize (execOp a.eval oj).run P w = r at *
      cases r with
      | halt x w' =>
        cases x <;> simp only [Oper.upon] at h ⊢
        exact hQ _ _ _ h
      | ok n w' =>
        cases n <;> simp only [Oper.upon] at h ⊢
        case value u => exact ⟨keep a hy u, by rw [← Act.put_comm a v u h2]; exact h⟩
        case skip => exact ⟨keep a hy _, by rw [← Act.put_comm a v undef h2]; exact h⟩
        case defer d =>
          refine ⟨keep _ (hd d) _, ?_⟩
          rw [← Act.put_comm _ v undef h2, ← Act.put_defers]
          exact h
        case enter f args =>
          refine Calls.mono h fun e w'' he => ?_
          cases e with
          | returned u => exact ⟨keep a hy u, by rw [← Act.put_comm a v u h2]; exact he⟩
          | panicked c => exact hQ _ _ _ he
          | outgrown => exact he
        case row row args => exact Rows.mono h fun u w'' he => ⟨keep a hy u, by rw [← Act.put_comm a v u h2]; exact he⟩
    · exact .inr ⟨by unfold Oper.asks at *; rw [execOp_put oj hsj a oi.dst v h1] at ha; exact ha, hl⟩
  · rw [if_neg hw] at h ⊢
    exact ⟨keep a hy _, by rw [← Act.put_comm a v undef h2]; exact h⟩
theorem floatC_first {i : Nat} {oi : Oper} {v : Value} (hi : ops[i]? = some oi) (hsel : ∀ (j : Nat) (o : Oper) cs b, ops[j]? = some o → o.op ≠ .select cs b) (hQ : ∀ c a w, Q (.panic c) (a.put oi.dst v) w → Q (.panic c) a w) (f : Nat) :
    ∀ (listed : Array Bool) (a : Act) (w : World), (∀ j oj, ops[j]? = some oj → j ≠ i → listed.getD j true = false → (∀ e ∈ oj.after, Region.binds md e = true → e.on ≠ i) → oi.apart ops oj = true) →
      i ∈ Region.ready md ops listed → YieldsC P ops C oi v a → C w → wpAnyC P md ops Q C f (listed.setIfInBounds i true) (a.put oi.dst v) w → wpAnyC P md ops Q C (f + 1) listed a w := by
  induction f with
  | zero =>
    intro listed a w _ hr hy hC H
    refine ⟨fun h => (by rw [h] at hr; cases hr), fun j hj => ?_⟩
    by_cases e : j = i
    · subst e; exact hy.at_ hi hC ⟨hC, H⟩
    · have := ready_mono hj e
      rw [H.1] at this; cases this
  | succ f ih =>
    intro listed a w hfree hr hy hC H
    refine ⟨fun h => (by rw [h] at hr; cases hr), fun j hj => ?_⟩
    by_cases e : j = i
    · subst e; exact hy.at_ hi hC ⟨hC, H⟩
    · have h1 := H.2 j (ready_mono hj e)
      obtain ⟨hjun, oj, hoj, hall⟩ := mem_ready.1 hj
      have hnot : ∀ x ∈ oj.after, Region.binds md x = true → x.on ≠ i := fun x hx hb heq => by
        have h2 := hall x hx hb
        rw [heq, getD_both (mem_ready.1 hr).1] at h2
        cases h2
      refine wpOp_mono (fun a' w' h3 => ⟨h3.2.1, ih (listed.setIfInBounds j true) a' w' (fun k ok hk hki hk1 hno => hfree k ok hk hki ?_ hno) (ready_mono hr (Ne.symm e)) h3.1 h3.2.1 ?_⟩)
        (wpOp_putC hoj (hfree j oj hoj e hjun hnot) (fun cs b => hsel i oi cs b hi) (fun cs b => hsel j oj cs b hoj) hQ hy h1)
      · by_cases hjk : j = k
        · subst hjk; exact hjun
        · rw [getD_set_ne true hjk] at hk1; exact hk1
      · rw [Array.setIfInBounds_comm _ _ e]; exact h3.2.2

/-- The tail, and every world between is one of the class. -/
def wpTail (P : Program) (ops : Array Oper) (Q : Exit → Act → World → Prop) (C : World → Prop) : List Oper → Act → World → Prop
  | [], a, w => Q .normal a w
  | o :: r, a, w => if Region.wanted o (yielded ops a.tmps) = true then o.wp P a w (fun a' w' => C w' ∧ wpTail P ops Q C r a' w') Q else C w ∧ wpTail P ops Q C r (a.put o.dst undef) w
theorem tail_step {o : Oper} {r : List Oper} {a : Act} {w : World} (hw : Region.wanted o (yielded ops a.tmps) = true) (h : ∀ K : Act → World → Prop, (∀ a' w', C w' → wpTail P ops Q C r a' w' → K a' w') → o.wp P a w K Q) : wpTail P ops Q C (o :: r) a w := by
  unfold wpTail
  rw [if_pos hw]
  exact h _ fun a' w' h1 h2 => ⟨h1, h2⟩
theorem tail_end {a : Act} {w : World} (h : Q .normal a w) : wpTail P ops Q C [] a w := h
/-- A call of one argument in the tail. -/
theorem tail_call1 {o : Oper} {r : List Oper} {a : Act} {w : World} {f : FuncId} {fn : Func} {c : Code} {t : Tmp} {x v : Value} {ts : Array TypeId} {X : World → Prop} (hop : o.op = .call { callee := .value (.func f), args := #[.tmp t], argTypes := ts })
    (hw : Region.wanted o (yielded ops a.tmps) = true) (hx : a.tmps.getD t undef = x) (hf : P.funcs[f]? = some fn) (hname : (fn.name == "runtime.NumGoroutine") = false) (hb : fn.body = some c)
    (h : Calls P f #[x] w fun e w' => e = .returned v ∧ X w') (hX : ∀ w', X w' → C w') (hr : ∀ w', X w' → wpTail P ops Q C r (a.put o.dst v) w') : wpTail P ops Q C (o :: r) a w :=
  tail_step hw fun K hK => by
    unfold Oper.wp
    rw [run_enter hop hf hname hb]
    have e : (#[Operand.tmp t]).map a.eval = #[x] := by simp [Act.eval, ← hx]
    rw [e]
    simp only [Oper.upon]
    refine h.mono fun e w' he => ?_
    obtain ⟨rfl, hx'⟩ := he
    exact hK _ _ (hX _ hx') (hr _ hx')
theorem anyC_of_turn : ∀ (ts : List Nat) (L : Array Bool) (a : Act) (w : World), turnB md ops ts L = true → wpTail P ops Q C (ts.filterMap (ops[·]?)) a w → wpAnyC P md ops Q C ts.length L a w
  | [], _, _, _, hB, h => ⟨by simpa [turnB] using hB, h⟩
  | t :: r, L, a, w, hB, h => by
    simp only [turnB, Bool.and_eq_true, decide_eq_true_eq] at hB
    have ht : t ∈ Region.ready md ops L := by rw [hB.1]; simp
    have ho : ops[t]? = some (ops[t]'(mem_ready'.1 ht).2.1) := Array.getElem?_eq_getElem _
    rw [List.filterMap_cons_some ho] at h
    refine ⟨fun h1 => (by rw [hB.1] at h1; cases h1), fun i hi => ?_⟩
    rw [hB.1] at hi
    obtain rfl : i = t := by simpa using hi
    have hw : wpOp P ops Q i (fun a' w' => C w' ∧ wpTail P ops Q C (r.filterMap (ops[·]?)) a' w') a w := by
      unfold wpOp
      simp only [ho]
      unfold wpTail at h
      split
      · rename_i hw; rw [if_pos hw] at h; exact .inl h
      · rename_i hw; rw [if_neg hw] at h; exact h
    exact wpOp_mono (fun a' w' h' => ⟨h'.1, anyC_of_turn r _ a' w' hB.2 h'.2⟩) hw

/-- What floats, taken first. -/
theorem float_first {w : World} {f : Nat} {K : Act → Prop} (hs : Region.noSelect ops = true) (hQ : ∀ c (a : Act) (d : Tmp) v w, Q (.panic c) (a.put (some d) v) w → Q (.panic c) a w) (hC : C w) : ∀ (fl : List Nat) (L : Array Bool) (a : Act), pureB md ops fl L = true →
    wpQuiet P ops C K (fl.filterMap (ops[·]?)) a → (∀ a', K a' → wpAnyC P md ops Q C f (fl.foldl (fun L k => L.setIfInBounds k true) L) a' w) → wpAnyC P md ops Q C (fl.length + f) L a w
  | [], L, a, _, h, hK => by rw [show ([] : List Nat).length + f = f by simp]; exact hK a h
  | k :: r, L, a, hB, h, hK => by
    simp only [pureB, Bool.and_eq_true] at hB
    obtain ⟨⟨⟨hr, hf⟩, hp⟩, hB⟩ := hB
    cases ho : ops[k]? with
    | none => rw [ho] at hp; simp at hp
    | some o =>
      rw [ho] at hp
      simp only [Option.map_some, Option.getD_some] at hp
      rw [List.filterMap_cons_some ho] at h
      have hst : ∃ v, YieldsC P ops C o v a ∧ wpQuiet P ops C K (r.filterMap (ops[·]?)) (a.put o.dst v) := by
        simp only [wpQuiet] at h
        by_cases hw : Region.wanted o (yielded ops a.tmps) = true
        · rw [if_pos hw] at h
          obtain ⟨v, h1, h2⟩ := h
          exact ⟨v, .inl ⟨hw, fun w hC => simple_run hp (h1 w hC)⟩, h2⟩
        · rw [if_neg hw] at h
          exact ⟨undef, .inr ⟨by simpa using hw, rfl⟩, h⟩
      obtain ⟨v, hy, hrest⟩ := hst
      rw [show (k :: r).length + f = (r.length + f) + 1 by simp; omega]
      exact floatC_first ho (Region.noSelect_spec hs) (fun c a w h' => by cases hd : o.dst with | none => rw [hd] at h'; exact h' | some d => rw [hd] at h'; exact hQ c a d v w h') _ L a w (Region.free_spec ho hf) (by simpa using hr) hy hC
        (float_first hs hQ hC r _ _ hB hrest (by simpa using hK))

section
variable {w0 : World} {a0 : Act} {L0 : Array Bool} {hs : List Nat} {E0 : Env} {Ts : Nat → Told} {g : Nat}
theorem anyC_of_mid (hB : laneB md ops a0.tmps.size L0 hs = true) (hE : ∀ t, Steady (E0 t)) (hO : ∀ pre k post, hs = pre ++ k :: post → ∃ o, ops[k]? = some o ∧ owes P ops w0 (envAt ops Ts pre E0) o (Ts k))
    (hF : ∀ a w, Behind w0 w → a.defers = a0.defers → a.tmps.size = a0.tmps.size → (∀ t, envAt ops Ts hs E0 t (a.tmps.getD t undef) w) → wpAnyC P md ops Q (Behind w0) g (listedAll ops L0 hs) a w) :
    ∀ (f : Nat) (listed : Array Bool) (a : Act) (w : World), (hs.filter fun k => !listed.getD k false).length = f → Mid md ops w0 a0 L0 hs E0 Ts listed a w → wpAnyC P md ops Q (Behind w0) (f + g) listed a w := by
  have hT : ∀ k ∈ hs, Steady (Ts k) := fun k hk => by
    obtain ⟨pre, post, e⟩ := List.append_of_mem hk
    obtain ⟨o, _, h⟩ := hO pre k post e
    exact h.1
  intro f
  induction f with
  | zero =>
    intro listed a w hf m
    obtain ⟨hL, hend⟩ := m.done hf
    rw [Nat.zero_add, hL]
    exact hF a w m.behind m.defers m.tsize hend
  | succ f ih =>
    intro listed a w hf m
    rw [show f + 1 + g = (f + g) + 1 by omega]
    refine ⟨fun h0 => (m.more hB (by omega) h0).elim, fun k hk => ?_⟩
    obtain ⟨hks, hlen⟩ := m.turn hB (by omega) hk
    obtain ⟨pre, post, e⟩ := List.append_of_mem hks
    obtain ⟨o, ho, _, hob⟩ := hO pre k post e
    have hm := m.meets hB e hk
    have hlk : looksOf ops k = o.looksAt ops := by simp [looksOf, ho]
    have hdk : dstOf ops k = o.dst := by simp [dstOf, ho]
    rw [hlk] at hm
    have hgo : ∀ K : Act → World → Prop, (∀ v w', Behind w w' → Ts k v w' → K (a.put o.dst v) w') → wpOp P ops Q k K a w := fun K hK => (hob a w m.behind hm).elim (fun h => wpOp_of_gives ho h hK) fun h => wpOp_of_givesBy ho h hK
    refine hgo _ fun v w' hb hv => ⟨m.behind.trans hb, ?_⟩
    rw [← hdk]
    exact ih _ _ _ (by omega) (m.step hB hE hT hks hk hb hv)
end
end

def finTail (P : Program) (ops : Array Oper) (w0 : World) (Q : Exit → Act → World → Prop) (tail : List Oper) (a1 : Act) (E : Env) : Prop :=
  ∀ a' w', Behind w0 w' → a'.defers = a1.defers → a'.tmps.size = a1.tmps.size → (∀ t, E t (a'.tmps.getD t undef) w') → wpTail P ops Q (Behind w0) tail a' w'
theorem laneO_tail {P : Program} {ops : Array Oper} {Q : Exit → Act → World → Prop} {w0 : World} {a : Act} {F : List (Tmp × Told)} {tail : List Oper} {a1 : Act} (hn : (F.map (·.1)).Nodup) (hl : (F.all fun x => decide (x.1 < a.tmps.size)) = true) (hd : a.defers = a1.defers) (hs : a.tmps.size = a1.tmps.size)
    (h : ∀ w', Behind w0 w' → fillAll F a w' fun a'' => wpTail P ops Q (Behind w0) tail a'' w') : laneO P ops w0 (finTail P ops w0 Q tail a1) [] (envOf a F) :=
  fun a' w' hb h1 h2 hm => fill_spec F a hn (by simpa using hl) (h1.trans hd.symm) (h2.trans hs.symm) hm (h w' hb)
def topFB (ops : Array Oper) (size : Nat) (ps fl hs ts : List Nat) : Bool :=
  Region.noSelect ops && pureB .any ops ps (Array.replicate ops.size false) && pureB .any ops fl (firstAll ops.size ps) && laneB .any ops size (firstAll ops.size (ps ++ fl)) hs && turnB .any ops ts (listedAll ops (firstAll ops.size (ps ++ fl)) hs) && decide (ps.length + (fl.length + (hs.length + ts.length)) = ops.size)
/-- A region that draws its order: ps hang on no world; fl read what stands; hs by promises; then the tail ts in its order. -/
theorem region_float {P : Program} {id : Nat} {Q : Exit → Act → World → Prop} {a : Act} {w : World} {l : List Oper} (ps fl hs ts : List Nat) (hm : P.follows .mixedOrders = true) (hB : topFB l.toArray a.tmps.size ps fl hs ts = true)
    (hQ : ∀ c (a : Act) (d : Tmp) v w, Q (.panic c) (a.put (some d) v) w → Q (.panic c) a w)
    (h : wpQuiet P l.toArray (fun _ => True) (fun a1 => wpQuiet P l.toArray (fun w' => ∃ s : Later w.heap.size w, w' = s.w) (fun a2 => a2.tmps.size = a.tmps.size ∧ laneO P l.toArray w (finTail P l.toArray w Q (pick l ts) a2) (pick l hs) (envOf a2 [])) (pick l fl) a1) (pick l ps) a) : (Code.region id l.toArray true).wp P Q a w := by
  simp only [topFB, Bool.and_eq_true, decide_eq_true_eq] at hB
  obtain ⟨⟨⟨⟨⟨hsel, hp⟩, hfl⟩, hl⟩, hseq⟩, hlen⟩ := hB
  refine wp_region_any hm ?_
  have hcl := closed_fold (md := .any) (ops := l.toArray) ps (Array.replicate l.toArray.size false) (by simp) (fun i hi => by rw [getD_replicate_false] at hi; cases hi) hp
  have hcl2 := closed_fold (md := .any) (ops := l.toArray) fl (firstAll l.toArray.size ps) hcl.2 hcl.1 hfl
  have hfold : fl.foldl (fun L k => L.setIfInBounds k true) (firstAll l.toArray.size ps) = firstAll l.toArray.size (ps ++ fl) := by simp [firstAll, List.foldl_append]
  rw [hfold] at hcl2
  have key : ∀ fuel, fuel = ps.length + (fl.length + (hs.length + ts.length)) → wpAny P .any l.toArray Q fuel (Array.replicate l.toArray.size false) a { w with drawn := w.drawn + 1 } := by
    intro fuel hfuel
    rw [hfuel]
    rw [← pick_eq ps (by simpa using pure_lt ps _ hp)] at h
    refine pure_first hsel hQ ps _ a hp h fun a1 h1 => ?_
    rw [← pick_eq fl (by simpa using pure_lt fl _ hfl)] at h1
    refine wpAny_of_C (C := Behind w) _ _ _ _ (float_first hsel hQ (Behind.drawn w) fl _ a1 hfl (wpQuiet_class (fun w' => ⟨fun hb => ⟨⟨w', hb⟩, rfl⟩, fun ⟨s, e⟩ => e ▸ s.h⟩) _ _ h1) fun a2 ⟨hs2, h2⟩ => ?_)
    show wpAnyC P .any l.toArray Q (Behind w) _ (fl.foldl (fun L k => L.setIfInBounds k true) (firstAll l.toArray.size ps)) a2 _
    rw [hfold]
    have hl' : ∀ k ∈ hs, k < l.toArray.size := fun k hk => by
      simp only [laneB, Bool.and_eq_true] at hl
      obtain ⟨⟨⟨_, _⟩, hh⟩, _⟩ := hl
      simp only [headB, List.all_eq_true, Bool.and_eq_true, decide_eq_true_eq] at hh
      exact (hh k hk).1.1
    rw [← pick_eq hs (by simpa using hl'), ← pick_eq ts (by simpa using turn_lt ts _ hseq)] at h2
    have hpairs : hs.Nodup := by
      simp only [laneB, Bool.and_eq_true] at hl
      exact (pairsB_spec hs hl.1.1.1).1
    obtain ⟨Ts, hO, hF⟩ := lane_all hs _ hpairs (lane_of_laneO hs _ hl' h2)
    have hh' : ∀ k ∈ hs, (firstAll l.toArray.size (ps ++ fl)).getD k false = false := fun k hk => by
      simp only [laneB, Bool.and_eq_true] at hl
      obtain ⟨⟨⟨_, _⟩, hh⟩, _⟩ := hl
      simp only [headB, List.all_eq_true, Bool.and_eq_true] at hh
      simpa using (hh k hk).2
    have hfil : (hs.filter fun k => !(firstAll l.toArray.size (ps ++ fl)).getD k false).length = hs.length := by
      rw [List.filter_eq_self.2]
      intro k hk
      simp only [hh' k hk, Bool.not_false]
    refine anyC_of_mid (w0 := w) (a0 := a2) (E0 := envOf a2 []) (Ts := Ts) (g := ts.length) (by rw [hs2]; exact hl) (envOf_steady (by intro x hx; cases hx)) hO (fun a' w' hb hd hsz' hm' => anyC_of_turn ts _ a' w' hseq (hF a' w' hb hd hsz' hm')) hs.length _ a2 _ hfil
      ⟨Behind.drawn w, hcl2.2, rfl, rfl, hcl2.1, fun _ h => h, fun _ h => .inl h, fun t k hk hlk => ?_, fun t _ => by simp [envOf]⟩
    rw [hh' k hk] at hlk
    cases hlk
  exact key _ hlen.symm
end Go.Proofs.YtbhdpfacfgldiaaGreatDoor
/- 'append' onto a row of the call's own, its place told: the old block, or a new one. No program is named here. -/
namespace Go.Proofs.YtbhdpfacfgldiaaGreatDoor
set_option linter.unusedVariables false
set_option linter.unusedSimpArgs false
open Go.RowKit

theorem own_raise {w : World} {b b' e size : Nat} {v : Value} {n : Nat} {xs : List Value} (h : w.ownsRow b e size v n xs) (hb : ∀ g, v.ownBlock = some g → b' ≤ g) : w.ownsRow b' e size v n xs := by
  refine ⟨h.1, ?_⟩
  rcases h.2 with h0 | ⟨g, cap, cur, hv, hg, rest⟩
  · exact .inl h0
  · exact .inr ⟨g, cap, cur, hv, hb g (by simp [hv, Value.ownBlock]), rest⟩
theorem own_zero {w : World} {b e size : Nat} {v : Value} {n : Nat} {xs : List Value} (h : w.ownsRow b e size v n xs) : w.ownsRow 0 e size v n xs := own_raise h fun _ _ => Nat.zero_le _
theorem own_low {w : World} {b e size : Nat} {v : Value} {n : Nat} {xs : List Value} (h : w.ownsRow b e size v n xs) : ∀ g, v.ownBlock = some g → b ≤ g := fun g hg => (h.lt g hg).1
theorem wpList_pushB {ops : Array Oper} {rest : List Oper} {o : Oper} {a : Act} {w : World} {Q : Exit → Act → World → Prop} {P : Program} (hw : Region.wanted o (yielded ops a.tmps) = true) (s x : Operand) (t : TypeId)
    (ho : o.op = .call { callee := .builtin .append, args := #[s, x], argTypes := #[t, t] })
    (base e size bytes : Nat) (z : Value) (ht : P.underlying t = some (.slice e)) (hinfo : (P.info? e).map (fun i => (i.zero, i.size, i.bytes)) = some (some z, size, bytes))
    (hzs : z.cells.size = size) (hsz : 0 < size) (n : Nat) (v : Value) (xs : List Value) (hs : a.eval s = v) (hown : w.ownsRow base e size v n xs) (hbase : base ≤ w.heap.size)
    (ad : Addr) (m c : Nat) (news : List Value) (hx : a.eval x = .slice (some ad) m c) (hl : news.length = m * size) (hm : 0 < m) (hnews : ∀ j u, news[j]? = some u → w.cell? (ad.add j) = some u) (h1 : ∀ u ∈ news, u.oneCell' = true)
    (h63 : n + m ≤ maxLen) (hbytes : (n + m) * bytes ≤ 140737488355328)
    (h : ∀ A' c' w', w'.ownsRow base e size (.slice A' (n + m) c') (n + m) (xs ++ news) → Only v.ownBlock.toList w w' → (∀ g, (Value.slice A' (n + m) c').ownBlock = some g → v.ownBlock = some g ∨ w.heap.size ≤ g) → wpList P ops Q rest (a.put o.dst (.slice A' (n + m) c')) w') : wpList P ops Q (o :: rest) a w :=
  wpList_wanted hw fun K hK => by
    obtain ⟨v', w', hr, h2, h3, h4⟩ := run_push (P := P) (w := w) t o.type z ht hinfo hzs hsz v (own_zero hown) ad m c news hl hm hnews h1 h63 hbytes
    obtain ⟨A', c', rfl, _⟩ := owns_nil h2
    have h5 := own_raise (b' := base) h2 fun g hg => by
      rcases h4 g hg with h6 | h6
      · exact own_low hown g h6
      · omega
    unfold Oper.wp execOp
    simp only [ho, resolve, invoke, builtin, Sem.run_bind, Sem.run_pure, Result.andThen_ok, List.map_toArray, List.map_cons, List.map_nil, hs, hx, hr]
    exact hK _ _ (h A' c' w' h5 (Only.of_grown h3) h4)
/-- One element of a literal that was just made. -/
theorem wpList_pushOne {ops : Array Oper} {rest : List Oper} {o : Oper} {a : Act} {w : World} {Q : Exit → Act → World → Prop} {P : Program} (hw : Region.wanted o (yielded ops a.tmps) = true) (s x : Operand) (t : TypeId)
    (ho : o.op = .call { callee := .builtin .append, args := #[s, x], argTypes := #[t, t] })
    (base e size bytes : Nat) (z : Value) (ht : P.underlying t = some (.slice e)) (hinfo : (P.info? e).map (fun i => (i.zero, i.size, i.bytes)) = some (some z, size, bytes))
    (hzs : z.cells.size = size) (hsz : 0 < size) (n : Nat) (v : Value) (xs : List Value) (hs : a.eval s = v) (hown : w.ownsRow base e size v n xs) (hbase : base ≤ w.heap.size)
    (g : Nat) (news : List Value) (hx : a.eval x = .slice (some ⟨g, 0, none⟩) 1 1) (hg : Whole w g e news) (hl : news.length = size) (h1 : ∀ u ∈ news, u.oneCell' = true)
    (h63 : n + 1 ≤ maxLen) (hbytes : (n + 1) * bytes ≤ 140737488355328)
    (h : ∀ A' c' w', w'.ownsRow base e size (.slice A' (n + 1) c') (n + 1) (xs ++ news) → Only v.ownBlock.toList w w' → (∀ g, (Value.slice A' (n + 1) c').ownBlock = some g → v.ownBlock = some g ∨ w.heap.size ≤ g) → wpList P ops Q rest (a.put o.dst (.slice A' (n + 1) c')) w') : wpList P ops Q (o :: rest) a w :=
  wpList_pushB hw s x t ho base e size bytes z ht hinfo hzs hsz n v xs hs hown hbase ⟨g, 0, none⟩ 1 1 news hx (by omega) (by decide) (fun j u hu => by rw [head_add, hg.cell j]; exact hu) h1 h63 hbytes h
theorem own_push {W w w' : World} {B : Nat} {v : Value} {e size n : Nat} {xs : List Value} (ho : w.ownsRow B e size v n xs) (hB : Below B W w) (hw : B ≤ w.heap.size) (h : Only v.ownBlock.toList w w') : Below B W w' :=
  hB.trans (h.below (fun x hx => (ho.lt x (by simpa using hx)).1) hw)
end Go.Proofs.YtbhdpfacfgldiaaGreatDoor
/- Two rows of the call's own, side by side. No program is named here. -/
namespace Go.Proofs.YtbhdpfacfgldiaaGreatDoor
open Go Go.RowKit
set_option linter.unusedVariables false
set_option linter.unusedSimpArgs false

structure TwoOwn (W w : World) (e s : TypeId × Nat) (v1 : Value) (n1 : Nat) (x1 : List Value) (v2 : Value) (n2 : Nat) (x2 : List Value) : Prop where
  one : w.ownsRow W.heap.size e.1 e.2 v1 n1 x1
  two : w.ownsRow W.heap.size s.1 s.2 v2 n2 x2
  far : ∀ g, v1.ownBlock = some g → v2.ownBlock ≠ some g
  low : Below W.heap.size W w
section
variable {W w w' : World} {e s : TypeId × Nat} {v1 v2 v' : Value} {n1 n2 : Nat} {x1 x2 xs : List Value}
theorem own_pushB {B : Nat} {v : Value} {e size n : Nat} {xs : List Value} (ho : w.ownsRow B e size v n xs) (hB : Below B W w) (hw : B ≤ w.heap.size) (h : Only v.ownBlock.toList w w') : Below B W w' :=
  hB.trans (h.below (fun x hx => (ho.lt x (by simpa using hx)).1) hw)
theorem TwoOwn.behind (h : TwoOwn W w e s v1 n1 x1 v2 n2 x2) (hb : Below w.heap.size w w') : TwoOwn W w' e s v1 n1 x1 v2 n2 x2 :=
  ⟨(Only.of_below (S := []) hb).owns h.one (by simp), (Only.of_below (S := []) hb).owns h.two (by simp), h.far, h.low.trans (hb.mono h.low.size)⟩
theorem TwoOwn.push1 (h : TwoOwn W w e s v1 n1 x1 v2 n2 x2) (ho : w'.ownsRow W.heap.size e.1 e.2 v' (n1 + 1) (x1 ++ xs)) (hn : Only v1.ownBlock.toList w w')
    (hk : ∀ g, v'.ownBlock = some g → v1.ownBlock = some g ∨ w.heap.size ≤ g) : TwoOwn W w' e s v' (n1 + 1) (x1 ++ xs) v2 n2 x2 :=
  ⟨ho, hn.owns h.two (fun g hg e => h.far g (by simpa using e) hg), fun g hg e => by
    rcases hk g hg with h1 | h1
    · exact h.far g h1 e
    · have := owns_lt h.two e; omega, own_pushB h.one h.low h.low.size hn⟩
theorem TwoOwn.push2 (h : TwoOwn W w e s v1 n1 x1 v2 n2 x2) (ho : w'.ownsRow W.heap.size s.1 s.2 v' (n2 + 1) (x2 ++ xs)) (hn : Only v2.ownBlock.toList w w')
    (hk : ∀ g, v'.ownBlock = some g → v2.ownBlock = some g ∨ w.heap.size ≤ g) : TwoOwn W w' e s v1 n1 x1 v' (n2 + 1) (x2 ++ xs) :=
  ⟨hn.owns h.one (fun g hg e => h.far g hg (by simpa using e)), ho, fun g hg e => by
    rcases hk g e with h1 | h1
    · exact h.far g hg h1
    · have := owns_lt h.one hg; omega, own_pushB h.two h.low h.low.size hn⟩
/-- A block of its own that is neither's. -/
theorem TwoOwn.off (h : TwoOwn W w e s v1 n1 x1 v2 n2 x2) {g : Nat} (hg : w.heap.size ≤ g) : v1.ownBlock ≠ some g ∧ v2.ownBlock ≠ some g :=
  ⟨fun e => by have := owns_lt h.one e; omega, fun e => by have := owns_lt h.two e; omega⟩
theorem TwoOwn.only {S : List Nat} (h : TwoOwn W w e s v1 n1 x1 v2 n2 x2) (ho : Only S w w') (hS : ∀ g ∈ S, v1.ownBlock ≠ some g ∧ v2.ownBlock ≠ some g ∧ W.heap.size ≤ g) : TwoOwn W w' e s v1 n1 x1 v2 n2 x2 :=
  ⟨ho.owns h.one fun g hg he => (hS g he).1 hg, ho.owns h.two fun g hg he => (hS g he).2.1 hg, h.far, h.low.trans (ho.below (fun g hg => (hS g hg).2.2) h.low.size)⟩
theorem TwoOwn.swap (h : TwoOwn W w e s v1 n1 x1 v2 n2 x2) : TwoOwn W w s e v2 n2 x2 v1 n1 x1 := ⟨h.two, h.one, fun g h2 h1 => h.far g h1 h2, h.low⟩
end
end Go.Proofs.YtbhdpfacfgldiaaGreatDoor
/- A region that draws its order and writes below what it began with, but not below B. No program is named here. -/
namespace Go.Proofs.YtbhdpfacfgldiaaGreatDoor
open Go Go.RowKit
set_option linter.unusedVariables false
set_option linter.unusedSimpArgs false

def topFB0 (ops : Array Oper) (size : Nat) (ps fl ts : List Nat) : Bool :=
  Region.noSelect ops && pureB .any ops ps (Array.replicate ops.size false) && pureB .any ops fl (firstAll ops.size ps) && turnB .any ops ts (firstAll ops.size (ps ++ fl)) && decide (ps.length + (fl.length + ts.length) = ops.size)
/-- ps hang on no world; fl read what stands below B; then the tail ts in its order. -/
theorem region_floatB {P : Program} {id B : Nat} {Q : Exit → Act → World → Prop} {a : Act} {w : World} {l : List Oper} (ps fl ts : List Nat) (hm : P.follows .mixedOrders = true) (hB : topFB0 l.toArray a.tmps.size ps fl ts = true) 
    (hQ : ∀ c (a : Act) (d : Tmp) v w, Q (.panic c) (a.put (some d) v) w → Q (.panic c) a w)
    (h : wpQuiet P l.toArray (fun _ => True) (fun a1 => wpQuiet P l.toArray (fun w' => ∃ s : Later B w, w' = s.w) (fun a2 => ∀ w', Behind w w' → wpTail P l.toArray Q (Below B w) (pick l ts) a2 w') (pick l fl) a1) (pick l ps) a) : (Code.region id l.toArray true).wp P Q a w := by
  simp only [topFB0, Bool.and_eq_true, decide_eq_true_eq] at hB
  obtain ⟨⟨⟨⟨hsel, hp⟩, hfl⟩, hseq⟩, hlen⟩ := hB
  refine wp_region_any hm ?_
  have hfold : fl.foldl (fun L k => L.setIfInBounds k true) (firstAll l.toArray.size ps) = firstAll l.toArray.size (ps ++ fl) := by simp [firstAll, List.foldl_append]
  have key : ∀ fuel, fuel = ps.length + (fl.length + ts.length) → wpAny P .any l.toArray Q fuel (Array.replicate l.toArray.size false) a { w with drawn := w.drawn + 1 } := by
    intro fuel hfuel
    rw [hfuel]
    rw [← pick_eq ps (by simpa using pure_lt ps _ hp)] at h
    refine pure_first hsel hQ ps _ a hp h fun a1 h1 => ?_
    rw [← pick_eq fl (by simpa using pure_lt fl _ hfl)] at h1
    have hd : Below B w { w with drawn := w.drawn + 1 } := ⟨rfl, rfl, rfl, Nat.le_refl _, fun _ _ => rfl⟩
    refine wpAny_of_C (C := Below B w) _ _ _ _ (float_first hsel hQ hd fl _ a1 hfl (wpQuiet_class (fun w' => ⟨fun hb => ⟨⟨w', hb⟩, rfl⟩, fun ⟨s, e⟩ => e ▸ s.h⟩) _ _ h1) fun a2 h2 => ?_)
    show wpAnyC P .any l.toArray Q (Below B w) _ (fl.foldl (fun L k => L.setIfInBounds k true) (firstAll l.toArray.size ps)) a2 _
    rw [hfold]
    refine anyC_of_turn ts _ a2 _ hseq ?_
    rw [pick_eq ts (by simpa using turn_lt ts _ hseq)]
    exact h2 _ (Behind.drawn w)
  exact key _ hlen.symm
end Go.Proofs.YtbhdpfacfgldiaaGreatDoor
/- The words of each Prop. No program is named here. -/
set_option linter.unusedVariables false
set_option linter.unusedSimpArgs false
namespace Go.Proofs.YtbhdpfacfgldiaaGreatDoor
open Go.RowKit

def wordsS (p : Int) : List ByteArray :=
  if p = 1 then [⟨#[98, 108, 111, 99, 107]⟩, ⟨#[105, 110, 108, 105, 110, 101]⟩, ⟨#[102, 108, 101, 120]⟩, ⟨#[110, 111, 110, 101]⟩]
  else if p = 20 then [⟨#[114, 111, 119]⟩, ⟨#[114, 111, 119, 45, 114, 101, 118, 101, 114, 115, 101]⟩, ⟨#[99, 111, 108, 117, 109, 110]⟩, ⟨#[99, 111, 108, 117, 109, 110, 45, 114, 101, 118, 101, 114, 115, 101]⟩]
  else if p = 21 then [⟨#[110, 111, 119, 114, 97, 112]⟩, ⟨#[119, 114, 97, 112]⟩, ⟨#[119, 114, 97, 112, 45, 114, 101, 118, 101, 114, 115, 101]⟩]
  else if p = 26 then [⟨#[115, 116, 97, 114, 116]⟩, ⟨#[101, 110, 100]⟩, ⟨#[99, 101, 110, 116, 101, 114]⟩, ⟨#[98, 101, 116, 119, 101, 101, 110]⟩, ⟨#[97, 114, 111, 117, 110, 100]⟩]
  else if p = 27 then [⟨#[115, 116, 97, 114, 116]⟩, ⟨#[101, 110, 100]⟩, ⟨#[99, 101, 110, 116, 101, 114]⟩, ⟨#[115, 116, 114, 101, 116, 99, 104]⟩]
  else if p = 28 then [⟨#[97, 117, 116, 111]⟩, ⟨#[115, 116, 97, 114, 116]⟩, ⟨#[101, 110, 100]⟩, ⟨#[99, 101, 110, 116, 101, 114]⟩, ⟨#[115, 116, 114, 101, 116, 99, 104]⟩]
  else if p = 29 then [⟨#[108, 101, 102, 116]⟩, ⟨#[114, 105, 103, 104, 116]⟩, ⟨#[99, 101, 110, 116, 101, 114]⟩]
  else if p = 30 then [⟨#[110, 111, 114, 109, 97, 108]⟩, ⟨#[110, 111, 119, 114, 97, 112]⟩, ⟨#[112, 114, 101]⟩]
  else if p = 32 then [⟨#[118, 105, 115, 105, 98, 108, 101]⟩, ⟨#[104, 105, 100, 100, 101, 110]⟩]
  else []
theorem wordsS_length (p : Int) : ((wordsS p).length : Int) = wordsN p := by
  by_cases h : p = 1 ∨ p = 20 ∨ p = 21 ∨ p = 26 ∨ p = 27 ∨ p = 28 ∨ p = 29 ∨ p = 30 ∨ p = 32
  · rcases h with rfl | rfl | rfl | rfl | rfl | rfl | rfl | rfl | rfl <;> rfl
  · have h1 : p ≠ 1 := by omega
    have h2 : p ≠ 20 := by omega
    have h3 : p ≠ 21 := by omega
    have h4 : p ≠ 26 := by omega
    have h5 : p ≠ 27 := by omega
    have h6 : p ≠ 28 := by omega
    have h7 : p ≠ 29 := by omega
    have h8 : p ≠ 30 := by omega
    have h9 : p ≠ 32 := by omega
    unfold wordsS wordsN
    simp [h1, h2, h3, h4, h5, h6, h7, h8, h9]
def strs (l : List ByteArray) : List Value := l.map Value.string
theorem strs_length (l : List ByteArray) : (strs l).length = l.length := by simp [strs]
end Go.Proofs.YtbhdpfacfgldiaaGreatDoor
/- (*strings.Builder).copyCheck and WriteString. -/
namespace Go.Proofs.YtbhdpfacfgldiaaGreatDoor
open Go Go.RowKit
set_option linter.unusedVariables false
set_option linter.unusedSimpArgs false
set_option maxRecDepth 100000
set_option maxHeartbeats 2000000

theorem bld_info : (Tryz.prog.info? 118).map (·.size) = some 2 := by kernel_rfl
theorem bld_lies : liesAt Tryz.prog Tryz.prog.depth 118 (2 / Tryz.prog.cellsOf 118) 0 118 1 = true := by kernel_rfl
theorem ccheck_used (b : Nat) (w : World) (h0 : w.cell? ⟨b, 0, none⟩ = some (.pointer (some ⟨b, 0, none⟩))) :
    Calls Tryz.prog 93 #[.pointer (some ⟨b, 0, none⟩)] w fun e w' => e = .returned (.tuple #[]) ∧ w' = w := by
  obtain ⟨j, hj, _⟩ := Option.map_eq_some_iff.1 bld_info
  go_enter Tryz.func93, Tryz.ntmps93
  go_wp2
  rw [Lib.run_neq_ptr_same w _ Tryz.underlying115 hj]
  go_wp2
  go_end0
  exact ⟨rfl, rfl⟩
theorem ccheck_fresh (b : Nat) (w : World) (h0 : w.cell? ⟨b, 0, none⟩ = some (.pointer none)) (hsh : w.shape? b = some (118, 2)) (hfz : w.frozen? ⟨b, 0, none⟩ = false) :
    Calls Tryz.prog 93 #[.pointer (some ⟨b, 0, none⟩)] w fun e w' => e = .returned (.tuple #[]) ∧ w' = w.setCell ⟨b, 0, none⟩ (.pointer (some ⟨b, 0, none⟩)) := by
  obtain ⟨j, hj, hjs⟩ := Option.map_eq_some_iff.1 bld_info
  go_enter Tryz.func93, Tryz.ntmps93
  go_wp2
  rw [Lib.run_to_unsafe w ⟨b, 0, none⟩ Tryz.underlying115 Tryz.underlying140 hj (by rw [hjs]; decide) hsh (Nat.zero_lt_succ 1)]
  simp only [Result.andThen]
  rw [Oper.upon_value]
  go_wp2
  rw [run_callFunc_extern Tryz.func96 (by kernel_rfl) (by kernel_rfl) (by kernel_rfl) (e := Extern.AbiNoEscape.same) (by kernel_rfl)]
  rw [Lib.run_noEscape]
  simp only [Result.andThen]
  rw [Oper.upon_value]
  go_wp2
  rw [Lib.run_from_unsafe w ⟨b, 0, none⟩ Tryz.underlying140 Tryz.underlying115 hj hsh bld_lies]
  simp only [Result.andThen]
  rw [Oper.upon_value]
  go_wp2
  go_end0
  exact ⟨rfl, rfl⟩
theorem ccheck_any (B b : Nat) (bs : List Value) (w : World) (h : Lib.IsBuilder 118 5 B b bs w) :
    Calls Tryz.prog 93 #[.pointer (some ⟨b, 0, none⟩)] w fun e w' => e = .returned (.tuple #[]) ∧ (Lib.BuilderAt 118 5 B b (.pointer (some ⟨b, 0, none⟩)) bs w' ∧ Below B w w') := by
  rcases h with h | h
  · refine (ccheck_fresh b w h.cell0 h.shape h.frozen0).mono ?_
    rintro e w' ⟨rfl, rfl⟩
    exact ⟨rfl, h.used _, (Below.refl B w).setCell (p := ⟨b, 0, none⟩) h.1 _⟩
  · refine (ccheck_used b w h.cell0).mono ?_
    rintro e w' ⟨rfl, rfl⟩
    exact ⟨rfl, h, Below.refl _ _⟩
theorem u8_info : (Tryz.prog.info? 5).map (fun i => (i.zero, i.size, i.bytes)) = some (some (.int .u8 0), 1, 1) := by kernel_rfl
theorem wstr_any (B b : Nat) (bs : List Value) (s : ByteArray) (w : World) (h : Lib.IsBuilder 118 5 B b bs w) (hlen : bs.length + s.size ≤ 140737488355328) (hBw : B ≤ w.heap.size) :
    Calls Tryz.prog 83 #[.pointer (some ⟨b, 0, none⟩), .string s] w fun e w' => e = .returned (.tuple #[.int .i64 s.size, .nilIface]) ∧ (Lib.BuilderAt 118 5 B b (.pointer (some ⟨b, 0, none⟩)) (bs ++ Lib.strCells s) w' ∧ Below B w w') := by
  obtain ⟨i0, hi, hz0, hz1, hz2⟩ := info_parts u8_info
  have CC := Lib.hid (ccheck_any B b bs w h)
  go_enter Tryz.func83, Tryz.ntmps83
  go_wp2_with fail
  refine CC.out.mono ?_
  rintro e w1 ⟨rfl, h1, hb1⟩
  obtain ⟨hB, v, hbk, hown, hne⟩ := h1
  have c0 : w1.cell? ⟨b, 0, none⟩ = some (.pointer (some ⟨b, 0, none⟩)) := by rw [Lib.cell_of_heap hbk]; rfl
  have c1 : w1.cell? ⟨b, 1, none⟩ = some v := by rw [Lib.cell_of_heap hbk]; rfl
  go_wp2_with (at_builtin; refine Lib.wpList_append_own_string _ rfl _ _ 116 9 rfl B 5 i0 Tryz.underlying116 Tryz.underlying9 hi hz0 hz1 hz2 _ _ _ rfl hown s rfl ?c3 ?c4 ?c5 ?_)
  case c3 => unfold maxLen; omega
  case c4 => omega
  case c5 => have := hb1.size; omega
  intro v' w2 hown' hgrow _
  have hlt : b < w1.heap.size := by
    rcases Nat.lt_or_ge b w1.heap.size with h' | h'
    · exact h'
    · simp [Array.getElem?_eq_none h'] at hbk
  have hb2 : w2.heap[b]? = some (.cells #[.pointer (some ⟨b, 0, none⟩), v] 118 (0, 0)) := by
    rw [hgrow.block b hlt (fun e => hne e.symm)]
    exact hbk
  have d0 : w2.cell? ⟨b, 0, none⟩ = some (.pointer (some ⟨b, 0, none⟩)) := by rw [Lib.cell_of_heap hb2]; rfl
  have d1 : w2.cell? ⟨b, 1, none⟩ = some v := by rw [Lib.cell_of_heap hb2]; rfl
  have f1 : w2.frozen? ⟨b, 1, none⟩ = false := Lib.frozen_of_heap hb2 1
  obtain ⟨ao, n', cap, rfl⟩ : ∃ ao n' cap, v' = .slice ao n' cap := by
    rcases hown'.2 with ⟨hv, _⟩ | ⟨g, cap, cur, hv, _⟩
    · exact ⟨_, _, _, hv⟩
    · exact ⟨_, _, _, hv⟩
  go_wp2
  go_ret2
  refine ⟨rfl, ?_, ?_⟩
  · exact Lib.BuilderAt.put (T := 118) (e := 5) hB hb2 (bs' := bs ++ Lib.strCells s) (by simpa [Lib.strCells_length] using hown') (by decide)
  · exact (hb1.grown hgrow (by have := hb1.size; omega) (fun k hk => (hown.lt k hk).1)).setCell (p := ⟨b, 1, none⟩) hB _
end Go.Proofs.YtbhdpfacfgldiaaGreatDoor
/- Rows of bytes of one sort. No program is named here. -/
namespace Go.Proofs.YtbhdpfacfgldiaaGreatDoor
set_option linter.unusedVariables false
set_option linter.unusedSimpArgs false
open Go.RowKit

def bytesOf (s : ByteArray) : List UInt8 := s.data.toList
theorem bytesOf_length (s : ByteArray) : (bytesOf s).length = s.size := by simp [bytesOf]
theorem bytesOf_get (s : ByteArray) (k : Nat) (h : k < s.size) : (bytesOf s)[k]'(by rw [bytesOf_length]; exact h) = s[k] := rfl
/-- How many bytes of one sort stand from a place on. -/
def rowN (f : UInt8 → Bool) (l : List UInt8) (at_ : Nat) : Nat := ((l.drop at_).takeWhile f).length
theorem takeWhile_step {f : UInt8 → Bool} : ∀ (l : List UInt8) (k : Nat), k ≤ (l.takeWhile f).length →
    (∀ h : k < l.length, f l[k] = true → k + 1 ≤ (l.takeWhile f).length) ∧ (∀ h : k < l.length, f l[k] = false → k = (l.takeWhile f).length) ∧ (l.length ≤ k → k = (l.takeWhile f).length) ∧ (l.takeWhile f).length ≤ l.length
  | [], k, h => by simp at h ⊢; omega
  | c :: r, k, h => by
    by_cases hc : f c = true
    · rw [List.takeWhile_cons_of_pos hc] at h ⊢
      cases k with
      | zero =>
        have := takeWhile_step (f := f) r 0 (Nat.zero_le _)
        refine ⟨fun _ _ => by simp, fun _ h1 => by simp [hc] at h1, fun h1 => by simp at h1, by simp; exact this.2.2.2⟩
      | succ k =>
        obtain ⟨h1, h2, h3, h4⟩ := takeWhile_step r k (by simpa using h)
        refine ⟨fun h hf => ?_, fun h hf => ?_, fun h => ?_, by simpa using h4⟩
        · have := h1 (by simpa using h) (by simpa using hf); simp; omega
        · have := h2 (by simpa using h) (by simpa using hf); simp; omega
        · have := h3 (by simpa using h); simp; omega
    · rw [List.takeWhile_cons_of_neg hc] at h ⊢
      have hk : k = 0 := by simpa using h
      subst hk
      refine ⟨fun _ h1 => by simp at h1; exact absurd h1 hc, fun _ _ => by simp, fun _ => by simp, by simp⟩
section
variable {f : UInt8 → Bool} {l : List UInt8} {a k : Nat}
theorem rowN_le (f : UInt8 → Bool) (l : List UInt8) (a : Nat) (h : a ≤ l.length) : a + rowN f l a ≤ l.length := by
  have := (takeWhile_step (f := f) (l.drop a) 0 (Nat.zero_le _)).2.2.2
  unfold rowN
  simp at this
  omega
theorem rowN_more (hk : k ≤ rowN f l a) (h : a + k < l.length) (hf : f l[a + k] = true) : k + 1 ≤ rowN f l a := by
  have := (takeWhile_step (f := f) (l.drop a) k hk).1 (by simp; omega)
  simp only [List.getElem_drop] at this
  exact this hf
theorem rowN_stop (hk : k ≤ rowN f l a) (h : a + k < l.length) (hf : f l[a + k] = false) : k = rowN f l a := by
  have := (takeWhile_step (f := f) (l.drop a) k hk).2.1 (by simp; omega)
  simp only [List.getElem_drop] at this
  exact this hf
theorem rowN_end (hk : k ≤ rowN f l a) (h : l.length ≤ a + k) : k = rowN f l a :=
  (takeWhile_step (f := f) (l.drop a) k hk).2.2.1 (by simp; omega)
theorem takeWhile_all : ∀ (l : List UInt8) (k : Nat) (h : k < (l.takeWhile f).length), ∃ h' : k < l.length, f l[k] = true
  | [], k, h => by simp at h
  | c :: r, k, h => by
    by_cases hc : f c = true
    · rw [List.takeWhile_cons_of_pos hc] at h
      cases k with
      | zero => exact ⟨by simp, hc⟩
      | succ k =>
        obtain ⟨h1, h2⟩ := takeWhile_all r k (by simpa using h)
        exact ⟨by simp; omega, by simpa using h2⟩
    · rw [List.takeWhile_cons_of_neg hc] at h
      simp at h
theorem rowN_all (h : k < rowN f l a) : ∃ h' : a + k < l.length, f l[a + k] = true := by
  obtain ⟨h1, h2⟩ := takeWhile_all (f := f) (l.drop a) k h
  simp at h1
  refine ⟨by omega, ?_⟩
  simpa only [List.getElem_drop] using h2
end
def isDig (c : UInt8) : Bool := decide (48 ≤ (c.toNat : Int) ∧ (c.toNat : Int) ≤ 57)
def blankB (c : UInt8) : Bool := decide ((c.toNat : Int) = 32 ∨ (c.toNat : Int) = 9 ∨ (c.toNat : Int) = 10)
def nameB (c : UInt8) : Bool := decide ((97 ≤ (c.toNat : Int) ∧ (c.toNat : Int) ≤ 122) ∨ (c.toNat : Int) = 45)
def valB (c : UInt8) : Bool := decide (((97 ≤ (c.toNat : Int) ∧ (c.toNat : Int) ≤ 122) ∨ (c.toNat : Int) = 45) ∨ (48 ≤ (c.toNat : Int) ∧ (c.toNat : Int) ≤ 57) ∨ (c.toNat : Int) = 46 ∨ (c.toNat : Int) = 37)
end Go.Proofs.YtbhdpfacfgldiaaGreatDoor
/- The document's answer: rows of bytes in a text. -/
namespace Go.Proofs.YtbhdpfacfgldiaaGreatDoor
open Go Go.RowKit
set_option linter.unusedVariables false
set_option linter.unusedSimpArgs false
set_option maxRecDepth 20000
set_option maxHeartbeats 4000000

theorem rblank_any (c : UInt8) (w : World) : Calls Tryz.prog 72 #[.int .u8 c.toNat] w fun e w' => e = .returned (.bool (blankB c)) ∧ w = w' := by
  have hd : blankB c = decide ((c.toNat : Int) = 32 ∨ (c.toNat : Int) = 9 ∨ (c.toNat : Int) = 10) := rfl
  generalize hb : blankB c = b at *
  clear hb
  rcases (show ((c.toNat : Int) = 32) ∨ ((c.toNat : Int) = 9) ∨ ((c.toNat : Int) = 10) ∨ ((c.toNat : Int) ≠ 32 ∧ (c.toNat : Int) ≠ 9 ∧ (c.toNat : Int) ≠ 10) by omega) with h | h | h | h
  · have HR := Lib.hid (hd.trans (decide_eq_true (by omega)))
    have f0 : ((c.toNat : Int) == 32) = true := beq_iff_eq.2 (by omega)
    clear h hd
    go_enter Tryz.func72, Tryz.ntmps72
    go_wp2
    go_ret
    exact ⟨ret_bool HR.out.symm, rfl⟩
  · have HR := Lib.hid (hd.trans (decide_eq_true (by omega)))
    have f0 : ((c.toNat : Int) == 32) = false := beq_eq_false_iff_ne.2 (by omega)
    have f1 : ((c.toNat : Int) == 9) = true := beq_iff_eq.2 (by omega)
    clear h hd
    go_enter Tryz.func72, Tryz.ntmps72
    go_wp2
    go_ret
    exact ⟨ret_bool HR.out.symm, rfl⟩
  · have HR := Lib.hid (hd.trans (decide_eq_true (by omega)))
    have f0 : ((c.toNat : Int) == 32) = false := beq_eq_false_iff_ne.2 (by omega)
    have f1 : ((c.toNat : Int) == 9) = false := beq_eq_false_iff_ne.2 (by omega)
    have f2 : ((c.toNat : Int) == 10) = true := beq_iff_eq.2 (by omega)
    clear h hd
    go_enter Tryz.func72, Tryz.ntmps72
    go_wp2
    go_ret
    exact ⟨ret_bool HR.out.symm, rfl⟩
  · have HR := Lib.hid (hd.trans (decide_eq_false (by omega)))
    have f0 : ((c.toNat : Int) == 32) = false := beq_eq_false_iff_ne.2 (by omega)
    have f1 : ((c.toNat : Int) == 9) = false := beq_eq_false_iff_ne.2 (by omega)
    have f2 : ((c.toNat : Int) == 10) = false := beq_eq_false_iff_ne.2 (by omega)
    clear h hd
    go_enter Tryz.func72, Tryz.ntmps72
    go_wp2
    go_ret
    exact ⟨ret_bool HR.out.symm, rfl⟩
theorem rinName_any (c : UInt8) (w : World) : Calls Tryz.prog 65 #[.int .u8 c.toNat] w fun e w' => e = .returned (.bool (nameB c)) ∧ w = w' := by
  have hd : nameB c = decide ((97 ≤ (c.toNat : Int) ∧ (c.toNat : Int) ≤ 122) ∨ (c.toNat : Int) = 45) := rfl
  generalize hb : nameB c = b at *
  clear hb
  rcases (show (97 ≤ (c.toNat : Int) ∧ (c.toNat : Int) ≤ 122) ∨ ((c.toNat : Int) = 45) ∨ ((c.toNat : Int) < 97 ∧ (c.toNat : Int) ≠ 45) ∨ (122 < (c.toNat : Int)) by omega) with h | h | h | h
  · have HR := Lib.hid (hd.trans (decide_eq_true (by omega)))
    have f0 : decide (97 ≤ (c.toNat : Int)) = true := decide_eq_true (by omega)
    have f1 : decide ((c.toNat : Int) ≤ 122) = true := decide_eq_true (by omega)
    clear h hd
    go_enter Tryz.func65, Tryz.ntmps65
    go_wp2
    go_ret
    exact ⟨ret_bool HR.out.symm, rfl⟩
  · have HR := Lib.hid (hd.trans (decide_eq_true (by omega)))
    have f0 : decide (97 ≤ (c.toNat : Int)) = false := decide_eq_false (by omega)
    have f1 : ((c.toNat : Int) == 45) = true := beq_iff_eq.2 (by omega)
    clear h hd
    go_enter Tryz.func65, Tryz.ntmps65
    go_wp2
    go_ret
    exact ⟨ret_bool HR.out.symm, rfl⟩
  · have HR := Lib.hid (hd.trans (decide_eq_false (by omega)))
    have f0 : decide (97 ≤ (c.toNat : Int)) = false := decide_eq_false (by omega)
    have f1 : ((c.toNat : Int) == 45) = false := beq_eq_false_iff_ne.2 (by omega)
    clear h hd
    go_enter Tryz.func65, Tryz.ntmps65
    go_wp2
    go_ret
    exact ⟨ret_bool HR.out.symm, rfl⟩
  · have HR := Lib.hid (hd.trans (decide_eq_false (by omega)))
    have f0 : decide (97 ≤ (c.toNat : Int)) = true := decide_eq_true (by omega)
    have f1 : decide ((c.toNat : Int) ≤ 122) = false := decide_eq_false (by omega)
    have f2 : ((c.toNat : Int) == 45) = false := beq_eq_false_iff_ne.2 (by omega)
    clear h hd
    go_enter Tryz.func65, Tryz.ntmps65
    go_wp2
    go_ret
    exact ⟨ret_bool HR.out.symm, rfl⟩
theorem rinName_val (c : UInt8) (b : Bool) (h : nameB c = b) (w : World) : Calls Tryz.prog 65 #[.int .u8 c.toNat] w fun e w' => e = .returned (.bool b) ∧ w = w' := h ▸ rinName_any c w
theorem rinValue_any (c : UInt8) (w : World) : Calls Tryz.prog 66 #[.int .u8 c.toNat] w fun e w' => e = .returned (.bool (valB c)) ∧ w = w' := by
  have hd : valB c = decide (((97 ≤ (c.toNat : Int) ∧ (c.toNat : Int) ≤ 122) ∨ (c.toNat : Int) = 45) ∨ (48 ≤ (c.toNat : Int) ∧ (c.toNat : Int) ≤ 57) ∨ (c.toNat : Int) = 46 ∨ (c.toNat : Int) = 37) := rfl
  generalize hb : valB c = b at *
  clear hb
  rcases (show ((97 ≤ (c.toNat : Int) ∧ (c.toNat : Int) ≤ 122) ∨ (c.toNat : Int) = 45) ∨ (48 ≤ (c.toNat : Int) ∧ (c.toNat : Int) ≤ 57) ∨ ((c.toNat : Int) = 46) ∨ ((c.toNat : Int) = 37) ∨ (¬ ((97 ≤ (c.toNat : Int) ∧ (c.toNat : Int) ≤ 122) ∨ (c.toNat : Int) = 45) ∧ (c.toNat : Int) < 48 ∧ (c.toNat : Int) ≠ 46 ∧ (c.toNat : Int) ≠ 37) ∨ (¬ ((97 ≤ (c.toNat : Int) ∧ (c.toNat : Int) ≤ 122) ∨ (c.toNat : Int) = 45) ∧ 57 < (c.toNat : Int)) by omega) with h | h | h | h | h | h
  · have HR := Lib.hid (hd.trans (decide_eq_true (by omega)))
    have HN := Lib.hid (show nameB c = true from decide_eq_true (by omega))
    clear h hd
    go_enter Tryz.func66, Tryz.ntmps66
    go_wp2_with (go_at_call 65; refine (rinName_val c true HN.out _).mono ?_; rintro e w' ⟨rfl, rfl⟩)
    go_ret
    exact ⟨ret_bool HR.out.symm, rfl⟩
  · have HR := Lib.hid (hd.trans (decide_eq_true (by omega)))
    have f0 : decide (48 ≤ (c.toNat : Int)) = true := decide_eq_true (by omega)
    have f1 : decide ((c.toNat : Int) ≤ 57) = true := decide_eq_true (by omega)
    have HN := Lib.hid (show nameB c = false from decide_eq_false (by omega))
    clear h hd
    go_enter Tryz.func66, Tryz.ntmps66
    go_wp2_with (go_at_call 65; refine (rinName_val c false HN.out _).mono ?_; rintro e w' ⟨rfl, rfl⟩)
    go_ret
    exact ⟨ret_bool HR.out.symm, rfl⟩
  · have HR := Lib.hid (hd.trans (decide_eq_true (by omega)))
    have f0 : decide (48 ≤ (c.toNat : Int)) = false := decide_eq_false (by omega)
    have f1 : ((c.toNat : Int) == 46) = true := beq_iff_eq.2 (by omega)
    have HN := Lib.hid (show nameB c = false from decide_eq_false (by omega))
    clear h hd
    go_enter Tryz.func66, Tryz.ntmps66
    go_wp2_with (go_at_call 65; refine (rinName_val c false HN.out _).mono ?_; rintro e w' ⟨rfl, rfl⟩)
    go_ret
    exact ⟨ret_bool HR.out.symm, rfl⟩
  · have HR := Lib.hid (hd.trans (decide_eq_true (by omega)))
    have f0 : decide (48 ≤ (c.toNat : Int)) = false := decide_eq_false (by omega)
    have f1 : ((c.toNat : Int) == 46) = false := beq_eq_false_iff_ne.2 (by omega)
    have f2 : ((c.toNat : Int) == 37) = true := beq_iff_eq.2 (by omega)
    have HN := Lib.hid (show nameB c = false from decide_eq_false (by omega))
    clear h hd
    go_enter Tryz.func66, Tryz.ntmps66
    go_wp2_with (go_at_call 65; refine (rinName_val c false HN.out _).mono ?_; rintro e w' ⟨rfl, rfl⟩)
    go_ret
    exact ⟨ret_bool HR.out.symm, rfl⟩
  · have HR := Lib.hid (hd.trans (decide_eq_false (by omega)))
    have f0 : decide (48 ≤ (c.toNat : Int)) = false := decide_eq_false (by omega)
    have f1 : ((c.toNat : Int) == 46) = false := beq_eq_false_iff_ne.2 (by omega)
    have f2 : ((c.toNat : Int) == 37) = false := beq_eq_false_iff_ne.2 (by omega)
    have HN := Lib.hid (show nameB c = false from decide_eq_false (by omega))
    clear h hd
    go_enter Tryz.func66, Tryz.ntmps66
    go_wp2_with (go_at_call 65; refine (rinName_val c false HN.out _).mono ?_; rintro e w' ⟨rfl, rfl⟩)
    go_ret
    exact ⟨ret_bool HR.out.symm, rfl⟩
  · have HR := Lib.hid (hd.trans (decide_eq_false (by omega)))
    have f0 : decide (48 ≤ (c.toNat : Int)) = true := decide_eq_true (by omega)
    have f1 : decide ((c.toNat : Int) ≤ 57) = false := decide_eq_false (by omega)
    have f2 : ((c.toNat : Int) == 46) = false := beq_eq_false_iff_ne.2 (by omega)
    have f3 : ((c.toNat : Int) == 37) = false := beq_eq_false_iff_ne.2 (by omega)
    have HN := Lib.hid (show nameB c = false from decide_eq_false (by omega))
    clear h hd
    go_enter Tryz.func66, Tryz.ntmps66
    go_wp2_with (go_at_call 65; refine (rinName_val c false HN.out _).mono ?_; rintro e w' ⟨rfl, rfl⟩)
    go_ret
    exact ⟨ret_bool HR.out.symm, rfl⟩
theorem rblank_val (c : UInt8) (b : Bool) (h : blankB c = b) (w : World) : Calls Tryz.prog 72 #[.int .u8 c.toNat] w fun e w' => e = .returned (.bool b) ∧ w = w' := h ▸ rblank_any c w
theorem rinValue_val (c : UInt8) (b : Bool) (h : valB c = b) (w : World) : Calls Tryz.prog 66 #[.int .u8 c.toNat] w fun e w' => e = .returned (.bool b) ∧ w = w' := h ▸ rinValue_any c w
theorem cast_add (a k : Nat) : (Value.int .i64 ((a : Int) + k)) = .int .i64 ((a + k : Nat) : Int) := by push_cast; rfl
theorem rskip_any (s : ByteArray) (a : Nat) (w : World) (hs : s.size ≤ 4611686018427387904) (ha : a ≤ s.size) :
    Calls Tryz.prog 64 #[.string s, .int .i64 a] w fun e w' => e = .returned (.int .i64 ((a + rowN blankB (bytesOf s) a : Nat) : Int)) ∧ w = w' := by
  have HL := Lib.hid (bytesOf_length s)
  go_enter Tryz.func64, Tryz.ntmps64
  go_wp2
  go_loop [1] (fun i => ∃ k : Nat, k ≤ rowN blankB (bytesOf s) a ∧ i = .int .i64 ((a + k : Nat) : Int)) (fun i => s.size - (intOf i).toNat)
  case atStart => exact ⟨0, Nat.zero_le _, rfl⟩
  case round =>
    obtain ⟨k, hk, rfl⟩ := hrel
    have hle := rowN_le blankB (bytesOf s) a (by rw [HL.out]; exact ha)
    rw [HL.out] at hle
    by_cases hlt : a + k < s.size
    · have hi : ((a : Int) + k) < s.size := by omega
      go_wp2_with fail
      cases hb : blankB s[a + k] with
      | true =>
        have HK := Lib.hid (rowN_more hk (by rw [HL.out]; exact hlt) hb)
        refine (rblank_val _ true hb _).mono ?_
        rintro e w' ⟨rfl, rfl⟩
        clear hb
        go_wp2
        go_round
        case rel => exact ⟨k + 1, HK.out, by go_num⟩
        case measure => simp [intOf]; omega
      | false =>
        have HK := Lib.hid (rowN_stop hk (by rw [HL.out]; exact hlt) hb)
        refine (rblank_val _ false hb _).mono ?_
        rintro e w' ⟨rfl, rfl⟩
        clear hb
        go_wp2
        go_ret
        exact ⟨by rw [← HK.out]; first | rfl | (push_cast; rfl), rfl⟩
    · have HK := Lib.hid (rowN_end hk (by rw [HL.out]; omega))
      have hi : ¬ ((a : Int) + k) < s.size := by omega
      go_wp2
      go_ret
      exact ⟨by rw [← HK.out]; first | rfl | (push_cast; rfl), rfl⟩
theorem rdigits_any (s : ByteArray) (a : Nat) (w : World) (hs : s.size ≤ 4611686018427387904) (ha : a ≤ s.size) :
    Calls Tryz.prog 88 #[.string s, .int .i64 a] w fun e w' => e = .returned (.int .i64 (rowN isDig (bytesOf s) a : Nat)) ∧ w = w' := by
  have HL := Lib.hid (bytesOf_length s)
  go_enter Tryz.func88, Tryz.ntmps88
  go_wp2
  go_loop [5] (fun i => ∃ k : Nat, k ≤ rowN isDig (bytesOf s) a ∧ i = .int .i64 (k : Int)) (fun i => s.size - (intOf i).toNat)
  case atStart => exact ⟨0, Nat.zero_le _, rfl⟩
  case round =>
    obtain ⟨k, hk, rfl⟩ := hrel
    have hle := rowN_le isDig (bytesOf s) a (by rw [HL.out]; exact ha)
    rw [HL.out] at hle
    by_cases hlt : a + k < s.size
    · have hi : ((a : Int) + k) < s.size := by omega
      by_cases hb : 48 ≤ (s[a + k].toNat : Int) ∧ (s[a + k].toNat : Int) ≤ 57
      · have HK := Lib.hid (rowN_more hk (by rw [HL.out]; exact hlt) (show isDig s[a + k] = true from decide_eq_true hb))
        obtain ⟨hb1, hb2⟩ := hb
        go_wp2
        go_round
        case rel => exact ⟨k + 1, HK.out, by go_num⟩
        case measure => simp [intOf]; omega
      · have HK := Lib.hid (rowN_stop hk (by rw [HL.out]; exact hlt) (show isDig s[a + k] = false from decide_eq_false hb))
        by_cases hb1 : 48 ≤ (s[a + k].toNat : Int)
        all_goals
          have hb2 : (s[a + k].toNat : Int) < 48 ∨ 57 < (s[a + k].toNat : Int) := by omega
          go_wp2
          all_goals
            go_ret
            exact ⟨by rw [← HK.out]; rfl, rfl⟩
    · have HK := Lib.hid (rowN_end hk (by rw [HL.out]; omega))
      have hi : ¬ ((a : Int) + k) < s.size := by omega
      go_wp2
      go_ret
      exact ⟨by rw [← HK.out]; rfl, rfl⟩
end Go.Proofs.YtbhdpfacfgldiaaGreatDoor
/- Numbers in texts. No program is named here. -/
namespace Go.Proofs.YtbhdpfacfgldiaaGreatDoor
set_option linter.unusedVariables false
set_option linter.unusedSimpArgs false
open Go.RowKit

/-- The value of k digits from a place on, behind a value. -/
def digV (l : List UInt8) (a : Nat) (v : Int) : Nat → Int
  | 0 => v
  | k + 1 => 10 * digV l a v k + (((l.getD (a + k) 48).toNat : Int) - 48)
def negB (l : List UInt8) : Bool := l.head? == some 45
def signZ (ng : Bool) (v : Int) : Int := match ng with | true => -v | false => v
/-- A number of at most ah digits, and bh behind the point, in its last digits; where the rest begins. -/
def numZ (l : List UInt8) (ah bh : Nat) : Option (Int × Nat) :=
  let a := (negB l).toNat
  let n := rowN isDig l a
  if n < 1 ∨ ah < n then none
  else if l[a + n]? = some 46 then
    let k := rowN isDig l (a + n + 1)
    if k < 1 ∨ bh < k then none
    else some (signZ (negB l) (digV l (a + n + 1) (digV l a 0 n) k * 10 ^ (bh - k)), a + n + 1 + k)
  else some (signZ (negB l) (digV l a 0 n * 10 ^ bh), a + n)
theorem digV_bd (l : List UInt8) (a : Nat) (v M : Int) (h0 : 0 ≤ v) (h1 : v < M) : ∀ k, k ≤ rowN isDig l a → 0 ≤ digV l a v k ∧ digV l a v k < M * 10 ^ k
  | 0, _ => by simp [digV]; exact ⟨h0, h1⟩
  | k + 1, hk => by
    obtain ⟨h2, h3⟩ := digV_bd l a v M h0 h1 k (by omega)
    obtain ⟨h4, h5⟩ := rowN_all (f := isDig) (l := l) (a := a) (k := k) (by omega)
    have h6 := of_decide_eq_true h5
    have e : l.getD (a + k) 48 = l[a + k] := by simp [List.getD, h4]
    have e2 : M * 10 ^ (k + 1) = 10 * (M * 10 ^ k) := by rw [Int.pow_succ, ← Int.mul_assoc, Int.mul_comm]
    rw [e2]
    generalize M * 10 ^ k = X at *
    simp only [digV, e]
    omega
theorem pow5 (j : Nat) (h : j ≤ 5) : (1 : Int) ≤ 10 ^ j ∧ (10 : Int) ^ j ≤ 100000 := by
  rcases (show j = 0 ∨ j = 1 ∨ j = 2 ∨ j = 3 ∨ j = 4 ∨ j = 5 by omega) with rfl | rfl | rfl | rfl | rfl | rfl <;> decide
theorem digV_first (l : List UInt8) (a j : Nat) (h5 : j ≤ 5) (h : j ≤ rowN isDig l a) : 0 ≤ digV l a 0 j ∧ digV l a 0 j ≤ 99999 := by
  have h1 := digV_bd l a 0 1 (by omega) (by omega) j h
  have h2 := pow5 j h5
  omega
theorem digV_next (l : List UInt8) (a j : Nat) (v : Int) (h0 : 0 ≤ v) (h1 : v ≤ 99999) (h3 : j ≤ 3) (h : j ≤ rowN isDig l a) : 0 ≤ digV l a v j ∧ digV l a v j ≤ 99999999 := by
  have h2 := digV_bd l a v 100000 (by omega) (by omega) j h
  rcases (show j = 0 ∨ j = 1 ∨ j = 2 ∨ j = 3 by omega) with rfl | rfl | rfl | rfl <;> omega
theorem digV_get (s : ByteArray) (a : Nat) (v : Int) (j : Nat) (h : a + j < s.size) : digV (bytesOf s) a v (j + 1) = 10 * digV (bytesOf s) a v j + ((s[a + j].toNat : Int) - 48) := by
  have h' : a + j < (bytesOf s).length := by rw [bytesOf_length]; exact h
  have e : (bytesOf s).getD (a + j) 48 = s[a + j] := by simp only [List.getD, List.getElem?_eq_getElem h', Option.getD_some]; rfl
  show 10 * digV (bytesOf s) a v j + ((((bytesOf s).getD (a + j) 48).toNat : Int) - 48) = _
  rw [e]; rfl
theorem dig_at (s : ByteArray) (a j : Nat) (h : j < rowN isDig (bytesOf s) a) : ∃ h' : a + j < s.size, 48 ≤ (s[a + j].toNat : Int) ∧ (s[a + j].toNat : Int) ≤ 57 := by
  obtain ⟨h1, h2⟩ := rowN_all h
  exact ⟨by rw [← bytesOf_length]; exact h1, of_decide_eq_true h2⟩
theorem u8_eq {c : UInt8} {n : Nat} (h : (c.toNat : Int) = n) (hn : n < 256) : c = UInt8.ofNat n := by
  apply UInt8.toNat_inj.1
  have : c.toNat = n := by omega
  simp [this]; omega
theorem byte_at (s : ByteArray) (i : Nat) (n : Nat) (hn : n < 256) : ((bytesOf s)[i]? = some (UInt8.ofNat n)) ↔ ∃ h : i < s.size, (s[i].toNat : Int) = n := by
  constructor
  · intro h
    obtain ⟨h1, h2⟩ := List.getElem?_eq_some_iff.1 h
    refine ⟨by rw [← bytesOf_length]; exact h1, ?_⟩
    have h3 : s[i]'(by rw [← bytesOf_length]; exact h1) = UInt8.ofNat n := h2
    rw [h3]
    simp
    omega
  · rintro ⟨h, e⟩
    have h1 : i < (bytesOf s).length := by rw [bytesOf_length]; exact h
    rw [List.getElem?_eq_getElem h1]
    exact congrArg some (u8_eq e hn)
theorem neg_le (l : List UInt8) : (negB l).toNat ≤ l.length := by
  cases l with
  | nil => simp [negB]
  | cons c r => have := Bool.toNat_le (negB (c :: r)); simp; omega
end Go.Proofs.YtbhdpfacfgldiaaGreatDoor
/- Lengths and whole numbers of texts, as the document has them. No program is named here. -/
namespace Go.Proofs.YtbhdpfacfgldiaaGreatDoor
set_option linter.unusedVariables false
set_option linter.unusedSimpArgs false
open Go Go.RowKit

def restIs (l : List UInt8) (r : Nat) (t : List UInt8) : Bool := l.drop r == t
def pixR (l : List UInt8) : Option Int := if l = [48] then some 0 else match numZ l 5 3 with
  | some (v, r) => if restIs l r [112, 120] = true then some (pxZ v) else none
  | none => none
def pctR (l : List UInt8) : Option Int := match numZ l 4 2 with
  | some (v, r) => if restIs l r [37] = true then some v else none
  | none => none
def lenR (l : List UInt8) : Option (Int × Int) := match pixR l with
  | some v => some (1, v)
  | none => match pctR l with
    | some v => some (2, v)
    | none => none
def wholeR (l : List UInt8) (lo hi : Int) : Option Int := match numZ l 4 0 with
  | some (v, r) => if restIs l r [] = true ∧ lo ≤ v ∧ v ≤ hi then some v else none
  | none => none
theorem eq_bytes (s : ByteArray) (t : List UInt8) : (s.toList == t) = (bytesOf s == t) := by rw [ByteArray.toList_eq]; rfl
theorem rest_bytes (s : ByteArray) (r : Nat) (t : List UInt8) : ((s.extract r s.size).toList == t) = restIs (bytesOf s) r t := by
  rw [ByteArray.toList_eq, Lib.extract_to_end]; rfl
theorem times_bd (v : Int) (j : Nat) (h0 : 0 ≤ v) (h1 : v ≤ 99999999) (h : j ≤ 3) : 0 ≤ v * 10 ^ j ∧ v * 10 ^ j ≤ 99999999000 := by
  rcases (show j = 0 ∨ j = 1 ∨ j = 2 ∨ j = 3 by omega) with rfl | rfl | rfl | rfl <;> omega
theorem sign_bd (ng : Bool) (v : Int) (h0 : 0 ≤ v) (h1 : v ≤ 99999999000) : -99999999000 ≤ signZ ng v ∧ signZ ng v ≤ 99999999000 := by
  cases ng <;> simp [signZ] <;> omega
theorem numZ_bd {l : List UInt8} {ah bh : Nat} {v : Int} {r : Nat} (ha : ah ≤ 5) (hb : bh ≤ 3) (h : numZ l ah bh = some (v, r)) : -99999999000 ≤ v ∧ v ≤ 99999999000 := by
  unfold numZ at h
  simp only at h
  split at h
  · cases h
  · rename_i h1
    have d := digV_first l (negB l).toNat (rowN isDig l (negB l).toNat) (by omega) (Nat.le_refl _)
    split at h
    · split at h
      · cases h
      · rename_i h2 h3
        injection h with h
        injection h with h4 h5
        have e := digV_next l ((negB l).toNat + rowN isDig l (negB l).toNat + 1) (rowN isDig l ((negB l).toNat + rowN isDig l (negB l).toNat + 1)) _ d.1 d.2 (by omega) (Nat.le_refl _)
        have t := times_bd _ (bh - rowN isDig l ((negB l).toNat + rowN isDig l (negB l).toNat + 1)) e.1 e.2 (by omega)
        rw [← h4]
        exact sign_bd _ _ t.1 t.2
    · injection h with h
      injection h with h4 h5
      have t := times_bd _ bh d.1 (by omega) hb
      rw [← h4]
      exact sign_bd _ _ t.1 t.2
end Go.Proofs.YtbhdpfacfgldiaaGreatDoor
/- quoinref1.Held. -/
namespace Go.Proofs.YtbhdpfacfgldiaaGreatDoor
open Go.RowKit
set_option linter.unusedVariables false
set_option linter.unusedSimpArgs false

theorem rheld_any (n lo hi : Int) (w : World) :
    Calls Tryz.prog 91 #[.int .i64 n, .int .i64 lo, .int .i64 hi] w fun e w' => e = .returned (.int .i64 (min (max n lo) hi)) ∧ w = w' := by
  go_enter Tryz.func91, Tryz.ntmps91
  go_wp2
  all_goals (go_ret; exact ⟨ret_int (by first | rfl | omega), rfl⟩)
end Go.Proofs.YtbhdpfacfgldiaaGreatDoor
/- The document's own answer for lengths in pixels (quoinref1), by contracts: the same numbers as package unit's. -/
namespace Go.Proofs.YtbhdpfacfgldiaaGreatDoor
open Go.RowKit
set_option linter.unusedVariables false
set_option linter.unusedSimpArgs false

theorem rhold_any (n : Int) (w : World) :
    Calls Tryz.prog 89 #[.int .i64 n] w fun e w' => e = .returned (.int .i64 (holdZ n)) ∧ w = w' := by
  go_enter Tryz.func89, Tryz.ntmps89
  go_wp2_with (go_at_call 91; refine (rheld_any _ _ _ _).mono ?_; rintro e w' ⟨rfl, rfl⟩)
  go_ret
  exact ⟨ret_int (by unfold holdZ; omega), rfl⟩
theorem rpx_any (t : Int) (w : World) :
    Calls Tryz.prog 81 #[.int .i64 t] w fun e w' => e = .returned (.int .i64 (pxZ t)) ∧ w = w' := by
  go_enter Tryz.func81, Tryz.ntmps81
  go_wp2_with (first
    | (go_at_call 91; refine (rheld_any _ _ _ _).mono ?_; rintro e w' ⟨rfl, rfl⟩)
    | (go_at_call 90; refine (down_any _ _ _ (by omega) (by omega) (by omega) (by omega)).mono ?_; rintro e w' ⟨rfl, rfl⟩)
    | (go_at_call 89; refine (rhold_any _ _).mono ?_; rintro e w' ⟨rfl, rfl⟩))
  go_ret
  exact ⟨ret_int (by unfold pxZ nearZ holdZ; omega), rfl⟩
end Go.Proofs.YtbhdpfacfgldiaaGreatDoor
/- How a text of declarations is read. No program is named here. -/
namespace Go.Proofs.YtbhdpfacfgldiaaGreatDoor
set_option linter.unusedVariables false
set_option linter.unusedSimpArgs false
open Go Go.RowKit

/-- The names, by Prop; none of 0. -/
def namesS : List ByteArray := [⟨#[]⟩,
  ⟨#[100, 105, 115, 112, 108, 97, 121]⟩,
  ⟨#[119, 105, 100, 116, 104]⟩,
  ⟨#[104, 101, 105, 103, 104, 116]⟩,
  ⟨#[109, 105, 110, 45, 119, 105, 100, 116, 104]⟩,
  ⟨#[109, 105, 110, 45, 104, 101, 105, 103, 104, 116]⟩,
  ⟨#[109, 97, 120, 45, 119, 105, 100, 116, 104]⟩,
  ⟨#[109, 97, 120, 45, 104, 101, 105, 103, 104, 116]⟩,
  ⟨#[109, 97, 114, 103, 105, 110, 45, 116, 111, 112]⟩,
  ⟨#[109, 97, 114, 103, 105, 110, 45, 114, 105, 103, 104, 116]⟩,
  ⟨#[109, 97, 114, 103, 105, 110, 45, 98, 111, 116, 116, 111, 109]⟩,
  ⟨#[109, 97, 114, 103, 105, 110, 45, 108, 101, 102, 116]⟩,
  ⟨#[112, 97, 100, 100, 105, 110, 103, 45, 116, 111, 112]⟩,
  ⟨#[112, 97, 100, 100, 105, 110, 103, 45, 114, 105, 103, 104, 116]⟩,
  ⟨#[112, 97, 100, 100, 105, 110, 103, 45, 98, 111, 116, 116, 111, 109]⟩,
  ⟨#[112, 97, 100, 100, 105, 110, 103, 45, 108, 101, 102, 116]⟩,
  ⟨#[98, 111, 114, 100, 101, 114, 45, 116, 111, 112]⟩,
  ⟨#[98, 111, 114, 100, 101, 114, 45, 114, 105, 103, 104, 116]⟩,
  ⟨#[98, 111, 114, 100, 101, 114, 45, 98, 111, 116, 116, 111, 109]⟩,
  ⟨#[98, 111, 114, 100, 101, 114, 45, 108, 101, 102, 116]⟩,
  ⟨#[102, 108, 101, 120, 45, 100, 105, 114, 101, 99, 116, 105, 111, 110]⟩,
  ⟨#[102, 108, 101, 120, 45, 119, 114, 97, 112]⟩,
  ⟨#[102, 108, 101, 120, 45, 98, 97, 115, 105, 115]⟩,
  ⟨#[102, 108, 101, 120, 45, 103, 114, 111, 119]⟩,
  ⟨#[102, 108, 101, 120, 45, 115, 104, 114, 105, 110, 107]⟩,
  ⟨#[111, 114, 100, 101, 114]⟩,
  ⟨#[106, 117, 115, 116, 105, 102, 121, 45, 99, 111, 110, 116, 101, 110, 116]⟩,
  ⟨#[97, 108, 105, 103, 110, 45, 105, 116, 101, 109, 115]⟩,
  ⟨#[97, 108, 105, 103, 110, 45, 115, 101, 108, 102]⟩,
  ⟨#[116, 101, 120, 116, 45, 97, 108, 105, 103, 110]⟩,
  ⟨#[119, 104, 105, 116, 101, 45, 115, 112, 97, 99, 101]⟩,
  ⟨#[108, 105, 110, 101, 45, 104, 101, 105, 103, 104, 116]⟩,
  ⟨#[111, 118, 101, 114, 102, 108, 111, 119]⟩]
theorem namesS_length : namesS.length = 33 := rfl
/-- The Prop of a name, among those below j; 0: none. -/
def propN (nm : List UInt8) : Nat → Nat
  | 0 => 0
  | j + 1 => if 1 ≤ j ∧ (bytesOf (namesS.getD j ⟨#[]⟩) == nm) = true then j else propN nm j
theorem propN_le (nm : List UInt8) : ∀ j, propN nm j ≤ j
  | 0 => Nat.le_refl _
  | j + 1 => by have := propN_le nm j; unfold propN; split <;> omega
theorem propN_lt (nm : List UInt8) : ∀ j, 0 < j → propN nm j < j
  | 0, h => by omega
  | j + 1, _ => by have := propN_le nm j; unfold propN; split <;> omega
def wordR (p : Int) (l : List UInt8) : Option Nat := ((wordsS p).map bytesOf).findIdx? (· == l)
def autoL (p : Int) : List UInt8 := if p = 6 ∨ p = 7 then [110, 111, 110, 101] else [97, 117, 116, 111]
/-- A Prop's Word, Kind and N of a value. -/
def valueR (p : Int) (l : List UInt8) : Option (Int × Int × Int) :=
  if 0 < wordsN p then (wordR p l).map fun i => ((i : Int), 0, 0)
  else if p = 23 ∨ p = 24 then (wholeR l 0 100).map fun v => (v, 0, 0)
  else if p = 25 then (wholeR l (-1000) 1000).map fun v => (v, 0, 0)
  else if (12 ≤ p ∧ p ≤ 19) ∨ p = 31 then (pixR l).bind fun z => if 0 ≤ z then some (0, 1, z) else none
  else if ¬ (p = 4 ∨ p = 5) ∧ (l == autoL p) = true then some (0, 0, 0)
  else (lenR l).bind fun x => if 0 ≤ x.2 ∨ (8 ≤ p ∧ p ≤ 11) then some (0, x.1, x.2) else none
def cutL (l : List UInt8) (a b : Nat) : List UInt8 := (l.drop a).take (b - a)
inductive StepR
  | bad (at_ : Nat) (e : Int)
  | next (d : Dc) (a : Nat)
/-- One declaration, from a place on. -/
def stepR (l : List UInt8) (a : Nat) : StepR :=
  let k := a + rowN nameB l a
  if k = a then .bad a 5 else
  let c := k + rowN blankB l k
  if ¬ l[c]? = some 58 then .bad c 5 else
  let v := c + 1 + rowN blankB l (c + 1)
  let e := v + rowN valB l v
  if e = v then .bad v 5 else
  let p := propN (cutL l a k) 33
  if p = 0 then .bad a 6 else
  match valueR p (cutL l v e) with
  | none => .bad v 7
  | some (w, kd, n) =>
    let b := e + rowN blankB l e
    if b < l.length ∧ ¬ l[b]? = some 59 then .bad b 5
    else .next ⟨p, w, kd, n⟩ (if b < l.length then b + 1 + rowN blankB l (b + 1) else b)
inductive PRes
  | bad (at_ : Nat) (e : Int)
  | ok (ds : List Dc)
def parseFrom (l : List UInt8) : Nat → Nat → List Dc → PRes
  | 0, _, out => .ok out
  | f + 1, a, out => if a < l.length then (match stepR l a with
    | .bad at_ e => .bad at_ e
    | .next d b => parseFrom l f b (out ++ [d])) else .ok out
def parseR (l : List UInt8) : PRes := if 2000 < l.length then .bad 0 4 else parseFrom l (l.length + 1) (rowN blankB l 0) []
end Go.Proofs.YtbhdpfacfgldiaaGreatDoor
/- What a text's declarations may be. No program is named here. -/
namespace Go.Proofs.YtbhdpfacfgldiaaGreatDoor
open Go Go.RowKit
set_option linter.unusedVariables false
set_option linter.unusedSimpArgs false

theorem num_tight {l : List UInt8} {ah bh : Nat} {M T : Int} (hM : ∀ j, j ≤ ah → (10 : Int) ^ j ≤ M) (hT : ∀ k, k ≤ bh → M * 10 ^ k * 10 ^ (bh - k) = T) {v : Int} {r : Nat} (h : numZ l ah bh = some (v, r)) : -T < v ∧ v < T := by
  have fin : ∀ (ng : Bool) (d X P : Int), 0 ≤ d → d < X → 0 < P → X * P = T → -T < signZ ng (d * P) ∧ signZ ng (d * P) < T := fun ng d X P h0 h1 hP e => by
    have h2 : d * P < X * P := Int.mul_lt_mul_of_pos_right h1 hP
    have h3 : 0 ≤ d * P := Int.mul_nonneg h0 (by omega)
    cases ng <;> simp [signZ] <;> omega
  have pos : ∀ j : Nat, (0 : Int) < 10 ^ j := fun j => Int.pow_pos (by decide)
  unfold numZ at h
  simp only at h
  split at h
  · cases h
  · rename_i h1
    have d0 := digV_bd l (negB l).toNat 0 1 (by omega) (by omega) (rowN isDig l (negB l).toNat) (Nat.le_refl _)
    have hm := hM (rowN isDig l (negB l).toNat) (by omega)
    split at h
    · split at h
      · cases h
      · rename_i h2 h3
        injection h with h
        injection h with h4 h5
        have e := digV_bd l ((negB l).toNat + rowN isDig l (negB l).toNat + 1) (digV l (negB l).toNat 0 (rowN isDig l (negB l).toNat)) M d0.1 (by omega) (rowN isDig l ((negB l).toNat + rowN isDig l (negB l).toNat + 1)) (Nat.le_refl _)
        rw [← h4]
        exact fin _ _ _ _ e.1 e.2 (pos _) (hT _ (by omega))
    · injection h with h
      injection h with h4 h5
      rw [← h4]
      have e := hT 0 (Nat.zero_le _)
      rw [Int.pow_zero, Int.mul_one, Nat.sub_zero] at e
      exact fin _ _ _ _ d0.1 (by omega) (pos _) e
theorem num53 {l : List UInt8} {v : Int} {r : Nat} (h : numZ l 5 3 = some (v, r)) : -100000000 < v ∧ v < 100000000 :=
  num_tight (M := 100000) (fun j hj => (pow5 j hj).2) (fun k hk => by rcases (show k = 0 ∨ k = 1 ∨ k = 2 ∨ k = 3 by omega) with rfl | rfl | rfl | rfl <;> decide) h
theorem num42 {l : List UInt8} {v : Int} {r : Nat} (h : numZ l 4 2 = some (v, r)) : -1000000 < v ∧ v < 1000000 :=
  num_tight (M := 10000) (fun j hj => by rcases (show j = 0 ∨ j = 1 ∨ j = 2 ∨ j = 3 ∨ j = 4 by omega) with rfl | rfl | rfl | rfl | rfl <;> decide) (fun k hk => by rcases (show k = 0 ∨ k = 1 ∨ k = 2 by omega) with rfl | rfl | rfl <;> decide) h
theorem pix_bd {l : List UInt8} {z : Int} (h : pixR l = some z) : -6400000 ≤ z ∧ z ≤ 6400000 := by
  unfold pixR at h
  split at h
  · injection h with h; omega
  · split at h
    · rename_i v r hn
      have b := num53 hn
      split at h
      · injection h with h
        rw [← h]
        unfold pxZ holdZ nearZ
        omega
      · cases h
    · cases h
theorem pct_bd {l : List UInt8} {z : Int} (h : pctR l = some z) : -999999 ≤ z ∧ z ≤ 999999 := by
  unfold pctR at h
  split at h
  · rename_i v r hn
    have b := num42 hn
    split at h
    · injection h with h; omega
    · cases h
  · cases h
theorem len_bd {l : List UInt8} {x : Int × Int} (h : lenR l = some x) : (x.1 = 1 ∧ -6400000 ≤ x.2 ∧ x.2 ≤ 6400000) ∨ (x.1 = 2 ∧ -999999 ≤ x.2 ∧ x.2 ≤ 999999) := by
  unfold lenR at h
  split at h
  · rename_i v hv
    injection h with h
    subst h
    exact .inl ⟨rfl, pix_bd hv⟩
  · split at h
    · rename_i v hv
      injection h with h
      subst h
      exact .inr ⟨rfl, pct_bd hv⟩
    · cases h
theorem words_len (p : Int) (hp : 0 < wordsN p) : ((wordsS p).length : Int) = wordsN p := by
  have h : p = 1 ∨ p = 20 ∨ p = 27 ∨ p = 21 ∨ p = 29 ∨ p = 30 ∨ p = 26 ∨ p = 28 ∨ p = 32 := by
    unfold wordsN at hp
    split at hp
    · omega
    · split at hp
      · omega
      · split at hp
        · omega
        · split at hp
          · omega
          · omega
  rcases h with rfl | rfl | rfl | rfl | rfl | rfl | rfl | rfl | rfl <;> decide
theorem value_may (p : Int) (h1 : 1 ≤ p) (h2 : p ≤ 32) (l : List UInt8) (w k n : Int) (h : valueR p l = some (w, k, n)) : mayZ p w k n = true := by
  unfold mayZ
  rw [decide_eq_true_eq]
  unfold mayP
  rw [if_neg (by omega)]
  unfold valueR at h
  by_cases hw : 0 < wordsN p
  · rw [if_pos hw] at h ⊢
    have hl := words_len p hw
    cases hq : wordR p l with
    | none => rw [hq] at h; cases h
    | some j =>
      rw [hq] at h
      have h3 : ((j : Int), (0 : Int), (0 : Int)) = (w, k, n) := by simpa using h
      injection h3 with e1 e2
      injection e2 with e2 e3
      unfold wordR at hq
      have := (List.findIdx?_eq_some_iff_findIdx_eq.1 hq).1
      rw [List.length_map] at this
      omega
  rw [if_neg hw] at h ⊢
  by_cases h23 : p = 23 ∨ p = 24
  · rw [if_pos h23] at h ⊢
    obtain ⟨i, hi, e⟩ := Option.map_eq_some_iff.1 h
    injection e with e1 e2
    injection e2 with e2 e3
    unfold wholeR at hi
    split at hi
    · split at hi
      · injection hi with hi; omega
      · cases hi
    · cases hi
  rw [if_neg h23] at h ⊢
  by_cases h25 : p = 25
  · rw [if_pos h25] at h ⊢
    obtain ⟨i, hi, e⟩ := Option.map_eq_some_iff.1 h
    injection e with e1 e2
    injection e2 with e2 e3
    unfold wholeR at hi
    split at hi
    · split at hi
      · injection hi with hi; omega
      · cases hi
    · cases hi
  rw [if_neg h25] at h ⊢
  by_cases h12 : (12 ≤ p ∧ p ≤ 19) ∨ p = 31
  · rw [if_pos h12] at h ⊢
    obtain ⟨z, hz, e⟩ := Option.bind_eq_some_iff.1 h
    have b := pix_bd hz
    split at e
    · injection e with e
      injection e with e1 e2
      injection e2 with e2 e3
      omega
    · cases e
  rw [if_neg h12] at h ⊢
  by_cases ha : ¬ (p = 4 ∨ p = 5) ∧ (l == autoL p) = true
  · rw [if_pos ha] at h
    injection h with h
    injection h with e1 e2
    injection e2 with e2 e3
    split
    · omega
    · split
      · omega
      · omega
  · rw [if_neg ha] at h
    obtain ⟨x, hx, e⟩ := Option.bind_eq_some_iff.1 h
    have b := len_bd hx
    split at e
    · injection e with e
      injection e with e1 e2
      injection e2 with e2 e3
      split
      · omega
      · split
        · omega
        · omega
    · cases e
theorem step_may (l : List UInt8) (a b : Nat) (d : Dc) (h : stepR l a = .next d b) : mayZ d.p d.w d.k d.n = true := by
  unfold stepR at h
  simp only at h
  generalize hp : propN (cutL l a (a + rowN nameB l a)) 33 = p at h
  have hp2 := propN_lt (cutL l a (a + rowN nameB l a)) 33 (by decide)
  rw [hp] at hp2
  by_cases hp0 : p = 0
  · subst hp0
    split at h
    · cases h
    split at h
    · cases h
    split at h
    · cases h
    rw [if_pos rfl] at h
    cases h
  split at h
  · cases h
  split at h
  · cases h
  split at h
  · cases h
  try rw [if_neg hp0] at h
  split at h
  · cases h
  rename_i w kd n hv
  split at h
  · cases h
  injection h with h1 h2
  subst h1
  exact value_may (p : Int) (by omega) (by omega) _ _ _ _ hv
theorem parseFrom_may (l : List UInt8) : ∀ (f a : Nat) (out ds : List Dc), (∀ d ∈ out, mayZ d.p d.w d.k d.n = true) → parseFrom l f a out = .ok ds → ∀ d ∈ ds, mayZ d.p d.w d.k d.n = true
  | 0, _, out, ds, ho, h => by rw [parseFrom] at h; injection h with h; subst h; exact ho
  | f + 1, a, out, ds, ho, h => by
    rw [parseFrom] at h
    split at h
    · split at h
      · cases h
      · rename_i d b hs
        refine parseFrom_may l f _ _ _ (fun x hx => ?_) h
        rcases List.mem_append.1 hx with hx | hx
        · exact ho x hx
        · have : x = d := by simpa using hx
          subst this
          exact step_may l a b x hs
    · injection h with h; subst h; exact ho
theorem parse_may (l : List UInt8) (ds : List Dc) (h : parseR l = .ok ds) : ∀ d ∈ ds, mayZ d.p d.w d.k d.n = true := by
  unfold parseR at h
  split at h
  · cases h
  · exact parseFrom_may l _ _ _ _ (fun d hd => by cases hd) h
end Go.Proofs.YtbhdpfacfgldiaaGreatDoor
