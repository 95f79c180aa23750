import Derived.Test.YtpbfdfpedpfemaaGreatDoorNodesClone
/- nodes.Node, Kids. -/
namespace Go.Proofs.YtpbfdfpedpfemaaGreatDoor
open Go Go.RowKit
set_option linter.unusedVariables false
set_option linter.unusedSimpArgs false
set_option maxRecDepth 20000
set_option maxHeartbeats 4000000

def node0 : List Value := [.int .i64 0, .int .i64 0, .bool false, .string ⟨#[]⟩, .slice none 0 0]
theorem nodeT : FlatT Tryz.prog 32 5 := ⟨⟨_, Tryz.underlying32, rfl⟩, by kernel_rfl⟩
theorem node_one (n : Nd) {A : Option Addr} {k c : Nat} : ∀ v ∈ nodeC n (.slice A k c), v.oneCell' = true := by
  intro v hv
  simp only [nodeC, List.mem_cons, List.not_mem_nil, or_false] at hv
  rcases hv with rfl | rfl | rfl | rfl | rfl <;> rfl
theorem node0_one : ∀ v ∈ node0, v.oneCell' = true := by
  intro v hv
  simp only [node0, List.mem_cons, List.not_mem_nil, or_false] at hv
  rcases hv with rfl | rfl | rfl | rfl | rfl <;> rfl
/-- What Node answers. -/
def NodePost (W : World) (L : List Nd) (id : Int) (e : Ending) (w' : World) : Prop := match atZ L id with
  | none => ∃ v, e = .returned (.tuple #[v, .bool false])
  | some n => ∃ sv', e = .returned (.tuple #[.agg (nodeC n sv').toArray, .bool true]) ∧ StyOwn w' W.heap.size sv' n.sty
theorem nnode_any {W : World} {base t : Nat} {most : Int} {L : List Nd} (hT : Tree W base t most L) {id : Int} (hi : In64i id) :
    Calls Tryz.prog 48 #[.pointer (some ⟨t, 0, none⟩), .int .i64 id] W fun e w' => NodePost W L id e w' ∧ Below W.heap.size W w' := by
  have B0 := Lib.hid ((Below.refl W.heap.size W).alloc (Nat.le_refl _) (.cells #[.int .i64 0, .int .i64 0, .bool false, .string ⟨#[]⟩, .slice none 0 0] 32))
  have R0 := Lib.hid (Whole.mk W 32 #[.int .i64 0, .int .i64 0, .bool false, .string ⟨#[]⟩, .slice none 0 0])
  have hT0 := hT.behind ((Below.refl W.heap.size W).alloc (Nat.le_refl _) (.cells #[.int .i64 0, .int .i64 0, .bool false, .string ⟨#[]⟩, .slice none 0 0] 32))
  obtain ⟨b, f, sv, kv, h⟩ := hT0
  obtain ⟨c0, c1⟩ := h.cells
  have hl := h.look hi
  cases ha : atZ L id with
  | none =>
    have hn : hasZ L id = false := by unfold hasZ; rw [ha]; rfl
    rw [h.gone hn] at hl
    have HP : Hid (∀ v w', NodePost W L id (.returned (.tuple #[v, .bool false])) w') := Lib.hid (fun v w' => by unfold NodePost; rw [ha]; exact ⟨v, rfl⟩)
    clear h ha hn hT
    go_enter Tryz.func48, Tryz.ntmps48
    go_upto_region 1 with fail
    generalize W.alloc _ = w0 at *
    change (Instr.lookup 86 (.map (some b)) (.int .i64 id) false).run Tryz.prog w0 = .ok (.pointer none) w0 at hl
    go_wp2_with (first
      | (rw [hl])
      | (refine cells_store (n := 5) nodeT (.tmp 4) (.tmp 15) rfl rfl W.heap.size rfl node0 rfl node0_one rfl 32 [.int .i64 0, .int .i64 0, .bool false, .string ⟨#[]⟩, .slice none 0 0] ?_ rfl ?_; (focus (exact R0.out)); intro w3 h3 o3; have R3 := Lib.hid h3; have O3 := Lib.hid o3; clear h3 o3))
    exact cells_end2 (n := 5) nodeT rfl W.heap.size rfl node0 rfl 32 R3.out rfl ⟨HP.out _ _, B0.out.trans (O3.out.below (by simp) (by have := R0.out.size; omega))⟩
  | some n =>
    obtain ⟨g, hg, -, hw⟩ := h.node ha
    obtain ⟨hm, hid⟩ := at_some ha
    have hs := h.sty n hm
    rw [hid] at hs
    rw [hg] at hl
    have d0 := hw.cell 0
    have d1 := hw.cell 1
    have d2 := hw.cell 2
    have d3 := hw.cell 3
    have d4 := hw.cell 4
    simp only [ndC, List.getElem?_cons_zero, List.getElem?_cons_succ] at d0 d1 d2 d3 d4
    have HS := Lib.hid hs.at_
    have HP : Hid (∀ sv' w', StyOwn w' W.heap.size sv' n.sty → NodePost W L id (.returned (.tuple #[.agg (nodeC n sv').toArray, .bool true])) w') := Lib.hid (fun sv' w' h => by unfold NodePost; rw [ha]; exact ⟨sv', rfl, h⟩)
    generalize sv id = s at *
    clear h ha hg hm hid hs hT hw
    go_enter Tryz.func48, Tryz.ntmps48
    go_upto_region 1 with fail
    generalize W.alloc _ = w0 at *
    change (Instr.lookup 86 (.map (some b)) (.int .i64 id) false).run Tryz.prog w0 = .ok (.pointer (some ⟨g, 0, none⟩)) w0 at hl
    go_wp2_with (rw [hl])
    refine (lent_any n s w0 HS.out).mono ?_
    rintro e w1 ⟨sv', rfl, hs, hb⟩
    have R1 := Lib.hid (R0.out.under hb R0.out.size)
    have B1 := Lib.hid (B0.out.trans (hb.mono B0.out.size))
    have z0 : W.heap.size < w0.heap.size := R0.out.size
    have HS1 := Lib.hid hs
    have n1 := hs.other R1.out (by decide)
    obtain ⟨A2, c2, rfl, -⟩ := hs
    clear hb R0 B0 HS hl c0 c1 d0 d1 d2 d3 d4
    go_wp2_with (refine cells_store (n := 5) nodeT (.tmp 4) (.tmp 20) rfl rfl W.heap.size rfl (nodeC n (.slice A2 n.sty.length c2)) rfl (node_one n) rfl 32 [.int .i64 0, .int .i64 0, .bool false, .string ⟨#[]⟩, .slice none 0 0] ?_ rfl ?_; (focus (exact R1.out)); intro w3 h3 o3; have R3 := Lib.hid h3; have O3 := Lib.hid o3; clear h3 o3)
    exact cells_end2 (n := 5) nodeT rfl W.heap.size rfl (nodeC n (.slice A2 n.sty.length c2)) rfl 32 R3.out rfl ⟨HP.out _ _ ((HS1.out.only O3.out (by intro g hg hm; simp at hm; subst hm; exact n1 hg)).mono (by omega)), B1.out.trans (O3.out.below (by simp) (by have := R1.out.size; omega))⟩
end Go.Proofs.YtpbfdfpedpfemaaGreatDoor
