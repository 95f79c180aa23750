import Derived.Test.YtpbfdfpedpfemaaGreatDoorTreeMem
import Derived.WalkKit
/- nodes: what is asked of a tree, one node at a time. -/
namespace Go.Proofs.YtpbfdfpedpfemaaGreatDoor
open Go Go.RowKit
set_option linter.unusedVariables false
set_option linter.unusedSimpArgs false
set_option maxRecDepth 20000
set_option maxHeartbeats 4000000

theorem zeroPtr (w : World) : (zeroValue 85).run Tryz.prog w = .ok (.pointer none) w := by kernel_rfl
section
variable {w : World} {base t b : Nat} {most : Int} {L : List Nd} {f : Int → Option Nat} {sv kv : Int → Value}
theorem TreeAt.look (h : TreeAt w base t b most L f sv kv) {id : Int} (hi : In64i id) :
    (Instr.lookup 86 (.map (some b)) (.int .i64 id) false).run Tryz.prog w = .ok (ptrV (f id)) w :=
  h.mp.look Tryz.underlying3 Tryz.underlying86 (zeroPtr w) hi
theorem TreeAt.cells (h : TreeAt w base t b most L f sv kv) : w.cell? ⟨t, 0, none⟩ = some (.int .i64 most) ∧ w.cell? ⟨t, 1, none⟩ = some (.map (some b)) := ⟨h.hd.cell 0, h.hd.cell 1⟩
theorem TreeAt.node (h : TreeAt w base t b most L f sv kv) {id : Int} {n : Nd} (ha : atZ L id = some n) : ∃ g, f id = some g ∧ base ≤ g ∧ Whole w g 90 (ndC n (sv id) (kv id)) := by
  obtain ⟨hm, rfl⟩ := at_some ha
  obtain ⟨g, hg⟩ := h.there hm
  exact ⟨g, hg, h.nod n hm g hg⟩
end
theorem nhas_any {W : World} {base t : Nat} {most : Int} {L : List Nd} (hT : Tree W base t most L) {id : Int} (hi : In64i id) :
    Calls Tryz.prog 44 #[.pointer (some ⟨t, 0, none⟩), .int .i64 id] W fun e w' => e = .returned (.bool (hasZ L id)) ∧ W = w' := by
  obtain ⟨b, f, sv, kv, h⟩ := hT
  obtain ⟨c0, c1⟩ := h.cells
  have hl := h.look hi
  have hd := h.dom id
  clear h
  rw [← hd]
  cases hf : f id with
  | none =>
    rw [hf] at hl
    change (Instr.lookup 86 (.map (some b)) (.int .i64 id) false).run Tryz.prog W = .ok (.pointer none) W at hl
    go_enter Tryz.func44, Tryz.ntmps44
    go_wp2_with (rw [hl])
    go_ret
    exact ⟨rfl, rfl⟩
  | some g =>
    rw [hf] at hl
    change (Instr.lookup 86 (.map (some b)) (.int .i64 id) false).run Tryz.prog W = .ok (.pointer (some ⟨g, 0, none⟩)) W at hl
    go_enter Tryz.func44, Tryz.ntmps44
    go_wp2_with (rw [hl])
    go_ret
    exact ⟨rfl, rfl⟩
theorem nlen_any {W : World} {base t : Nat} {most : Int} {L : List Nd} (hT : Tree W base t most L) :
    Calls Tryz.prog 42 #[.pointer (some ⟨t, 0, none⟩)] W fun e w' => e = .returned (.int .i64 L.length) ∧ W = w' := by
  obtain ⟨b, f, sv, kv, h⟩ := hT
  obtain ⟨c0, c1⟩ := h.cells
  have hl := fun ty => h.mp.len Tryz.underlying86 ty
  clear h
  go_enter Tryz.func42, Tryz.ntmps42
  go_wp2_with (rw [hl])
  go_ret
  exact ⟨rfl, rfl⟩
theorem nparent_any {W : World} {base t : Nat} {most : Int} {L : List Nd} (hT : Tree W base t most L) {id : Int} (hi : In64i id) :
    Calls Tryz.prog 41 #[.pointer (some ⟨t, 0, none⟩), .int .i64 id] W fun e w' => e = .returned (.int .i64 (parZ L id)) ∧ W = w' := by
  obtain ⟨b, f, sv, kv, h⟩ := hT
  obtain ⟨c0, c1⟩ := h.cells
  have hl := h.look hi
  cases ha : atZ L id with
  | none =>
    have hn : hasZ L id = false := by unfold hasZ; rw [ha]; rfl
    rw [h.gone hn] at hl
    change (Instr.lookup 86 (.map (some b)) (.int .i64 id) false).run Tryz.prog W = .ok (.pointer none) W at hl
    have hp : parZ L id = -1 := par_no hn
    clear h
    go_enter Tryz.func41, Tryz.ntmps41
    go_wp2_with (rw [hl])
    go_ret
    exact ⟨ret_int hp.symm, rfl⟩
  | some n =>
    obtain ⟨g, hg, -, hw⟩ := h.node ha
    rw [hg] at hl
    change (Instr.lookup 86 (.map (some b)) (.int .i64 id) false).run Tryz.prog W = .ok (.pointer (some ⟨g, 0, none⟩)) W at hl
    have hp : parZ L id = n.par := by unfold parZ; rw [ha]
    have d1 : W.cell? ⟨g, 1, none⟩ = some (.int .i64 n.par) := hw.cell 1
    clear h hw
    go_enter Tryz.func41, Tryz.ntmps41
    go_wp2_with (rw [hl])
    go_ret
    exact ⟨ret_int hp.symm, rfl⟩
theorem ntext_any {W : World} {base t : Nat} {most : Int} {L : List Nd} (hT : Tree W base t most L) {id : Int} (hi : In64i id) :
    Calls Tryz.prog 60 #[.pointer (some ⟨t, 0, none⟩), .int .i64 id] W fun e w' => e = .returned (.bool (txZ L id)) ∧ W = w' := by
  obtain ⟨b, f, sv, kv, h⟩ := hT
  obtain ⟨c0, c1⟩ := h.cells
  have hl := h.look hi
  cases ha : atZ L id with
  | none =>
    have hn : hasZ L id = false := by unfold hasZ; rw [ha]; rfl
    rw [h.gone hn] at hl
    change (Instr.lookup 86 (.map (some b)) (.int .i64 id) false).run Tryz.prog W = .ok (.pointer none) W at hl
    have hp : txZ L id = false := by unfold txZ; rw [ha]
    clear h
    go_enter Tryz.func60, Tryz.ntmps60
    go_wp2_with (rw [hl])
    go_ret
    exact ⟨ret_bool hp.symm, rfl⟩
  | some n =>
    obtain ⟨g, hg, -, hw⟩ := h.node ha
    rw [hg] at hl
    change (Instr.lookup 86 (.map (some b)) (.int .i64 id) false).run Tryz.prog W = .ok (.pointer (some ⟨g, 0, none⟩)) W at hl
    have hp : txZ L id = n.tx := by unfold txZ; rw [ha]
    have d1 : W.cell? ⟨g, 2, none⟩ = some (.bool n.tx) := hw.cell 2
    clear h hw
    go_enter Tryz.func60, Tryz.ntmps60
    go_wp2_with (rw [hl])
    go_ret
    exact ⟨ret_bool hp.symm, rfl⟩
end Go.Proofs.YtpbfdfpedpfemaaGreatDoor
