import Derived.Test.YtpbfdfpedpfemaaGreatDoorNodesSame
import Derived.Test.YtpbfdfpedpfemaaGreatDoorTreeSaid
import Derived.Lib.MinMax
/- quoinref6.New; plain nodes (elements without declarations) as rows. -/
namespace Go.Proofs.YtpbfdfpedpfemaaGreatDoor
open Go Go.RowKit
set_option linter.unusedVariables false
set_option linter.unusedSimpArgs false
set_option maxRecDepth 20000
set_option maxHeartbeats 4000000

theorem own_lit6 (w : World) (e : TypeId) (size : Nat) (cs : Array Value) (h : cs.size = size) : (w.alloc (.cells cs e)).ownsRow w.heap.size e size (.slice (some ⟨w.heap.size, 0, none⟩) 1 1) 1 cs.toList := by
  refine ⟨by simp [h], .inr ⟨w.heap.size, 1, cs, rfl, Nat.le_refl _, heap_alloc_new w _, Nat.le_refl _, by decide, by simp [h], ?_⟩⟩
  rw [List.take_of_length_le (by simp [h])]
abbrev noS : Value := .slice none 0 0
def plC (l : List Nd) : List Value := rowsC l (l.map fun _ => noS)
theorem plC_append (l : List Nd) (n : Nd) : plC (l ++ [n]) = plC l ++ nodeC n noS := by
  unfold plC
  rw [List.map_append]
  exact rowsC_append l _ (by rw [List.length_map]) n noS
theorem noS_own (w : World) (lo : Nat) : StyOwn w lo noS [] := ⟨none, 0, rfl, ⟨rfl, .inl ⟨rfl, rfl⟩⟩, by decide⟩
/-- A row of plain nodes of its own. -/
def PlOwn (w : World) (lo : Nat) (A : Option Addr) (n c : Nat) (l : List Nd) : Prop := w.ownsRow lo 32 5 (.slice A n c) n (plC l)
theorem PlOwn.see {w : World} {lo n c : Nat} {A : Option Addr} {l : List Nd} (h : PlOwn w lo A n c l) (hn : l.length = n) (hs : ∀ x ∈ l, x.sty = []) (hl : n ≤ 1000000) : NodesSee w (.slice A n c) l := by
  subst hn
  refine ⟨A, c, l.map fun _ => noS, rfl, by rw [List.length_map], hl, row_of_own h, fun k hk h2 => ?_⟩
  rw [List.getElem_map, hs _ (List.getElem_mem hk)]
  exact (noS_own w 0).at_
theorem PlOwn.low {w : World} {lo n c : Nat} {A : Option Addr} {l : List Nd} (h : PlOwn w lo A n c l) (hn : l.length = n) (hs : ∀ x ∈ l, x.sty = [] ∧ x.dat.size = 0 ∧ 0 ≤ x.id + 1 ∧ x.id ≤ 1000000 ∧ 0 ≤ x.par + 1 ∧ x.par ≤ 1000000) (hl : n ≤ 1000000) : NodesLow w w.heap.size A l (l.map fun _ => noS) := by
  refine ⟨by rw [List.length_map], row_of_own h, fun k hk => ?_, fun x hx => ?_, by omega⟩
  · rw [List.getElem_map, (hs _ (List.getElem_mem hk)).1]
    exact ⟨none, 0, rfl, Row.nil _ _ _, by decide, fun _ => rfl⟩
  · obtain ⟨h1, h2, h3, h4, h5, h6⟩ := hs x hx
    unfold In64i
    omega
theorem rtree_flat : FlatT Tryz.prog 39 2 := ⟨⟨_, Tryz.underlying39, rfl⟩, by kernel_rfl⟩
theorem rnew_any (most : Int) (W : World) : Calls Tryz.prog 16 #[.int .i64 most] W fun e w' => ∃ g, e = .returned (.agg #[.int .i64 (mostZ most), .slice (some ⟨g, 0, none⟩) 1 1]) ∧ PlOwn w' W.heap.size (some ⟨g, 0, none⟩) 1 1 [root0] ∧ Below W.heap.size W w' := by
  have E := Lib.hid (show min (max most 1) 500 = (mostZ most : Int) by unfold mostZ; omega)
  go_enter Tryz.func16, Tryz.ntmps16
  go_wp2_with fail
  rw [E.out]
  refine cells_end (n := 2) rtree_flat rfl W.heap.size rfl [.int .i64 (mostZ most), .slice (some ⟨W.heap.size + 1, 0, none⟩) 1 1] rfl 39 ?_ rfl ⟨W.heap.size + 1, rfl, ?_, ?_⟩
  · exact (Whole.mk W 39 #[.int .i64 (mostZ most), .slice (some ⟨W.heap.size + 1, 0, none⟩) 1 1]).made _
  · have := own_lit6 (W.alloc (.cells #[.int .i64 (mostZ most), .slice (some ⟨W.heap.size + 1, 0, none⟩) 1 1] 39)) 32 5 #[.int .i64 0, .int .i64 (-1), .bool false, .string ⟨#[]⟩, .slice none 0 0] rfl
    have hz : (W.alloc (.cells #[.int .i64 (mostZ most), .slice (some ⟨W.heap.size + 1, 0, none⟩) 1 1] 39)).heap.size = W.heap.size + 1 := by simp
    rw [hz] at this
    exact own_mono this (Nat.le_succ _)
  · exact ((Below.refl _ _).alloc (Nat.le_refl _) _).alloc (by simp) _
end Go.Proofs.YtpbfdfpedpfemaaGreatDoor
