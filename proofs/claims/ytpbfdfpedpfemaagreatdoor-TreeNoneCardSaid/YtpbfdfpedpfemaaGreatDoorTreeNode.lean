import Derived.Test.YtpbfdfpedpfemaaGreatDoorTreeOf
/- tree.Node; a tree stands while a row of nodes is written. -/
namespace Go.Proofs.YtpbfdfpedpfemaaGreatDoor
open Go Go.RowKit
set_option linter.unusedVariables false
set_option linter.unusedSimpArgs false
set_option maxRecDepth 20000
set_option maxHeartbeats 2000000

/-- What a row of nodes is not. -/
def NodeRow (w : World) (k : Nat) : Prop := ∃ cur fr, w.heap[k]? = some (.cells cur 32 fr)
theorem node_row_whole {w : World} {k : Nat} (h : NodeRow w k) {t : TypeId} {cs : List Value} (hw : Whole w k t cs) (ht : t ≠ 32) : False := by
  obtain ⟨cur, fr, h⟩ := h
  have h2 : w.heap[k]? = _ := hw
  rw [h] at h2
  injection h2 with h2
  simp at h2
  exact ht h2.2.1.symm
theorem node_row_own {w : World} {k : Nat} (h : NodeRow w k) {base e size m : Nat} {v : Value} {xs : List Value} (ho : w.ownsRow base e size v m xs) (he : e ≠ 32) : v.ownBlock ≠ some k := by
  obtain ⟨cur, fr, h⟩ := h
  intro hk
  rcases ho.2 with ⟨rfl, -⟩ | ⟨g, cap, cur', rfl, -, hg, -⟩
  · simp [Value.ownBlock] at hk
  · simp [Value.ownBlock] at hk
    subst hk
    rw [h] at hg
    injection hg with hg
    simp at hg
    exact he hg.2.1.symm
theorem Tree.rows {w w' : World} {base t : Nat} {most : Int} {L : List Nd} {S : List Nat} (h : Tree w base t most L) (hO : Only S w w') (hS : ∀ k ∈ S, NodeRow w k) : Tree w' base t most L := by
  obtain ⟨b, f, sv, kv, h⟩ := h
  refine ⟨b, f, sv, kv, h.ok, h.low, hO.whole h.hd fun hx => node_row_whole (hS _ hx) h.hd (by decide), h.mp.only hO fun hx => ?_, h.dom, fun n hn g hg => ⟨(h.nod n hn g hg).1, hO.whole (h.nod n hn g hg).2 fun hx => node_row_whole (hS _ hx) (h.nod n hn g hg).2 (by decide)⟩, fun n hn => (h.sty n hn).only hO fun k hk hx => ?_, fun n hn => hO.owns (h.kid n hn) fun k hk hx => node_row_own (hS _ hx) (h.kid n hn) (by decide) hk, h.inj, h.apart⟩
  · obtain ⟨cur, fr, e⟩ := hS _ hx
    obtain ⟨D, ⟨es, clock, hb, -⟩, -⟩ := h.mp
    rw [hb] at e
    cases e
  · obtain ⟨A, c, e, hr, -⟩ := h.sty n hn
    rw [e] at hk
    exact node_row_own (hS _ hx) hr (by decide) hk
theorem tnode_any {W : World} {base t : Nat} {most : Int} {L : List Nd} (hT : Tree W base t most L) {id : Int} (hi : In64i id) {n : Nd} (ha : atZ L id = some n) :
    Calls Tryz.prog 23 #[.pointer (some ⟨t, 0, none⟩), .int .i64 id] W fun e w' => (∃ A c, e = .returned (.tuple #[.agg #[.int .i64 n.id, .int .i64 n.par, .bool n.tx, .string n.dat, .slice A n.sty.length c], .bool true]) ∧ StyOwn w' W.heap.size (.slice A n.sty.length c) n.sty) ∧ Below W.heap.size W w' := by
  have hal : Below W.heap.size W (W.alloc (.cells #[.int .i64 0, .int .i64 0, .bool false, .string ⟨#[]⟩, .slice none 0 0] 32)) := (Below.refl _ _).alloc (Nat.le_refl _) _
  have R0 := Lib.hid (Whole.mk W 32 #[.int .i64 0, .int .i64 0, .bool false, .string ⟨#[]⟩, .slice none 0 0])
  have H := Lib.hid (nnode_any (hT.behind hal) hi)
  have B0 := Lib.hid hal
  clear hal hT
  go_enter Tryz.func23, Tryz.ntmps23
  go_upto_region 1 with fail
  generalize W.alloc _ = w0 at *
  go_wp2_with fail
  refine (held_t t w0).mono ?_
  rintro e w1 ⟨rfl, rfl⟩
  go_wp2_with fail
  refine H.out.mono ?_
  rintro e w1 ⟨hp, hb⟩
  unfold NodePost at hp
  rw [ha] at hp
  obtain ⟨sv', rfl, hs⟩ := hp
  have R1 := Lib.hid (R0.out.under hb R0.out.size)
  have B1 := Lib.hid (B0.out.trans (hb.mono B0.out.size))
  have z0 : W.heap.size < w0.heap.size := R0.out.size
  have n1 := hs.other R1.out (by decide)
  have HS := Lib.hid hs
  obtain ⟨A2, c2, rfl, -⟩ := hs
  clear hb H R0 B0
  go_wp2_with (refine cells_store (n := 5) nodeT (.tmp 4) (.tmp 10) rfl rfl W.heap.size rfl (nodeC n (.slice A2 n.sty.length c2)) rfl (node_one n) rfl 32 [.int .i64 0, .int .i64 0, .bool false, .string ⟨#[]⟩, .slice none 0 0] ?_ rfl ?_; (focus (exact R1.out)); intro w3 h3 o3; have R3 := Lib.hid h3; have O3 := Lib.hid o3; clear h3 o3)
  exact cells_end2 (n := 5) nodeT rfl W.heap.size rfl (nodeC n (.slice A2 n.sty.length c2)) rfl 32 R3.out rfl ⟨⟨A2, c2, rfl, (HS.out.only O3.out (by intro g hg hm; simp at hm; subst hm; exact n1 hg)).mono (by omega)⟩, B1.out.trans (O3.out.below (by simp) (by have := R1.out.size; omega))⟩
end Go.Proofs.YtpbfdfpedpfemaaGreatDoor
