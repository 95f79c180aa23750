import Derived.Test.YtpbfdfpedpfemaaGreatDoorNodesGet
/- slices.Clone of declarations and of numbers; nodes.lent; Node, Kids. -/
namespace Go.Proofs.YtpbfdfpedpfemaaGreatDoor
open Go Go.RowKit
set_option linter.unusedVariables false
set_option linter.unusedSimpArgs false
set_option maxRecDepth 20000
set_option maxHeartbeats 4000000

theorem declInfo : (Tryz.prog.info? 57).map (fun i => (i.zero, i.size, i.bytes)) = some (some (.agg #[.int .i64 0, .int .i64 0, .int .i64 0, .int .i64 0]), 4, 32) := by kernel_rfl
theorem intInfo : (Tryz.prog.info? 3).map (fun i => (i.zero, i.size, i.bytes)) = some (some (.int .i64 0), 1, 8) := by kernel_rfl
theorem cloneD_any (sv : Value) (l : List Dc) (W : World) (h : StyAt W sv l) :
    Calls Tryz.prog 59 #[sv] W fun e w' => ∃ sv', e = .returned sv' ∧ StyOwn w' W.heap.size sv' l ∧ Below W.heap.size W w' := by
  obtain ⟨A, c, rfl, hR, hl, hn⟩ := h
  have q : ∀ (w : World) (a : Option Addr) (n c n' c' : Nat), (binOp .eql 30 (.slice a n c) (.slice none n' c')).run Tryz.prog w = .ok (.bool a.isNone) w := fun w a n c n' c' => Lib.run_eql_slice_nil w _ _ a n c n' c' Tryz.underlying30
  have HR := Lib.hid hR
  clear hR
  cases A with
  | none =>
    have h0 : l = [] := by
      cases l with
      | nil => rfl
      | cons d r =>
        obtain ⟨ad, e, -⟩ := HR.out (by rw [i64s_length, dCells_length]; simp)
        cases e
    subst h0
    go_enter Tryz.func59, Tryz.ntmps59
    go_wp2_with (rw [q])
    go_ret
    exact ⟨_, rfl, ⟨none, 0, rfl, ⟨rfl, .inl ⟨rfl, rfl⟩⟩, by simp⟩, Below.refl _ _⟩
  | some ad =>
    have hq := q W (some ad) l.length c 0 0
    go_enter Tryz.func59, Tryz.ntmps59
    go_wp2_with (first
      | (rw [q])
      | (at_builtin; refine wpList_plain rfl fun K hK => wp_push_all (.tmp 5) (.tmp 6) 30 rfl W.heap.size 57 4 32 (.agg #[.int .i64 0, .int .i64 0, .int .i64 0, .int .i64 0]) Tryz.underlying30 declInfo rfl (by decide) 0 0 (some ⟨W.heap.size, 0, none⟩) [] rfl (World.ownsRow_made W #[] 0 (Nat.le_refl _) (Nat.zero_le _) rfl) W.heap.size l.length c (some ad) (i64s (dCells l)) rfl (fun e => by cases e) (by rw [i64s_length, dCells_length]) (HR.out.alloc (Nat.le_refl _) _) (fun u hu => i64s_one _ u hu) (by unfold maxLen; omega) (by omega) (by simp) ?_; intro A1 c1 w1 ho hb; refine hK _ _ ?_; have HO := Lib.hid ho; have HB := Lib.hid hb; clear ho hb))
    go_ret
    have hs := HO.out
    rw [Nat.zero_add, List.nil_append] at hs
    have hs : StyOwn w1 W.heap.size (.slice A1 l.length c1) l := ⟨A1, c1, rfl, hs, hl⟩
    exact ⟨_, rfl, hs, ((Below.refl _ _).alloc (Nat.le_refl _) _).trans HB.out⟩
/-- A node as a struct of five cells. -/
def nodeC (n : Nd) (sv : Value) : List Value := [.int .i64 n.id, .int .i64 n.par, .bool n.tx, .string n.dat, sv]
theorem lent_any (n : Nd) (sv : Value) (W : World) (h : StyAt W sv n.sty) :
    Calls Tryz.prog 61 #[.agg (nodeC n sv).toArray] W fun e w' => ∃ sv', e = .returned (.agg (nodeC n sv').toArray) ∧ StyOwn w' W.heap.size sv' n.sty ∧ Below W.heap.size W w' := by
  have B0 := Lib.hid (((Below.refl W.heap.size W).alloc (Nat.le_refl _) (.cells (nodeC n sv).toArray 32)).alloc (by simp) (.cells #[.int .i64 0, .int .i64 0, .bool false, .string ⟨#[]⟩, .slice none 0 0] 32))
  have N0 := Lib.hid ((Whole.mk W 32 (nodeC n sv).toArray).made (.cells #[.int .i64 0, .int .i64 0, .bool false, .string ⟨#[]⟩, .slice none 0 0] 32))
  have R0 := Lib.hid (Whole.mk (W.alloc (.cells (nodeC n sv).toArray 32)) 32 #[.int .i64 0, .int .i64 0, .bool false, .string ⟨#[]⟩, .slice none 0 0])
  simp only [World.size_alloc] at R0
  have HS := Lib.hid (StyAt.below h (((Below.refl W.heap.size W).alloc (Nat.le_refl _) (.cells (nodeC n sv).toArray 32)).alloc (by simp) (.cells #[.int .i64 0, .int .i64 0, .bool false, .string ⟨#[]⟩, .slice none 0 0] 32)))
  obtain ⟨A1, c1, rfl, -⟩ := h
  go_enter Tryz.func61, Tryz.ntmps61
  go_upto_region 1 with fail
  generalize (W.alloc _).alloc _ = w0 at *
  have c4 : w0.cell? ⟨W.heap.size, 4, none⟩ = some (.slice A1 n.sty.length c1) := N0.out.cell 4
  go_wp2_with fail
  refine (cloneD_any _ n.sty w0 HS.out).mono ?_
  rintro e w1 ⟨sv', rfl, hs, hb⟩
  have N1 := Lib.hid (N0.out.under hb N0.out.size)
  have R1 := Lib.hid (R0.out.under hb R0.out.size)
  have B1 := Lib.hid (B0.out.trans (hb.mono B0.out.size))
  have HS1 := Lib.hid hs
  obtain ⟨A2, c2, rfl, -⟩ := hs
  have h0 : W.heap.size + 1 < w0.heap.size := R0.out.size
  have n1 := HS1.out.other N1.out (by decide)
  have n2 := HS1.out.other R1.out (by decide)
  clear hb N0 R0 B0 HS c4
  have c4 : w1.cell? ⟨W.heap.size, 4, none⟩ = some (.slice A1 n.sty.length c1) := N1.out.cell 4
  have f4 := N1.out.free 4
  have N2 : Hid (Whole (w1.setCell ⟨W.heap.size, 4, none⟩ (.slice A2 n.sty.length c2)) W.heap.size 32 (nodeC n (.slice A2 n.sty.length c2))) := Lib.hid (N1.out.put 4 (.slice A2 n.sty.length c2))
  have R2 := Lib.hid (R1.out.other (p := ⟨W.heap.size, 4, none⟩) (by simp) (.slice A2 n.sty.length c2))
  have B2 := Lib.hid (B1.out.setCell (p := ⟨W.heap.size, 4, none⟩) (by simp) (.slice A2 n.sty.length c2))
  have O2 : Hid (Only [W.heap.size] w1 (w1.setCell ⟨W.heap.size, 4, none⟩ (.slice A2 n.sty.length c2))) := Lib.hid ((Only.refl _ _).setCell _ (.inl (by simp)) _)
  go_upto_region 2 with fail
  generalize w1.setCell _ _ = w2 at *
  clear c4 f4 N1 R1
  go_wp2_with (first
    | (refine cells_load (n := 5) ⟨⟨_, Tryz.underlying32, rfl⟩, by kernel_rfl⟩ (.tmp 1) rfl rfl W.heap.size rfl (nodeC n (.slice A2 n.sty.length c2)) rfl 32 ?_ ?_; (focus (exact N2.out)))
    | (refine cells_store (n := 5) ⟨⟨_, Tryz.underlying32, rfl⟩, by kernel_rfl⟩ (.tmp 2) (.tmp 7) rfl rfl (W.heap.size + 1) rfl (nodeC n (.slice A2 n.sty.length c2)) rfl ?_ rfl 32 [.int .i64 0, .int .i64 0, .bool false, .string ⟨#[]⟩, .slice none 0 0] ?_ rfl ?_; (focus (intro v hv; simp only [nodeC, List.mem_cons, List.not_mem_nil, or_false] at hv; rcases hv with rfl | rfl | rfl | rfl | rfl <;> rfl)); (focus (exact R2.out)); intro w3 h3 o3; have R3 := Lib.hid h3; have O3 := Lib.hid o3; clear h3 o3))
  refine cells_end (n := 5) ⟨⟨_, Tryz.underlying32, rfl⟩, by kernel_rfl⟩ rfl (W.heap.size + 1) rfl (nodeC n (.slice A2 n.sty.length c2)) rfl 32 R3.out rfl ⟨(.slice A2 n.sty.length c2), rfl, ?_, B2.out.trans (O3.out.below (by simp) (by have := R2.out.size; omega))⟩
  have h1 := HS1.out.only O2.out (by intro g hg hm; simp at hm; subst hm; exact n1 hg)
  exact (h1.only O3.out (by intro g hg hm; simp at hm; subst hm; exact n2 hg)).mono (by omega)
end Go.Proofs.YtpbfdfpedpfemaaGreatDoor
