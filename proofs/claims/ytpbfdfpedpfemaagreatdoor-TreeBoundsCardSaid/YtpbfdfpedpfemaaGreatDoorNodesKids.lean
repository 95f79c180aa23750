import Derived.Test.YtpbfdfpedpfemaaGreatDoorNodesNode
import Derived.Maps.AppendAt
/- slices.Clone, Index, Insert of numbers; nodes.Kids. -/
namespace Go.Proofs.YtpbfdfpedpfemaaGreatDoor
open Go Go.RowKit
set_option linter.unusedVariables false
set_option linter.unusedSimpArgs false
set_option maxRecDepth 20000
set_option maxHeartbeats 4000000

/-- Numbers as a slice that reads so. -/
def IdsAt (w : World) (v : Value) (l : List Int) : Prop := ∃ A c, v = .slice A l.length c ∧ Row w w.heap.size A (idC l) ∧ l.length ≤ 1000000
/-- .. of its own. -/
def IdsOwn (w : World) (base : Nat) (v : Value) (l : List Int) : Prop := ∃ A c, v = .slice A l.length c ∧ w.ownsRow base 3 1 (.slice A l.length c) l.length (idC l) ∧ l.length ≤ 1000000
theorem IdsOwn.at_ {w : World} {base : Nat} {v : Value} {l : List Int} (h : IdsOwn w base v l) : IdsAt w v l := by
  obtain ⟨A, c, e, ho, hl⟩ := h
  exact ⟨A, c, e, row_of_own ho, hl⟩
theorem IdsOwn.only {S : List Nat} {w w' : World} {base : Nat} {v : Value} {l : List Int} (h : IdsOwn w base v l) (ho : Only S w w') (hn : ∀ g, v.ownBlock = some g → g ∉ S) : IdsOwn w' base v l := by
  obtain ⟨A, c, rfl, hr, hl⟩ := h
  exact ⟨A, c, rfl, ho.owns hr hn, hl⟩
theorem IdsAt.below {w w' : World} {v : Value} {l : List Int} (h : IdsAt w v l) (hb : Below w.heap.size w w') : IdsAt w' v l := by
  obtain ⟨A, c, e, hr, hl⟩ := h
  exact ⟨A, c, e, (hr.below hb).more hb.size, hl⟩
theorem ids_of_own {w : World} {base : Nat} {v : Value} {l : List Int} {e : Nat} (h : w.ownsRow base e 1 v l.length (idC l)) (hl : l.length ≤ 1000000) : IdsAt w v l := by
  obtain ⟨A, c, rfl⟩ := own_shape h
  exact ⟨A, c, rfl, row_of_own h, hl⟩
theorem idC_length (l : List Int) : (idC l).length = l.length := by simp
theorem idC_one (l : List Int) : ∀ u ∈ idC l, u.oneCell' = true := by
  intro u hu
  obtain ⟨z, -, rfl⟩ := List.mem_map.1 hu
  rfl
theorem eqNil (w : World) (a : Option Addr) (n c n' c' : Nat) : (binOp .eql 28 (.slice a n c) (.slice none n' c')).run Tryz.prog w = .ok (.bool a.isNone) w := Lib.run_eql_slice_nil w _ _ a n c n' c' Tryz.underlying28
theorem cloneI_any (v : Value) (l : List Int) (W : World) (h : IdsAt W v l) :
    Calls Tryz.prog 63 #[v] W fun e w' => ∃ v', e = .returned v' ∧ IdsOwn w' W.heap.size v' l ∧ Below W.heap.size W w' := by
  obtain ⟨A, c, rfl, hR, hl⟩ := h
  have q := eqNil
  have HR := Lib.hid hR
  clear hR
  cases A with
  | none =>
    have h0 : l = [] := by
      cases l with
      | nil => rfl
      | cons d r =>
        obtain ⟨ad, e, -⟩ := HR.out (by simp)
        cases e
    subst h0
    go_enter Tryz.func63, Tryz.ntmps63
    go_wp2_with (rw [q])
    go_ret
    exact ⟨_, rfl, ⟨none, 0, rfl, ⟨rfl, .inl ⟨rfl, rfl⟩⟩, by simp⟩, Below.refl _ _⟩
  | some ad =>
    go_enter Tryz.func63, Tryz.ntmps63
    go_wp2_with (first
      | (rw [q])
      | (at_builtin; refine wpList_plain rfl fun K hK => wp_push_all (.tmp 5) (.tmp 6) 28 rfl W.heap.size 3 1 8 (.int .i64 0) Tryz.underlying28 intInfo rfl (by decide) 0 0 (some ⟨W.heap.size, 0, none⟩) [] rfl (World.ownsRow_made W #[] 0 (Nat.le_refl _) (Nat.zero_le _) rfl) W.heap.size l.length c (some ad) (idC l) rfl (fun e => by cases e) (by rw [idC_length, Nat.mul_one]) (HR.out.alloc (Nat.le_refl _) _) (idC_one l) (by unfold maxLen; omega) (by omega) (by simp) ?_; intro A1 c1 w1 ho hb; refine hK _ _ ?_; have HO := Lib.hid ho; have HB := Lib.hid hb; clear ho hb))
    go_ret
    have hs := HO.out
    rw [Nat.zero_add, List.nil_append] at hs
    exact ⟨_, rfl, ⟨A1, c1, rfl, hs, hl⟩, ((Below.refl _ _).alloc (Nat.le_refl _) _).trans HB.out⟩
theorem kids_few (L : List Nd) (id : Int) : (kidsZ L id).length ≤ L.length := by
  unfold kidsZ
  rw [List.length_map]
  have h1 := List.length_filter_le (fun n : Nd => n.par == id) L.tail
  have h2 : L.tail.length = L.length - 1 := List.length_tail
  omega
theorem nkids_any {W : World} {base t : Nat} {most : Int} {L : List Nd} (hT : Tree W base t most L) {id : Int} (hi : In64i id) (h0 : 0 ≤ id) (hL : L.length ≤ 1000) :
    Calls Tryz.prog 40 #[.pointer (some ⟨t, 0, none⟩), .int .i64 id] W fun e w' => ∃ v, e = .returned v ∧ IdsOwn w' W.heap.size v (kidsZ L id) ∧ Below W.heap.size W w' := by
  obtain ⟨b, f, sv, kv, h⟩ := hT
  obtain ⟨c0, c1⟩ := h.cells
  have hl := h.look hi
  cases ha : atZ L id with
  | none =>
    have hn : hasZ L id = false := by unfold hasZ; rw [ha]; rfl
    rw [h.gone hn] at hl
    have hk := kids_none h.ok hn
    change (Instr.lookup 86 (.map (some b)) (.int .i64 id) false).run Tryz.prog W = .ok (.pointer none) W at hl
    clear h
    go_enter Tryz.func40, Tryz.ntmps40
    go_wp2_with (rw [hl])
    go_ret
    exact ⟨_, rfl, by rw [hk]; exact ⟨none, 0, rfl, ⟨rfl, .inl ⟨rfl, rfl⟩⟩, by simp⟩, Below.refl _ _⟩
  | some n =>
    obtain ⟨g, hg, -, hw⟩ := h.node ha
    obtain ⟨hm, hid⟩ := at_some ha
    have hk := h.kid n hm
    rw [hid] at hk
    rw [hg] at hl
    have d5 := hw.cell 5
    simp only [ndC, List.getElem?_cons_zero, List.getElem?_cons_succ] at d5
    have HK := Lib.hid (ids_of_own hk (by have := kids_few L id; omega))
    change (Instr.lookup 86 (.map (some b)) (.int .i64 id) false).run Tryz.prog W = .ok (.pointer (some ⟨g, 0, none⟩)) W at hl
    generalize kv id = v at *
    clear h hk hw ha hg hm
    go_enter Tryz.func40, Tryz.ntmps40
    go_wp2_with (rw [hl])
    refine (cloneI_any v _ W HK.out).mono ?_
    rintro e w1 ⟨v', rfl, hv, hb⟩
    have HV := Lib.hid hv
    have HB := Lib.hid hb
    clear hv hb hl c0 c1 d5
    go_wp2
    go_ret
    exact ⟨v', rfl, HV.out, HB.out⟩
/-- Index of one that is not there. -/
theorem index_none (A : Option Addr) (c : Nat) (zs : List Int) (x : Int) (hx : x ∉ zs) (hl : zs.length ≤ 1000000) (W : World) (hR : Row W W.heap.size A (idC zs)) :
    Calls Tryz.prog 72 #[.slice A zs.length c, .int .i64 x] W fun e w' => e = .returned (.int .i64 (-1)) ∧ W = w' := by
  have HR := Lib.hid (show Row W W.heap.size A (i64s zs) from hR)
  have HX := Lib.hid hx
  clear hR hx
  go_enter Tryz.func72, Tryz.ntmps72
  go_wp2
  go_loopw [5, 8] (fun v5 v8 wr => ∃ k : Nat, k ≤ zs.length ∧ v8 = .int .i64 k ∧ wr = W) (fun v5 v8 _ => zs.length - (intOf v8).toNat)
  case atStart => exact ⟨0, Nat.zero_le _, rfl, rfl⟩
  case round =>
    obtain ⟨k, hk, rfl, rfl⟩ := hrel
    by_cases hlt : k < zs.length
    · obtain ⟨ad, rfl, hb, hc⟩ := HR.out.int hlt
      have hne : (x == zs[k]) = false := by rw [beq_eq_false_iff_ne]; intro e; exact HX.out (e ▸ List.getElem_mem hlt)
      generalize zs[k] = z at *
      go_wp2_with fail
      go_roundw
      case rel => exact ⟨k + 1, by omega, by go_num, by first | rfl | trivial⟩
      case measure => simp [intOf]; omega
    · go_wp2_with fail
      go_ret
      exact ⟨rfl, rfl⟩
/-- Insert at the end, of one. -/
theorem insert_end (base : Nat) (v : Value) (zs : List Int) (x : Int) (g : Nat) (hl : zs.length ≤ 1000000) (W : World) (ho : W.ownsRow base 3 1 v zs.length (idC zs)) (hb : base ≤ W.heap.size) (hg : Whole W g 3 [.int .i64 x]) :
    Calls Tryz.prog 73 #[v, .int .i64 zs.length, .slice (some ⟨g, 0, none⟩) 1 1] W fun e w' => ∃ v', e = .returned v' ∧ w'.ownsRow base 3 1 v' (zs ++ [x]).length (idC (zs ++ [x])) ∧ Only v.ownBlock.toList W w' ∧ (v'.ownBlock = v.ownBlock ∨ v'.ownBlock = some W.heap.size) := by
  obtain ⟨A, c, rfl⟩ := own_shape ho
  have HO := Lib.hid ho
  have HG := Lib.hid hg
  have hcap : zs.length ≤ c := by
    rcases ho.2 with ⟨e, h0⟩ | ⟨g', cap, cur, e, h1, h2, h3, h4⟩
    · injection e with e1 e2 e3; omega
    · injection e with e1 e2 e3; omega
  clear ho hg
  obtain ⟨i0, hi, hz0, hz1, hz2⟩ := info_parts intInfo
  by_cases hcn : c = zs.length
  · subst hcn
    cases A
    · go_enter Tryz.func73, Tryz.ntmps73
      go_wp2_with (at_builtin; refine wpList_append_own_at _ rfl (.tmp 23) (.tmp 24) 28 rfl base 3 i0 (.int .i64 0) 1 8 Tryz.underlying28 hi hz0 hz1 hz2 rfl (by decide) _ zs.length (idC zs) rfl HO.out ⟨g, 0, none⟩ 1 1 [.int .i64 x] rfl rfl ?_ (by intro u hu; simp at hu; subst hu; rfl) (by unfold maxLen; omega) (by omega) hb ?_; (focus (intro j u hj; cases j with | zero => simp at hj; subst hj; exact HG.out.cell 0 | succ j => simp at hj)); intro v' w1 h1 h2 h3 h4; have P1 := Lib.hid h1; have P2 := Lib.hid h2; have P4 := Lib.hid h4; clear h1 h2 h3 h4)
      go_ret
      refine ⟨_, rfl, ?_, Only.of_grown P2.out, P4.out⟩
      have h5 := P1.out
      simpa [idC] using h5
    · go_enter Tryz.func73, Tryz.ntmps73
      go_wp2_with (at_builtin; refine wpList_append_own_at _ rfl (.tmp 23) (.tmp 24) 28 rfl base 3 i0 (.int .i64 0) 1 8 Tryz.underlying28 hi hz0 hz1 hz2 rfl (by decide) _ zs.length (idC zs) rfl HO.out ⟨g, 0, none⟩ 1 1 [.int .i64 x] rfl rfl ?_ (by intro u hu; simp at hu; subst hu; rfl) (by unfold maxLen; omega) (by omega) hb ?_; (focus (intro j u hj; cases j with | zero => simp at hj; subst hj; exact HG.out.cell 0 | succ j => simp at hj)); intro v' w1 h1 h2 h3 h4; have P1 := Lib.hid h1; have P2 := Lib.hid h2; have P4 := Lib.hid h4; clear h1 h2 h3 h4)
      go_ret
      refine ⟨_, rfl, ?_, Only.of_grown P2.out, P4.out⟩
      have h5 := P1.out
      simpa [idC] using h5
  · cases A
    · go_enter Tryz.func73, Tryz.ntmps73
      go_wp2_with (at_builtin; refine wpList_append_own_at _ rfl (.tmp 23) (.tmp 24) 28 rfl base 3 i0 (.int .i64 0) 1 8 Tryz.underlying28 hi hz0 hz1 hz2 rfl (by decide) _ zs.length (idC zs) rfl HO.out ⟨g, 0, none⟩ 1 1 [.int .i64 x] rfl rfl ?_ (by intro u hu; simp at hu; subst hu; rfl) (by unfold maxLen; omega) (by omega) hb ?_; (focus (intro j u hj; cases j with | zero => simp at hj; subst hj; exact HG.out.cell 0 | succ j => simp at hj)); intro v' w1 h1 h2 h3 h4; have P1 := Lib.hid h1; have P2 := Lib.hid h2; have P4 := Lib.hid h4; clear h1 h2 h3 h4)
      go_ret
      refine ⟨_, rfl, ?_, Only.of_grown P2.out, P4.out⟩
      have h5 := P1.out
      simpa [idC] using h5
    · go_enter Tryz.func73, Tryz.ntmps73
      go_wp2_with (at_builtin; refine wpList_append_own_at _ rfl (.tmp 23) (.tmp 24) 28 rfl base 3 i0 (.int .i64 0) 1 8 Tryz.underlying28 hi hz0 hz1 hz2 rfl (by decide) _ zs.length (idC zs) rfl HO.out ⟨g, 0, none⟩ 1 1 [.int .i64 x] rfl rfl ?_ (by intro u hu; simp at hu; subst hu; rfl) (by unfold maxLen; omega) (by omega) hb ?_; (focus (intro j u hj; cases j with | zero => simp at hj; subst hj; exact HG.out.cell 0 | succ j => simp at hj)); intro v' w1 h1 h2 h3 h4; have P1 := Lib.hid h1; have P2 := Lib.hid h2; have P4 := Lib.hid h4; clear h1 h2 h3 h4)
      go_ret
      refine ⟨_, rfl, ?_, Only.of_grown P2.out, P4.out⟩
      have h5 := P1.out
      simpa [idC] using h5
end Go.Proofs.YtpbfdfpedpfemaaGreatDoor
