import Derived.Test.YtpnpmellohacoaaDoorProg
import Derived.Test.YtpnpmellohacoaaDoorOnly
import Derived.Test.YtpnpmellohacoaaDoorHeapNum
import Derived.WalkKit
import Derived.WalkLawsBesides
import Derived.WalkSpells
import Derived.Outline
import Derived.IntWalk
import Derived.Deep.QuietTactic
import Derived.BigQuiet
/- The five methods of pool's heap by their contracts. -/
namespace Go.Proofs.YtpnpmellohacoaaDoor
open Go.RowKit
set_option linter.unusedVariables false
set_option linter.unusedSimpArgs false

theorem int_info : (Tryd.prog.info? 3).map (fun i => (i.zero, i.size, i.bytes)) = some (some (.int .i64 0), 1, 8) := by kernel_rfl
theorem at0_cell {w : World} {b n c : Nat} {zs : List Int} (h : w.ownsRow 0 3 1 (.slice (some ⟨b, 0, none⟩) n c) n (i64s zs)) {i : Nat} (hi : i < n) : w.cell? ⟨b, i, none⟩ = some (.int .i64 (at0 zs i)) := by
  have hl : zs.length = n := by have := h.1; rw [i64s_length] at this; omega
  rw [h.cellAt i (by omega)]
  unfold i64s at0
  simp [List.getD_eq_getElem?_getD, show i < zs.length by omega]
theorem len_any (A : Option Addr) (n c : Nat) (w : World) (hn : n ≤ 9223372036854775807) : Calls Tryd.prog 50 #[.slice A n c] w fun e w' => e = .returned (.int .i64 n) ∧ w = w' := by
  go_enter Tryd.func50, Tryd.ntmps50
  go_wp2
  go_ret
  exact ⟨rfl, rfl⟩
def LessB (x y : Int) : Bool := decide (x < y)
theorem less_any (b n c i j : Nat) (zs : List Int) (w : World) (h : w.ownsRow 0 3 1 (.slice (some ⟨b, 0, none⟩) n c) n (i64s zs)) (hi : i < n) (hj : j < n) (hn : n ≤ 9223372036854775807) :
    Calls Tryd.prog 51 #[.slice (some ⟨b, 0, none⟩) n c, .int .i64 i, .int .i64 j] w fun e w' => e = .returned (.bool (LessB (at0 zs i) (at0 zs j))) ∧ Only [] w w' := by
  have ci := at0_cell h hi
  have cj := at0_cell h hj
  have H := Lib.hid h
  clear h
  generalize at0 zs i = x at *
  generalize at0 zs j = y at *
  go_enter Tryd.func51, Tryd.ntmps51
  go_wp2
  go_quiet (fail)
  all_goals
    go_wp2
    go_ret
    exact ⟨rfl, (Only.refl [] w).drewN _⟩

theorem i64s_sw (zs : List Int) (i j : Nat) : i64s (sw zs i j) = ((i64s zs).set i (.int .i64 (at0 zs j))).set j (.int .i64 (at0 zs i)) := by
  unfold i64s sw; simp [List.map_set]
theorem swap_any (b n c i j : Nat) (zs : List Int) (w : World) (h : w.ownsRow 0 3 1 (.slice (some ⟨b, 0, none⟩) n c) n (i64s zs)) (hi : i < n) (hj : j < n) (hn : n ≤ 9223372036854775807) :
    Calls Tryd.prog 52 #[.slice (some ⟨b, 0, none⟩) n c, .int .i64 i, .int .i64 j] w fun e w' => e = .returned (.tuple #[]) ∧ w'.ownsRow 0 3 1 (.slice (some ⟨b, 0, none⟩) n c) n (i64s (sw zs i j)) ∧ Only [b] w w' := by
  have hb := owns_lt h (g := b) rfl
  have ci : ∀ s : Later w.heap.size w, s.w.cell? ⟨b, i, none⟩ = some (.int .i64 (at0 zs i)) := fun s => (s.h.cell (p := ⟨b, i, none⟩) hb).trans (at0_cell h hi)
  have cj : ∀ s : Later w.heap.size w, s.w.cell? ⟨b, j, none⟩ = some (.int .i64 (at0 zs j)) := fun s => (s.h.cell (p := ⟨b, j, none⟩) hb).trans (at0_cell h hj)
  have e := i64s_sw zs i j
  rw [e]
  clear e
  have H := Lib.hid h
  clear h
  generalize at0 zs i = x at *
  generalize at0 zs j = y at *
  go_enter Tryd.func52, Tryd.ntmps52
  go_wp2_with fail
  refine region_lane [0, 1, 2, 3, 4, 5, 8, 9] [6, 7, 10, 11] [12, 13, 14, 15] (by kernel_rfl) (by kernel_rfl) (fun _ _ _ _ _ h => h) ?_
  simp only [pick, List.map_cons, List.map_nil, List.getD_cons_zero, List.getD_cons_succ, List.drop_succ_cons, List.drop_zero]
  repeat (go_big_quiet_step (fail))
  refine wpQuiet_nil ?_
  refine ⟨rfl, ?_⟩
  refine laneO_run 4 (by kernel_rfl) ?_
  simp only [List.take_succ_cons, List.take_zero, List.drop_succ_cons, List.drop_zero]
  repeat (go_big_quiet_step (fail))
  refine wpQuiet_nil ?_
  refine laneO_end0 rfl rfl fun w1 hb0 => ?_
  clear ci cj
  have hb1 : Below w.heap.size w w1 := hb0
  have H1 := own_below H.out hb1 (Nat.le_refl _)
  have gi : w1.cell? ⟨b, i, none⟩ = some (.int .i64 (at0 zs i)) := at0_cell H1 hi
  have fi := H1.frozenAt i
  obtain ⟨S1, G1⟩ := H1.stored i (.int .i64 y)
  obtain ⟨u, gj⟩ : ∃ u, (w1.setCell ⟨b, i, none⟩ (.int .i64 y)).cell? ⟨b, j, none⟩ = some u := by
    rw [S1.cellAt j (by omega)]
    exact ⟨_, List.getElem?_eq_getElem (by have := S1.1; simp at this ⊢; omega)⟩
  have fj := S1.frozenAt j
  obtain ⟨S2, G2⟩ := S1.stored j (.int .i64 x)
  have S2 := Lib.hid S2
  have HO := Lib.hid ((((Only.of_below hb1 : Only [b] w w1).setCell ⟨b, i, none⟩ (.inl (by simp)) (.int .i64 y)).setCell ⟨b, j, none⟩ (.inl (by simp)) (.int .i64 x)))
  clear S1 G1 G2 H1
  go_wp2
  refine bodyPost_end (v := .tuple #[]) (by simp [results, Tryd.results52, go_sem]) rfl ⟨rfl, S2.out, HO.out⟩

/-- The pool's block, and the row of what was freed. -/
structure HpAt (w : World) (g : Nat) (M PV FV : Value) (zs : List Int) : Prop where
  whole : Whole w g 51 [M, PV, FV]
  row : w.ownsRow 0 3 1 FV zs.length (i64s zs)
theorem HpAt.ne {w : World} {g : Nat} {M PV FV : Value} {zs : List Int} (h : HpAt w g M PV FV zs) : FV.ownBlock ≠ some g := whole_ne h.whole h.row (by decide)
theorem HpAt.only {w w' : World} {g : Nat} {M PV FV : Value} {zs : List Int} (h : HpAt w g M PV FV zs) {S : List Nat} (ho : Only S w w') (hg : g ∉ S) (hf : ∀ k, FV.ownBlock = some k → k ∉ S) : HpAt w' g M PV FV zs :=
  ⟨ho.whole h.whole hg, ho.owns h.row hf⟩
theorem wpList_push {ops : Array Oper} {rest : List Oper} {o : Oper} {a : Act} {w : World} {Q : Exit → Act → World → Prop} {P : Program} (hw : Region.wanted o (yielded ops a.tmps) = true) (s x : Operand) (t : TypeId)
    (ho : o.op = .call { callee := .builtin .append, args := #[s, x], argTypes := #[t, t] })
    (e size bytes : Nat) (z : Value) (ht : P.underlying t = some (.slice e)) (hinfo : (P.info? e).map (fun i => (i.zero, i.size, i.bytes)) = some (some z, size, bytes))
    (hzs : z.cells.size = size) (hsz : 0 < size) (n : Nat) (v : Value) (xs : List Value) (hs : a.eval s = v) (hown : w.ownsRow 0 e size v n xs)
    (ad : Addr) (m c : Nat) (news : List Value) (hx : a.eval x = .slice (some ad) m c) (hl : news.length = m * size) (hm : 0 < m) (hnews : ∀ j u, news[j]? = some u → w.cell? (ad.add j) = some u) (h1 : ∀ u ∈ news, u.oneCell' = true)
    (h63 : n + m ≤ maxLen) (hbytes : (n + m) * bytes ≤ 140737488355328)
    (h : ∀ v' w', w'.ownsRow 0 e size v' (n + m) (xs ++ news) → Only v.ownBlock.toList w w' → (∀ g, v'.ownBlock = some g → v.ownBlock = some g ∨ w.heap.size ≤ g) → wpList P ops Q rest (a.put o.dst v') w') : wpList P ops Q (o :: rest) a w :=
  wpList_wanted hw fun K hK => by
    obtain ⟨v', w', hr, h2, h3, h4⟩ := run_push (P := P) (w := w) t o.type z ht hinfo hzs hsz v hown ad m c news hl hm hnews h1 h63 hbytes
    unfold Oper.wp execOp
    simp only [ho, resolve, invoke, builtin, Sem.run_bind, Sem.run_pure, Result.andThen_ok, List.map_toArray, List.map_cons, List.map_nil, hs, hx, hr]
    exact hK _ _ (h v' w' h2 (Only.of_grown h3) h4)
theorem assertInt (x : Int) (w : World) : (Instr.typeAssert (.iface 3 (.int .i64 x)) 20 3 false).run Tryd.prog w = .ok (.int .i64 x) w := by kernel_rfl
theorem push_any (g : Nat) (M PV FV : Value) (zs : List Int) (x : Int) (w : World) (h : HpAt w g M PV FV zs) (hn : zs.length ≤ 1000000) :
    Calls Tryd.prog 54 #[.pointer (some ⟨g, 2, none⟩), .iface 3 (.int .i64 x)] w fun e w' => e = .returned (.tuple #[]) ∧ ∃ FV', HpAt w' g M PV FV' (zs ++ [x]) ∧ Only (g :: FV.ownBlock.toList) w w' ∧ (∀ k, FV'.ownBlock = some k → FV.ownBlock = some k ∨ w.heap.size ≤ k) := by
  have hne := h.ne
  have hg := h.whole.size
  have H := Lib.hid h
  have hc : ∀ s : Later w.heap.size w, s.w.cell? ⟨g, 2, none⟩ = some FV := fun s => (s.h.cell (p := ⟨g, 2, none⟩) hg).trans (h.whole.cell 2)
  obtain ⟨A, c, rfl, hc1, hc2, hc3⟩ := owns_nil h.row
  clear h
  have hc6 : c ≤ 9223372036854775807 := by unfold maxLen at hc2; omega
  clear hc2
  have tA := assertInt
  go_enter Tryd.func54, Tryd.ntmps54
  go_wp2_with fail
  refine region_lane [0, 1, 4] [2, 3, 5, 6] [7, 8, 9] (by kernel_rfl) (by kernel_rfl) (fun _ _ _ _ _ h => h) ?_
  simp only [pick, List.map_cons, List.map_nil, List.getD_cons_zero, List.getD_cons_succ, List.drop_succ_cons, List.drop_zero]
  repeat (go_big_quiet_step (fail))
  refine wpQuiet_nil ?_
  refine ⟨rfl, ?_⟩
  refine laneO_run 3 (by kernel_rfl) ?_
  simp only [List.take_succ_cons, List.take_zero, List.drop_succ_cons, List.drop_zero]
  repeat (go_big_quiet_step (fail))
  refine wpQuiet_nil ?_
  refine laneO_told (madeT 1 3 [.int .i64 x]) (madeT_steady _ _ _) (by kernel_rfl) rfl (fun w hw => .inl ⟨by rfl, ?_⟩) ?_
  · unfold gives
    simp [go_sem]
    exact madeT_new 1 3 #[.int .i64 x] w
  refine laneO_end (by simp) rfl rfl rfl fun w1 hb0 => ?_
  rintro u ⟨g1, rfl, hg1⟩
  simp only [Act.put, List.setIfInBounds_toArray, List.set_cons_zero, List.set_cons_succ, fillAll]
  have hb1 : Below w.heap.size w w1 := hb0
  have R1 := own_below H.out.row hb1 (Nat.le_refl _)
  refine wpList_push (by rfl) (.tmp 7) (.tmp 10) 49 rfl 3 1 8 (.int .i64 0) Tryd.underlying49 int_info (by rfl) (by decide) zs.length (.slice A zs.length c) (i64s zs) rfl R1 ⟨g1, 0, none⟩ 1 1 [.int .i64 x] rfl rfl (by decide) ?_ ?_ (by unfold maxLen; omega) (by omega) ?_
  · intro j u hu
    cases j with
    | zero =>
      simp at hu; subst hu
      rw [add_zero]
      have : Whole w1 g1 3 [.int .i64 x] := hg1
      exact this.cell 0
    | succ j => simp at hu
  · intro u hu; simp at hu; subst hu; rfl
  intro v' w2 h2 ho hk
  obtain ⟨A', c', rfl, _, _, _⟩ := owns_nil h2
  have W2 := ho.whole (H.out.whole.under hb1 hg) (by simpa [eq_comm] using hne)
  have c2 : w2.cell? ⟨g, 2, none⟩ = some (.slice A zs.length c) := W2.cell 2
  have f2 := W2.free 2
  have HW := Lib.hid W2
  have HR := Lib.hid h2
  have HO : Hid (Only (g :: (Value.slice A zs.length c).ownBlock.toList) w w2) := Lib.hid ((Only.of_below hb1).trans ho fun x hx => .inl (by simp at hx ⊢; exact .inr hx))
  have HK := Lib.hid hk
  have HS := Lib.hid hb1.size
  have hkw : Hid (∀ k, (Value.slice A' (zs.length + 1) c').ownBlock = some k → k ≠ g) := Lib.hid fun k e e2 => whole_ne W2 h2 (by decide) (by rw [e, e2])
  clear ho h2 W2 hk hb1 R1 hb0 hg1 hc tA hne
  go_wp2
  refine bodyPost_end (v := .tuple #[]) (by simp [results, Tryd.results54, go_sem]) rfl ⟨rfl, .slice A' (zs.length + 1) c', ⟨?_, ?_⟩, ?_, ?_⟩
  · exact HW.out.put 2 _
  · have := HR.out
    refine ((Only.refl [g] w2).setCell ⟨g, 2, none⟩ (.inl (by simp)) _).owns (by simpa [i64s] using this) fun k hk => ?_
    simpa using hkw.out k hk
  · exact HO.out.setCell _ (.inl (by simp)) _
  · exact fun k hk => (HK.out k hk).imp_right fun h => Nat.le_trans HS.out h
theorem pop_any (g b n c : Nat) (M PV : Value) (zs : List Int) (w : World) (h : HpAt w g M PV (.slice (some ⟨b, 0, none⟩) (n + 1) c) zs) (hz : zs.length = n + 1) (hn : n ≤ 1000000) :
    Calls Tryd.prog 53 #[.pointer (some ⟨g, 2, none⟩)] w fun e w' => e = .returned (.iface 3 (.int .i64 (at0 zs n))) ∧ HpAt w' g M PV (.slice (some ⟨b, 0, none⟩) n c) (zs.take n) ∧ Only [g] w w' := by
  have hne := h.ne
  have hg := h.whole.size
  have H := Lib.hid h
  have hr := h.row
  rw [hz] at hr
  have c2 : w.cell? ⟨g, 2, none⟩ = some (.slice (some ⟨b, 0, none⟩) (n + 1) c) := h.whole.cell 2
  have f2 := h.whole.free 2
  have cn := at0_cell hr (i := n) (by omega)
  have ⟨hc1, hc2⟩ : n + 1 ≤ c ∧ c ≤ maxLen := by
    obtain ⟨A, c', e, hc1, hc2, hc3⟩ := owns_nil hr
    injection e with _ _ e3
    subst e3
    exact ⟨hc1, hc2⟩
  have HR := Lib.hid hr
  have HZ := Lib.hid hz
  clear h hr hz hne
  have hc4 : n + 1 ≤ c := hc1
  have hc5 : n ≤ c := by omega
  have hc6 : c ≤ 9223372036854775807 := by unfold maxLen at hc2; omega
  clear hc2
  generalize at0 zs n = x at *
  go_enter Tryd.func53, Tryd.ntmps53
  go_wp2
  go_ret
  refine ⟨rfl, ⟨?_, ?_⟩, ?_⟩
  · exact H.out.whole.put 2 _
  · have := owns_cut HR.out n (by omega)
    have hl : (zs.take n).length = n := by simp [HZ.out]
    rw [hl]
    refine ((Only.refl [g] w).setCell ⟨g, 2, none⟩ (.inl (by simp)) _).owns (by simpa [i64s_take] using this) fun k hk => ?_
    have := H.out.ne
    simp [Value.ownBlock] at this hk ⊢
    omega
  · exact (Only.refl [g] w).setCell _ (.inl (by simp)) _
end Go.Proofs.YtpnpmellohacoaaDoor
