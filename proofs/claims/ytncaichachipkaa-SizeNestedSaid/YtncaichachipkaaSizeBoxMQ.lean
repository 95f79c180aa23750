import Derived.Test.YtncaichachipkaaSizeAwakeQ
import Derived.Test.YtncaichachipkaaBoxesNumQ
import Derived.Test.YtncaichachipkaaStyleInitQ
import Derived.Test.YtncaichachipkaaTameMQ
import Derived.Test.YtncaichachipkaaZQ
import Derived.Test.YtncaichachipkaaRunsOfQ
import Derived.BigRegion
/- SizeBoxes: memory. -/
namespace Go.Proofs.Ytncaichachipkaa
open Go Go.RowKit
set_option linter.unusedVariables false
set_option linter.unusedSimpArgs false
set_option maxRecDepth 20000
set_option maxHeartbeats 8000000

theorem rinit_lit (W : World) : Calls Try.prog 6 #[] W fun e w' => e = .returned (.agg #[.int .i64 1, .int .i64 0, .int .i64 0, .int .i64 0, .int .i64 3, .int .i64 0, .int .i64 0, .int .i64 0, .int .i64 0, .int .i64 0, .int .i64 0, .int .i64 0, .int .i64 0, .int .i64 1, .int .i64 0, .int .i64 1, .int .i64 0, .int .i64 0, .int .i64 0, .int .i64 0, .int .i64 0, .int .i64 0, .int .i64 0, .int .i64 1, .int .i64 0, .int .i64 1, .int .i64 0, .int .i64 1, .int .i64 0, .int .i64 1, .int .i64 0, .int .i64 0, .int .i64 0, .int .i64 0, .int .i64 0, .int .i64 0, .int .i64 0, .int .i64 0, .int .i64 0, .int .i64 0, .int .i64 1, .int .i64 0, .int .i64 1280]) ∧ Below W.heap.size W w' := rinit_any W
/-- A kid's cells. -/
def kidC (x : Int × Nat) : List Value := boxC 2 0 (itemSt x.1) none 0 0 (some ⟨x.2, 0, none⟩) 1 1
theorem kidC_len (x : Int × Nat) : (kidC x).length = 47 := rfl
structure BoSt (W w : World) (mz : List Int) (gb : Nat) (kd d wr : Int) (A : Option Addr) (n c : Nat) (L : List (Int × Nat)) : Prop where
  met : Whole w W.heap.size 25 (i64s mz)
  box : Whole w gb 38 (boxC kd 0 (bSt d wr) A n c none 0 0)
  own : w.ownsRow (gb + 1) 38 47 (.slice A n c) n (L.flatMap kidC)
  runs : ∀ x ∈ L, Whole w x.2 40 (rCells abRn)
  low : Below W.heap.size W w
  far : W.heap.size < gb
section
variable {W w w' : World} {mz : List Int} {gb : Nat} {kd d wr : Int} {A A' : Option Addr} {n n' c c' : Nat} {L : List (Int × Nat)}
theorem BoSt.behind (h : BoSt W w mz gb kd d wr A n c L) (hb : Below w.heap.size w w') : BoSt W w' mz gb kd d wr A n c L :=
  ⟨h.met.under hb h.met.size, h.box.under hb h.box.size, own_below h.own hb (Nat.le_refl _), fun x hx => (h.runs x hx).under hb (h.runs x hx).size, h.low.trans (hb.mono h.low.size), h.far⟩
end
/-- .. and a kid in the making. -/
structure KSt (W w : World) (mz : List Int) (gb : Nat) (kd d wr : Int) (A : Option Addr) (n c : Nat) (L : List (Int × Nat)) (r gk : Nat) (cs : List Value) : Prop where
  st : BoSt W w mz gb kd d wr A n c L
  run : Whole w r 40 (rCells abRn)
  k : Whole w gk 38 cs
  far : gb < gk ∧ W.heap.size < gk ∧ r ≠ gk
  own : ∀ b, (Value.slice A n c).ownBlock = some b → b ≠ gk
  rs : ∀ x ∈ L, x.2 ≠ gk
section
variable {W w w' : World} {mz : List Int} {gb r gk : Nat} {kd d wr : Int} {A A' : Option Addr} {n n' c c' : Nat} {L : List (Int × Nat)} {cs : List Value}
theorem KSt.behind (h : KSt W w mz gb kd d wr A n c L r gk cs) (hb : Below w.heap.size w w') : KSt W w' mz gb kd d wr A n c L r gk cs :=
  ⟨h.st.behind hb, h.run.under hb h.run.size, h.k.under hb h.k.size, h.far, h.own, h.rs⟩
theorem KSt.put (h : KSt W w mz gb kd d wr A n c L r gk cs) (j : Nat) (v : Value) : KSt W (w.setCell ⟨gk, j, none⟩ v) mz gb kd d wr A n c L r gk (cs.set j v) := by
  obtain ⟨f1, f2, f3⟩ := h.far
  have ho : Only [gk] w (w.setCell ⟨gk, j, none⟩ v) := (Only.refl [gk] w).setCell _ (.inl (by simp)) _
  refine ⟨⟨h.st.met.other (by show W.heap.size ≠ gk; omega) _, h.st.box.other (by show gb ≠ gk; omega) _, ho.owns h.st.own fun b hb => by simpa using h.own b hb, fun x hx => (h.st.runs x hx).other (h.rs x hx) _, h.st.low.setCell (by show W.heap.size ≤ gk; omega) _, h.st.far⟩, h.run.other f3 _, h.k.put j v, h.far, h.own, h.rs⟩
theorem KSt.drewN (h : KSt W w mz gb kd d wr A n c L r gk cs) (q : Nat) : KSt W (w.drewN q) mz gb kd d wr A n c L r gk cs := h.behind (Below.drewN' (Below.refl _ _) q)
theorem KSt.row (h : KSt W w mz gb kd d wr A n c L r gk cs) {B : Option Addr} {xs : List Value} (hr : Row W W.heap.size B xs) : Row w W.heap.size B xs := hr.below h.st.low
end
theorem cells_loadV {P : Program} {ops : Array Oper} {rest : List Oper} {o : Oper} {a : Act} {w : World} {Q : Exit → Act → World → Prop} {t : TypeId} {x : Operand} (ho : o.op = .load t x) {n : Nat} (ht : FlatT P t n) (hgd : Region.wanted o (yielded ops a.tmps) = true) (g : Nat) (hx : a.eval x = .pointer (some ⟨g, 0, none⟩)) (cs : List Value) (hz : cs.length = n) (t0 : TypeId)
    (hw : Whole w g t0 cs) (h : wpList P ops Q rest (a.put o.dst (.agg cs.toArray)) w) : wpList P ops Q (o :: rest) a w := cells_loadW ht x hgd ho g hx cs hz t0 hw h
theorem flat_loadV {P : Program} {ops : Array Oper} {rest : List Oper} {o : Oper} {a : Act} {w : World} {Q : Exit → Act → World → Prop} {t : TypeId} {x : Operand} (ho : o.op = .load t x) {n : Nat} (ht : FlatT P t n) (hgd : Region.wanted o (yielded ops a.tmps) = true) (g : Nat) (hx : a.eval x = .pointer (some ⟨g, 0, none⟩)) (zs : List Int) (hz : zs.length = n) (t0 : TypeId)
    (hw : Whole w g t0 (i64s zs)) (h : wpList P ops Q rest (a.put o.dst (.agg (i64s zs).toArray)) w) : wpList P ops Q (o :: rest) a w := flat_loadW ht x hgd ho g hx zs hz t0 hw h
theorem whole_two {w : World} {g g' : Nat} {t t' : TypeId} {cs cs' : List Value} (h : Whole w g t cs) (h' : Whole w g' t' cs') (hne : t ≠ t') : g ≠ g' := by
  intro e
  subst e
  have h1 : w.heap[g]? = some (.cells cs.toArray t (0, 0)) := h
  have h2 : w.heap[g]? = some (.cells cs'.toArray t' (0, 0)) := h'
  rw [h1] at h2
  injection h2 with h2
  injection h2 with _ h2 _
  exact hne h2
theorem bx_info : (Try.prog.info? 38).map (fun i => (i.zero, i.size, i.bytes)) = some (some (.agg boxZ0.toArray), 47, 408) := by kernel_rfl
section
variable {W w w' : World} {mz : List Int} {gb r gk : Nat} {kd d wr : Int} {A A' : Option Addr} {n n' c c' : Nat} {L : List (Int × Nat)} {cs : List Value} {x : Int}
theorem KSt.pushed (h : KSt W w mz gb kd d wr A n c L r gk (kidC (x, r))) (o : Obj) (o6 : Only (Value.slice A n c).ownBlock.toList (w.alloc o) w')
    (h6 : w'.ownsRow (gb + 1) 38 47 (.slice A' (n + 1) c') (n + 1) (L.flatMap kidC ++ kidC (x, r))) : BoSt W (w'.setCell ⟨gb, 45, none⟩ (.slice A' (n + 1) c')) mz gb kd d wr A' (n + 1) c' (L ++ [(x, r)]) := by
  have hlo : ∀ k ∈ (Value.slice A n c).ownBlock.toList, gb + 1 ≤ k := fun k hk => (h.st.own.lt k (by simpa using hk)).1
  have hf := h.st.far
  have hb : Whole w' gb 38 (boxC kd 0 (bSt d wr) A n c none 0 0) := o6.whole (h.st.box.made o) fun hm => by have := hlo _ hm; omega
  have hrun : ∀ g, Whole w g 40 (rCells abRn) → Whole (w'.setCell ⟨gb, 45, none⟩ (.slice A' (n + 1) c')) g 40 (rCells abRn) := fun g hg => by
    have h1 : Whole w' g 40 (rCells abRn) := o6.whole (hg.made o) fun hm => whole_ne hg h.st.own (by decide) (by simpa using hm)
    exact h1.other (p := ⟨gb, 45, none⟩) (by show g ≠ gb; exact whole_two hg h.st.box (by decide)) _
  refine ⟨(o6.whole (h.st.met.made o) fun hm => by have := hlo _ hm; omega).other (p := ⟨gb, 45, none⟩) (by show W.heap.size ≠ gb; omega) _, hb.put 45 _, ?_, fun y hy => ?_, ?_, hf⟩
  · rw [List.flatMap_append]
    have := ownsRow_setCell_below h6 (a := ⟨gb, 45, none⟩) (by show gb < gb + 1; omega) (.slice A' (n + 1) c')
    simpa using this
  · rcases List.mem_append.1 hy with hy | hy
    · exact hrun _ (h.st.runs y hy)
    · rw [List.mem_singleton] at hy; subst hy; exact hrun _ h.run
  · exact ((h.st.low.alloc h.st.low.size o).trans (o6.below (fun k hk => by have := hlo k hk; omega) (by have := h.st.low.size; simp; omega))).setCell (p := ⟨gb, 45, none⟩) (by show W.heap.size ≤ gb; omega) _
theorem boxes_row {S : Nat → Prop} {g : Nat} : ∀ (L : List (Int × Nat)) (q : Nat), S g → (∀ j (h : j < L.length), w.rangeAt g (q + j * 47) (kidC L[j])) → (∀ y ∈ L, S y.2 ∧ Whole w y.2 40 (rCells abRn)) → BoxesAt w S ((L.map (·.1)).map kidB) (some ⟨g, q, none⟩)
  | [], q, _, _, _ => by rw [List.map_nil, List.map_nil, BoxesAt]; trivial
  | y :: L, q, hg, hr, hs => by
    rw [List.map_cons, List.map_cons, BoxesAt]
    refine ⟨g, q, kidC y, rfl, hg, by have := hr 0 (by simp); rw [Nat.zero_mul, Nat.add_zero] at this; exact this, ?_, boxes_row L (q + 47) hg (fun j hj => ?_) fun z hz => hs z (by simp [hz])⟩
    · obtain ⟨h1, h2⟩ := hs y (by simp)
      unfold kidB
      rw [BoxV]
      exact ⟨none, 0, some ⟨y.2, 0, none⟩, 1, rfl, rfl, itemSt_in y.1, fun _ => ⟨y.2, 0, rfl, h1, fun j v hv => by rw [Nat.zero_add, h2.cell j]; exact hv⟩, by rw [BoxesAt]; trivial⟩
    · have := hr (j + 1) (by simpa using hj)
      rw [show q + (j + 1) * 47 = q + 47 + j * 47 by omega] at this
      simpa using this
theorem BoSt.vb (h : BoSt W w mz gb kd d wr A n c L) (hn : n = L.length) (hd : 0 ≤ d ∧ d < 4) (hw : 0 ≤ wr ∧ wr < 3) : BoxV w (· < w.heap.size) (rowB kd d wr (L.map (·.1))) (boxC kd 0 (bSt d wr) A n c none 0 0) := by
  unfold rowB
  rw [BoxV]
  refine ⟨A, c, none, 0, by simp [hn], rfl, ?_, fun e => absurd rfl e, ?_⟩
  · intro z hz
    simp only [bSt, List.mem_cons, List.not_mem_nil, or_false] at hz
    unfold I64
    omega
  · rcases Nat.eq_zero_or_pos n with h0 | h0
    · have : L = [] := List.eq_nil_of_length_eq_zero (by omega)
      subst this
      rw [List.map_nil, List.map_nil, BoxesAt]; trivial
    · obtain ⟨g, c1, hv, -, -, hg⟩ := owns_some h.own h0
      injection hv with e1 _ _
      subst e1
      exact boxes_row L 0 hg (fun j hj => by rw [Nat.zero_add]; exact own_range kidC_len h.own j hj) fun y hy => ⟨(h.runs y hy).size, h.runs y hy⟩
end
end Go.Proofs.Ytncaichachipkaa
