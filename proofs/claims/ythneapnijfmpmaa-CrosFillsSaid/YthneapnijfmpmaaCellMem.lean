import Derived.Test.YthneapnijfmpmaaFlatMem
import Derived.Laws.Tables
import Derived.Laws.ResultCell
/- A block of cells of any kinds read and written whole. No program is named here. -/
namespace Go.Proofs.Ythneapnijfmpmaa
open Go Go.RowKit
set_option linter.unusedVariables false
set_option linter.unusedSimpArgs false

theorem cells_one {cs : List Value} (h : ∀ v ∈ cs, v.oneCell' = true) : cs.toArray.all (·.oneCell') = true := Array.all_eq_true_iff_forall_mem.2 fun v hv => h v (by simpa using hv)
section
variable {P : Program} {ops : Array Oper} {rest : List Oper} {o : Oper} {a : Act} {w : World} {Q : Exit → Act → World → Prop}
theorem cells_load {t : TypeId} {n : Nat} (ht : FlatT P t n) (x : Operand) (hgd : o.guard = none) (ho : o.op = .load t x) (g : Nat) (hx : a.eval x = .pointer (some ⟨g, 0, none⟩)) (cs : List Value) (hz : cs.length = n) (t0 : TypeId)
    (hw : Whole w g t0 cs) (h : wpList P ops Q rest (a.put o.dst (.agg cs.toArray)) w) : wpList P ops Q (o :: rest) a w := by
  obtain ⟨⟨d, hd, hm⟩, hs⟩ := ht
  exact wpList_load_row hgd t x ho g hx t0 cs.toArray (0, 0) d hw hd (by cases d <;> first | rfl | exact hm) (by rw [hs]; simp [hz]) h
theorem cells_loadW {t : TypeId} {n : Nat} (ht : FlatT P t n) (x : Operand) (hgd : Region.wanted o (yielded ops a.tmps) = true) (ho : o.op = .load t x) (g : Nat) (hx : a.eval x = .pointer (some ⟨g, 0, none⟩)) (cs : List Value) (hz : cs.length = n) (t0 : TypeId)
    (hw : Whole w g t0 cs) (h : wpList P ops Q rest (a.put o.dst (.agg cs.toArray)) w) : wpList P ops Q (o :: rest) a w := by
  obtain ⟨⟨d, hd, hm⟩, hs⟩ := ht
  exact wpList_wanted hgd fun _ hK => wp_load_row t x ho g hx t0 cs.toArray (0, 0) d hw hd (by cases d <;> first | rfl | exact hm) (by rw [hs]; simp [hz]) (hK _ _ h)
theorem cells_store {t : TypeId} {n : Nat} (ht : FlatT P t n) (x y : Operand) (hgd : o.guard = none) (ho : o.op = .store t x y) (g : Nat) (hx : a.eval x = .pointer (some ⟨g, 0, none⟩)) (cs : List Value) (hz : cs.length = n) (h1 : ∀ v ∈ cs, v.oneCell' = true) (hy : a.eval y = .agg cs.toArray) (t0 : TypeId)
    (old : List Value) (hw : Whole w g t0 old) (hold : old.length = n) (h : ∀ w', Whole w' g t0 cs → Only [g] w w' → wpList P ops Q rest (a.put o.dst undef) w') : wpList P ops Q (o :: rest) a w :=
  wpList_plain hgd fun K hK => wp_store_row t x y ho g cs.toArray hx hy t0 old.toArray hw (by rw [ht.2]; simp [hz]) (by simp [hz, hold]) (cells_one h1)
    (hK _ _ (h _ (setRow_heap w g _ _ _ _ hw) ⟨rfl, rfl, rfl, by simp, fun k _ hk => setRow_other w g k _ (by simpa using hk)⟩))
theorem cells_gives {t : TypeId} {n : Nat} (ht : FlatT P t n) {o : Oper} {a : Act} {w : World} (x : Operand) (ho : o.op = .load t x) (g : Nat) (hx : a.eval x = .pointer (some ⟨g, 0, none⟩)) (cs : List Value) (hz : cs.length = n) (t0 : TypeId)
    (hw : Whole w g t0 cs) : gives P o a w fun u _ => u = .agg cs.toArray := by
  obtain ⟨⟨d, hd', hm⟩, hs⟩ := ht
  have hr := run_loadVar_row (P := P) w g t0 t cs.toArray (0, 0) d hw hd' (by cases d <;> first | rfl | exact hm) (by rw [hs]; simp [hz])
  unfold gives execOp
  simp only [ho, hx, Instr.loadAt, Instr.sureAddr, Sem.run_bind, Sem.run_pure, Result.andThen_ok, hr]
  exact ⟨Behind.refl w, trivial⟩
theorem cells_end {t : TypeId} {n : Nat} (ht : FlatT P t n) {fn : Func} {p : Tmp} {R : Ending → World → Prop} (hr : fn.results = #[.cell p t]) (g : Nat) (hp : a.tmps.getD p undef = .pointer (some ⟨g, 0, none⟩)) (cs : List Value) (hz : cs.length = n) (t0 : TypeId)
    (hw : Whole w g t0 cs) (hd : a.defers = []) (hR : R (.returned (.agg cs.toArray)) w) : bodyPost P fn R .ret a w := by
  obtain ⟨⟨d, hd', hm⟩, hs⟩ := ht
  exact bodyPost_ret (v := .agg cs.toArray) (results_cell_row hr a.tmps w g t0 cs.toArray (0, 0) d hp hw hd' (by cases d <;> first | rfl | exact hm) (by rw [hs]; simp [hz])) hd hR
theorem cells_end2 {t : TypeId} {n : Nat} (ht : FlatT P t n) {fn : Func} {p u : Tmp} {R : Ending → World → Prop} (hr : fn.results = #[.cell p t, .tmp u]) (g : Nat) (hp : a.tmps.getD p undef = .pointer (some ⟨g, 0, none⟩)) (cs : List Value) (hz : cs.length = n) (t0 : TypeId)
    (hw : Whole w g t0 cs) (hd : a.defers = []) (hR : R (.returned (.tuple #[.agg cs.toArray, a.tmps.getD u undef])) w) : bodyPost P fn R .ret a w := by
  obtain ⟨⟨d, hd', hm⟩, hs⟩ := ht
  have h1 := run_loadVar_row (P := P) w g t0 t cs.toArray (0, 0) d hw hd' (by cases d <;> first | rfl | exact hm) (by rw [hs]; simp [hz])
  exact bodyPost_ret (v := .tuple #[.agg cs.toArray, a.tmps.getD u undef]) (by rw [results_cell_tmp hr, hp]; simp [asAddr, h1, Result.andThen]) hd hR
theorem cells_build (t : TypeId) (parts : Array (Nat × Operand)) (hgd : o.guard = none) (ho : o.op = .build t parts) (cs : List Value) (hf : P.built t (parts.map fun (i, x) => (i, a.eval x)).toList = some cs.toArray) (h : wpList P ops Q rest (a.put o.dst (.agg cs.toArray)) w) : wpList P ops Q (o :: rest) a w :=
  wpList_plain hgd fun K hK => wp_build t parts ho (by rw [hf]; rfl) (by rw [hf]; exact hK _ _ h)
theorem cells_buildW (t : TypeId) (parts : Array (Nat × Operand)) (hgd : Region.wanted o (yielded ops a.tmps) = true) (ho : o.op = .build t parts) (cs : List Value) (hf : P.built t (parts.map fun (i, x) => (i, a.eval x)).toList = some cs.toArray) (h : wpList P ops Q rest (a.put o.dst (.agg cs.toArray)) w) : wpList P ops Q (o :: rest) a w :=
  wpList_wanted hgd fun K hK => wp_build t parts ho (by rw [hf]; rfl) (by rw [hf]; exact hK _ _ h)
theorem built_gives {o : Oper} {a : Act} {w : World} (t : TypeId) (parts : Array (Nat × Operand)) (ho : o.op = .build t parts) (cells : Array Value) (hf : P.built t (parts.map fun (i, x) => (i, a.eval x)).toList = some cells) : gives P o a w fun u _ => u = .agg cells := by
  unfold gives execOp
  simp only [ho, Sem.run_bind, run_build w t _ cells hf, Result.andThen_ok, Sem.run_pure]
  exact ⟨Behind.refl w, trivial⟩
end
end Go.Proofs.Ythneapnijfmpmaa
