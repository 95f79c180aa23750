import Derived.Test.YthneapnijfmpmaaOnly
import Derived.Deep.Cut
import Derived.Deep.CutBlock
import Derived.Deep.DeepCutAuto
import Derived.Deep.CutRange
/- A block of integers of any type, read and written whole. No program is named here. -/
namespace Go.Proofs.Ythneapnijfmpmaa
open Go Go.RowKit
set_option linter.unusedVariables false
set_option linter.unusedSimpArgs false

theorem flat_set (zs : List Int) (k : Nat) (n : Int) : (i64s zs).set k (.int .i64 n) = i64s (zs.set k n) := by simp [i64s, List.map_set]
theorem flat_one (zs : List Int) : (i64s zs).toArray.all (·.oneCell') = true :=
  Array.all_eq_true_iff_forall_mem.2 fun v hv => by
    have hv' : v ∈ i64s zs := by simpa using hv
    obtain ⟨z, _, rfl⟩ := List.mem_map.1 hv'
    rfl
section
variable {P : Program} {ops : Array Oper} {rest : List Oper} {o : Oper} {a : Act} {w : World} {Q : Exit → Act → World → Prop}
/-- Type t is a struct, or an array, of n cells. -/
def FlatT (P : Program) (t : TypeId) (n : Nat) : Prop := (∃ d, P.underlying t = some d ∧ (match d with | .struct _ | .array _ _ => true | _ => false) = true) ∧ (P.info? t).map (·.size) = some n
theorem flat_load {t : TypeId} {n : Nat} (ht : FlatT P t n) (x : Operand) (hgd : o.guard = none) (ho : o.op = .load t x) (g : Nat) (hx : a.eval x = .pointer (some ⟨g, 0, none⟩)) (zs : List Int) (hz : zs.length = n) (t0 : TypeId)
    (hw : Whole w g t0 (i64s zs)) (h : wpList P ops Q rest (a.put o.dst (.agg (i64s zs).toArray)) w) : wpList P ops Q (o :: rest) a w := by
  obtain ⟨⟨d, hd, hm⟩, hs⟩ := ht
  exact wpList_load_row hgd t x ho g hx t0 (i64s zs).toArray (0, 0) d hw hd (by cases d <;> first | rfl | exact hm) (by rw [hs]; simp [i64s_length, hz]) h
/-- .. of an operation that a guard has let through. -/
theorem flat_loadW {t : TypeId} {n : Nat} (ht : FlatT P t n) (x : Operand) (hgd : Region.wanted o (yielded ops a.tmps) = true) (ho : o.op = .load t x) (g : Nat) (hx : a.eval x = .pointer (some ⟨g, 0, none⟩)) (zs : List Int) (hz : zs.length = n) (t0 : TypeId)
    (hw : Whole w g t0 (i64s zs)) (h : wpList P ops Q rest (a.put o.dst (.agg (i64s zs).toArray)) w) : wpList P ops Q (o :: rest) a w := by
  obtain ⟨⟨d, hd, hm⟩, hs⟩ := ht
  exact wpList_wanted hgd fun _ hK => wp_load_row t x ho g hx t0 (i64s zs).toArray (0, 0) d hw hd (by cases d <;> first | rfl | exact hm) (by rw [hs]; simp [i64s_length, hz]) (hK _ _ h)
theorem flat_store {t : TypeId} {n : Nat} (ht : FlatT P t n) (x y : Operand) (hgd : o.guard = none) (ho : o.op = .store t x y) (g : Nat) (hx : a.eval x = .pointer (some ⟨g, 0, none⟩)) (zs : List Int) (hz : zs.length = n) (hy : a.eval y = .agg (i64s zs).toArray) (t0 : TypeId)
    (old : List Int) (hw : Whole w g t0 (i64s old)) (hold : old.length = n) (h : ∀ w', Whole w' g t0 (i64s zs) → Only [g] w w' → wpList P ops Q rest (a.put o.dst undef) w') : wpList P ops Q (o :: rest) a w :=
  wpList_plain hgd fun K hK => wp_store_row t x y ho g (i64s zs).toArray hx hy t0 (i64s old).toArray hw (by rw [ht.2]; simp [i64s_length, hz]) (by simp [i64s_length, hz, hold]) (flat_one zs)
    (hK _ _ (h _ (setRow_heap w g _ _ _ _ hw) ⟨rfl, rfl, rfl, by simp, fun k _ hk => setRow_other w g k _ (by simpa using hk)⟩))
theorem flat_end {t : TypeId} {n : Nat} (ht : FlatT P t n) {fn : Func} {p : Tmp} {R : Ending → World → Prop} (hr : fn.results = #[.cell p t]) (g : Nat) (hp : a.tmps.getD p undef = .pointer (some ⟨g, 0, none⟩)) (zs : List Int) (hz : zs.length = n) (t0 : TypeId)
    (hw : Whole w g t0 (i64s zs)) (hd : a.defers = []) (hR : R (.returned (.agg (i64s zs).toArray)) w) : bodyPost P fn R .ret a w := by
  obtain ⟨⟨d, hd', hm⟩, hs⟩ := ht
  exact bodyPost_ret (v := .agg (i64s zs).toArray) (results_cell_row hr a.tmps w g t0 (i64s zs).toArray (0, 0) d hp hw hd' (by cases d <;> first | rfl | exact hm) (by rw [hs]; simp [i64s_length, hz])) hd hR
theorem flat_gives {t : TypeId} {n : Nat} (ht : FlatT P t n) {o : Oper} {a : Act} {w : World} (x : Operand) (ho : o.op = .load t x) (g : Nat) (hx : a.eval x = .pointer (some ⟨g, 0, none⟩)) (zs : List Int) (hz : zs.length = n) (t0 : TypeId)
    (hw : Whole w g t0 (i64s zs)) : gives P o a w fun u _ => u = .agg (i64s zs).toArray := by
  obtain ⟨⟨d, hd', hm⟩, hs⟩ := ht
  have hr := run_loadVar_row (P := P) w g t0 t (i64s zs).toArray (0, 0) d hw hd' (by cases d <;> first | rfl | exact hm) (by rw [hs]; simp [i64s_length, hz])
  unfold gives execOp
  simp only [ho, hx, Instr.loadAt, Instr.sureAddr, Sem.run_bind, Sem.run_pure, Result.andThen_ok, hr]
  exact ⟨Behind.refl w, trivial⟩
end
/-- A text's length, in a region that draws its order. -/
theorem gives_len {P : Program} {o : Oper} {a : Act} {w : World} (x : Operand) (t : TypeId) (ho : o.op = .call { callee := .builtin .len, args := #[x], argTypes := #[t] }) (ht : P.underlying t = some .string) (s : ByteArray) (hx : a.eval x = .string s) :
    gives P o a w fun u _ => u = .int .i64 s.size := by
  have h := run_len_string (P := P) w t o.type s ht
  unfold gives execOp
  simp only [ho, resolve, invoke, builtin, Sem.run_bind, Sem.run_pure, Result.andThen_ok, List.map_toArray, List.map_cons, List.map_nil, hx, h]
  exact ⟨Behind.refl w, rfl⟩
/-- 'a[i]' of an array of integers, by value. -/
theorem run_index_ints {P : Program} {t e : TypeId} {n : Nat} {k : IntKind} (h : P.underlying t = some (.array n e)) (he : P.underlying e = some (.int .i64)) (hs : (P.info? e).map (·.size) = some 1) (zs : List Int) (hz : zs.length = n) (i : Nat) (hi : i < n) (w : World) :
    (Instr.index t (.agg (i64s zs).toArray) (.int k i)).run P w = .ok (.int .i64 (zs.getD i 0)) w := by
  have h1 : (0 : Int) ≤ i ∧ (i : Int) < n := by omega
  have hg : (i64s zs)[i]? = some (.int .i64 (zs.getD i 0)) := by simp [i64s, List.getD, List.getElem?_eq_getElem (show i < zs.length by omega)]
  have hsz : (sizeOf e).run P w = .ok 1 w := by
    cases hq : P.info? e with
    | none => simp [hq] at hs
    | some j =>
      have : j.size = 1 := by simpa [hq] using hs
      simp [sizeOf, typeInfo, hq, this, go_sem]
  simp [Instr.index, run_underlying h, asIntOf, h1, hsz, part, isAgg, run_underlying he, hg, hi, go_sem]
section
variable {w w' : World} {g : Nat} {t : TypeId} {zs : List Int}
theorem Whole.num (h : Whole w g t (i64s zs)) (i : Nat) (hi : i < zs.length) : w.cell? ⟨g, i, none⟩ = some (.int .i64 (zs.getD i 0)) := by
  rw [h.cell i]
  simp [i64s, List.getD, List.getElem?_eq_getElem hi]
theorem Whole.putNum (h : Whole w g t (i64s zs)) (i : Nat) (n : Int) : Whole (w.setCell ⟨g, i, none⟩ (.int .i64 n)) g t (i64s (zs.set i n)) := by
  rw [← flat_set]; exact h.put i _
end
end Go.Proofs.Ythneapnijfmpmaa
