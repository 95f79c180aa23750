import Derived.Test.YtjhmdflagkenbaaOnly
import Derived.Test.YtjhmdflagkenbaaDeclNum
import Derived.Deep.Cut
import Derived.Deep.CutBlock
import Derived.Deep.DeepCutAuto
import Derived.Deep.CutRange
/- A style in memory: 43 cells, read and written whole. -/
namespace Go.Proofs.Ytjhmdflagkenbaa
open Go Go.RowKit
set_option linter.unusedVariables false
set_option linter.unusedSimpArgs false

theorem style_size : (Try.prog.info? 27).map (·.size) = some 43 := by kernel_rfl
theorem i64s_set (zs : List Int) (k : Nat) (n : Int) : i64s (zs.set k n) = (i64s zs).set k (.int .i64 n) := by simp [i64s, List.map_set]
/-- A style as a value. -/
def styV (zs : List Int) : Value := .agg (i64s zs).toArray
theorem i64s_get (zs : List Int) (i : Nat) (h : i < zs.length) : ∃ z, (i64s zs)[i]? = some (.int .i64 z) := ⟨zs[i], by simp [i64s, h]⟩

section
variable {ops : Array Oper} {rest : List Oper} {o : Oper} {a : Act} {w : World} {Q : Exit → Act → World → Prop}
theorem style_load (x : Operand) (hgd : o.guard = none) (ho : o.op = .load 27 x) (g : Nat) (hx : a.eval x = .pointer (some ⟨g, 0, none⟩)) (zs : List Int) (hz : zs.length = 43)
    (hw : Whole w g 27 (i64s zs)) (h : wpList Try.prog ops Q rest (a.put o.dst (.agg (i64s zs).toArray)) w) : wpList Try.prog ops Q (o :: rest) a w :=
  wpList_load_row hgd 27 x ho g hx 27 (i64s zs).toArray (0, 0) _ hw Try.underlying27 rfl (by rw [style_size]; simp [i64s_length, hz]) h
theorem style_store (x y : Operand) (hgd : o.guard = none) (ho : o.op = .store 27 x y) (g : Nat) (hx : a.eval x = .pointer (some ⟨g, 0, none⟩)) (zs : List Int) (hz : zs.length = 43) (hy : a.eval y = .agg (i64s zs).toArray)
    (old : List Int) (hw : Whole w g 27 (i64s old)) (hold : old.length = 43) (h : ∀ w', Whole w' g 27 (i64s zs) → Only [g] w w' → wpList Try.prog ops Q rest (a.put o.dst undef) w') : wpList Try.prog ops Q (o :: rest) a w :=
  wpList_plain hgd fun K hK => wp_store_row 27 x y ho g (i64s zs).toArray hx hy 27 (i64s old).toArray hw (by rw [style_size]; simp [i64s_length, hz]) (by simp [i64s_length, hz, hold])
    (Array.all_eq_true_iff_forall_mem.2 fun v hv => i64s_one zs v (by simpa using hv))
    (hK _ _ (h _ (setRow_heap w g _ _ _ _ hw) ⟨rfl, rfl, rfl, by simp, fun k _ hk => setRow_other w g k _ (by simpa using hk)⟩))
theorem style_end {fn : Func} {p : Tmp} {R : Ending → World → Prop} (hr : fn.results = #[.cell p 27]) (g : Nat) (hp : a.tmps.getD p undef = .pointer (some ⟨g, 0, none⟩)) (zs : List Int) (hz : zs.length = 43)
    (hw : Whole w g 27 (i64s zs)) (hd : a.defers = []) (hR : R (.returned (.agg (i64s zs).toArray)) w) : bodyPost Try.prog fn R .ret a w :=
  bodyPost_ret (v := .agg (i64s zs).toArray) (results_cell_row hr a.tmps w g 27 (i64s zs).toArray (0, 0) _ hp hw Try.underlying27 rfl (by rw [style_size]; simp [i64s_length, hz])) hd hR
end
def zeros43 : List Int := List.replicate 43 0
/-- A style's box, a declaration's, a result's. -/
def RelZ (W w : World) (zs : List Int) : Prop := Whole w W.heap.size 27 (i64s zs) ∧ Whole w (W.heap.size + 1 + 1) 27 (i64s zeros43) ∧ Below W.heap.size W w
theorem relZ_mk (W : World) (xs : List Value) (o : Obj) (zs : List Int) (h : i64s zs = xs) : RelZ W (((W.alloc (.cells xs.toArray 27)).alloc o).alloc (.cells #[.int .i64 0, .int .i64 0, .int .i64 0, .int .i64 0, .int .i64 0, .int .i64 0, .int .i64 0, .int .i64 0, .int .i64 0, .int .i64 0, .int .i64 0, .int .i64 0, .int .i64 0, .int .i64 0, .int .i64 0, .int .i64 0, .int .i64 0, .int .i64 0, .int .i64 0, .int .i64 0, .int .i64 0, .int .i64 0, .int .i64 0, .int .i64 0, .int .i64 0, .int .i64 0, .int .i64 0, .int .i64 0, .int .i64 0, .int .i64 0, .int .i64 0, .int .i64 0, .int .i64 0, .int .i64 0, .int .i64 0, .int .i64 0, .int .i64 0, .int .i64 0, .int .i64 0, .int .i64 0, .int .i64 0, .int .i64 0, .int .i64 0] 27)) zs := by
  subst h
  refine ⟨?_, ?_, (((Below.refl _ _).alloc (Nat.le_refl _) _).alloc (by simp) _).alloc (by simp; omega) _⟩
  · have h := Whole.mk W 27 (i64s zs).toArray
    simpa using (h.made o).made _
  · have h := Whole.mk ((W.alloc (.cells (i64s zs).toArray 27)).alloc o) 27 (i64s zeros43).toArray
    simp only [World.size_alloc] at h
    exact h
theorem gives_style {o : Oper} {a : Act} {w : World} (x : Operand) (ho : o.op = .load 27 x) (g : Nat) (hx : a.eval x = .pointer (some ⟨g, 0, none⟩)) (zs : List Int) (hz : zs.length = 43)
    (hw : Whole w g 27 (i64s zs)) : gives Try.prog o a w fun u _ => u = .agg (i64s zs).toArray := by
  have hr := run_loadVar_row (P := Try.prog) w g 27 27 (i64s zs).toArray (0, 0) _ hw Try.underlying27 rfl (by rw [style_size]; simp [i64s_length, hz])
  unfold gives execOp
  simp only [ho, hx, Instr.loadAt, Instr.sureAddr, Sem.run_bind, Sem.run_pure, Result.andThen_ok, hr]
  exact ⟨Behind.refl w, trivial⟩
/-- A row's k-th declaration, as the walk reads it. -/
theorem Row.dec {w : World} {B : Nat} {A : Option Addr} {ds : List Dc} (h : Row w B A (i64s (dCells ds))) {k : Nat} (hk : k < ds.length) :
    ∃ ad, A = some ad ∧ ad.block < B ∧ w.cell? (ad.add (k * 4)) = some (.int .i64 ds[k].p) ∧ w.cell? ⟨(ad.add (k * 4)).block, (ad.add (k * 4)).off + 1, none⟩ = some (.int .i64 ds[k].w) ∧
      w.cell? ⟨(ad.add (k * 4)).block, (ad.add (k * 4)).off + 2, none⟩ = some (.int .i64 ds[k].k) ∧ w.cell? ⟨(ad.add (k * 4)).block, (ad.add (k * 4)).off + 3, none⟩ = some (.int .i64 ds[k].n) := by
  have hl := dCells_length ds
  have hl' := i64s_length (dCells ds)
  obtain ⟨ad, e, hb, hc⟩ := h (by omega)
  obtain ⟨g0, g1, g2, g3⟩ := dCells_get ds k hk
  have at_ : ∀ j, j < 4 → ∀ z, (dCells ds)[k * 4 + j]? = some z → w.cell? (ad.add (k * 4 + j)) = some (.int .i64 z) := fun j hj z hz => by
    have h1 : k * 4 + j < (i64s (dCells ds)).length := by omega
    rw [hc _ h1]
    have h2 : k * 4 + j < (dCells ds).length := by omega
    rw [List.getElem?_eq_getElem h2] at hz
    injection hz with hz
    simp [i64s, hz]
  have far : ∀ j, 0 < j → (⟨(ad.add (k * 4)).block, (ad.add (k * 4)).off + j, none⟩ : Addr) = ad.add (k * 4 + j) := fun j hj => by
    have : (ad.add (k * 4)).add j = ad.add (k * 4 + j) := add_of_add _ _ _
    rw [← this]
    generalize ad.add (k * 4) = b
    unfold Addr.add
    rw [if_neg (by omega)]
  refine ⟨ad, e, hb, at_ 0 (by omega) _ g0, ?_, ?_, ?_⟩
  · rw [far 1 (by omega)]; exact at_ 1 (by omega) _ g1
  · rw [far 2 (by omega)]; exact at_ 2 (by omega) _ g2
  · rw [far 3 (by omega)]; exact at_ 3 (by omega) _ g3
end Go.Proofs.Ytjhmdflagkenbaa
