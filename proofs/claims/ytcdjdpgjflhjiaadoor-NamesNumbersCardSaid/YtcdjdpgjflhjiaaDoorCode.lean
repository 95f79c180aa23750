import Derived.Test.YtcdjdpgjflhjiaaDoorAs
import Derived.Below
/- api.Code by its contracts. -/
namespace Go.Proofs.YtcdjdpgjflhjiaaDoor
open Go.RowKit Go.Extern.Stop Go.Stop Go.Extern
set_option linter.unusedVariables false
set_option linter.unusedSimpArgs false

theorem methodKind (h : Value) (w : World) : (Go.method 211 52 (.agg #[h]) "Kind").run Tryd.prog w = .ok (43, h) w := by kernel_rfl
theorem methodElem (h : Value) (w : World) : (Go.method 211 52 (.agg #[h]) "Elem").run Tryd.prog w = .ok (54, .agg #[h]) w := by kernel_rfl
theorem methodImplements (h : Value) (w : World) : (Go.method 211 52 (.agg #[h]) "Implements").run Tryd.prog w = .ok (55, .agg #[h]) w := by kernel_rfl
theorem methodAssignableTo (h : Value) (w : World) : (Go.method 211 52 (.agg #[h]) "AssignableTo").run Tryd.prog w = .ok (52, .agg #[h]) w := by kernel_rfl
theorem methodUnwrap (h : Value) (w : World) : (Go.method 211 29 h "Unwrap").run Tryd.prog w = .ok (47, h) w := by kernel_rfl
theorem below_setBoth {B : Nat} {w w' : World} (h : Below B w w') (t : Addr) (u : Value) : Below B (w.setCell t u) (w'.setCell t u) := by
  refine ⟨h.os, h.tape, h.output, by simpa [World.setCell] using h.size, fun k hk => ?_⟩
  have := h.block k hk
  simp only [World.setCell, Array.getElem?_modify] at this ⊢
  rw [this]
/-- The inner loop at an Errno: set. -/
theorem as1 (n : Int) (t h0 : Addr) (old : Value) (w : World) (hv : w.cell? h0 = some (.pointer (some t))) (ht0 : w.cell? t = some old) (hf0 : w.frozen? t = false) :
    Calls Tryd.prog 13 #[.iface 26 (.int .i64 n), .iface 37 (.pointer (some t)), .agg #[.pointer (some ⟨4, 37, none⟩), .pointer (some h0), .int .u64 150], .iface 52 (.agg #[.pointer (some ⟨4, 26, none⟩)])] w
      fun ev w' => ev = .returned (.bool true) ∧ Below w.heap.size (w.setCell t (.int .i64 n)) w' := by
  have hVO := @run_callFunc_extern Tryd.prog 10 _ (fun args => ReflectliteValue.unpack (args.getD 0 (.tuple #[]))) Tryd.func10 (by kernel_rfl) (by kernel_rfl) (by kernel_rfl) (by kernel_rfl)
  have hTO := @run_callFunc_extern Tryd.prog 15 _ ReflectliteType.typeOf Tryd.func15 (by kernel_rfl) (by kernel_rfl) (by kernel_rfl) (by kernel_rfl)
  have hAT := @run_callFunc_extern Tryd.prog 52 _ (ReflectliteType.relation "AssignableTo" ReflectliteType.assignableTo) Tryd.func52 (by kernel_rfl) (by kernel_rfl) (by kernel_rfl) (by kernel_rfl)
  have hVE := @run_callFunc_extern Tryd.prog 16 _ (ReflectliteValue.method (ReflectliteValue.valueError "reflectlite.Value.Elem" 0) ReflectliteValue.elem) Tryd.func16 (by kernel_rfl) (by kernel_rfl) (by kernel_rfl) (by kernel_rfl)
  have hSE := @run_callFunc_extern Tryd.prog 17 _ ReflectliteValue.set Tryd.func17 (by kernel_rfl) (by kernel_rfl) (by kernel_rfl) (by kernel_rfl)
  have tO := typeOfE
  have mA := methodAssignableTo
  have aE := assignE
  have vE := valueOfE
  have hh : h0.block < w.heap.size := World.block_lt_of_cell? w _ hv
  have ht : t.block < w.heap.size := World.block_lt_of_cell? w _ ht0
  have el := elemVT h0 t (w.alloc (.cells #[.pointer (some ⟨4, 37, none⟩), .pointer (some h0), .int .u64 150] 41)) (by rw [World.cell?_alloc_lt _ _ h0 hh]; exact hv)
  have st := setE t ⟨w.heap.size + 1, 0, none⟩ n old ((w.alloc (.cells #[.pointer (some ⟨4, 37, none⟩), .pointer (some h0), .int .u64 150] 41)).alloc (.cells #[.int .i64 n] 26))
    (by rw [World.cell?_alloc_at _ _ _ _ (by simp)]; rfl)
    (by rw [World.cell?_alloc_lt _ _ t (by simp; omega), World.cell?_alloc_lt _ _ t ht]; exact ht0)
    (by rw [World.frozen?_alloc_old _ _ t (by simp; omega), World.frozen?_alloc_old _ _ t (Nat.ne_of_lt ht)]; exact hf0)
  go_enter Tryd.func13, Tryd.ntmps13
  go_wp2
  refine wp_loop_rounds 1 ?_
  rw [rounds_succ]
  go_wp2
  go_ret
  exact ⟨rfl, below_setBoth (Below.alloc (Below.alloc (Below.refl _ _) (Nat.le_refl _) _) (by simp) _) _ _⟩
theorem asText : Tryd.prog.underlying 57 = some (.interface #[("As", 59)]) := by kernel_rfl
theorem unwText : Tryd.prog.underlying 60 = some (.interface #[("Unwrap", 61)]) := by kernel_rfl
theorem noAsF (v : Value) (xT : TypeId) (w : World) : (Instr.typeAssert (.iface 29 v) xT 57 true).run Tryd.prog w = .ok (.tuple #[.nilIface, .bool false]) w :=
  run_typeAssert_lacksB asText (by kernel_rfl) (by kernel_rfl) v xT w
theorem hasUnwF (v : Value) (xT : TypeId) (w : World) : (Instr.typeAssert (.iface 29 v) xT 60 true).run Tryd.prog w = .ok (.tuple #[.iface 29 v, .bool true]) w :=
  run_typeAssert_hasB unwText (by kernel_rfl) v xT w
theorem unwrap_any (f : Addr) (v : Value) (w : World) (hv : w.cell? { block := f.block, off := f.off + 1 } = some v) :
    Calls Tryd.prog 47 #[.pointer (some f)] w fun ev w' => ev = .returned v ∧ w' = w := by
  go_enter Tryd.func47, Tryd.ntmps47
  go_wp2
  go_ret
  exact ⟨rfl, rfl⟩
set_option maxHeartbeats 4000000 in
/-- The inner loop at a Fault that holds an Errno: its error is taken out, then set. -/
theorem as2 (n : Int) (f t h0 : Addr) (old : Value) (w : World) (hv : w.cell? h0 = some (.pointer (some t))) (ht0 : w.cell? t = some old) (hf0 : w.frozen? t = false)
    (hu : w.cell? { block := f.block, off := f.off + 1 } = some (.iface 26 (.int .i64 n))) :
    Calls Tryd.prog 13 #[.iface 29 (.pointer (some f)), .iface 37 (.pointer (some t)), .agg #[.pointer (some ⟨4, 37, none⟩), .pointer (some h0), .int .u64 150], .iface 52 (.agg #[.pointer (some ⟨4, 26, none⟩)])] w
      fun ev w' => ev = .returned (.bool true) ∧ Below w.heap.size (w.setCell t (.int .i64 n)) w' := by
  have hVO := @run_callFunc_extern Tryd.prog 10 _ (fun args => ReflectliteValue.unpack (args.getD 0 (.tuple #[]))) Tryd.func10 (by kernel_rfl) (by kernel_rfl) (by kernel_rfl) (by kernel_rfl)
  have hTO := @run_callFunc_extern Tryd.prog 15 _ ReflectliteType.typeOf Tryd.func15 (by kernel_rfl) (by kernel_rfl) (by kernel_rfl) (by kernel_rfl)
  have hAT := @run_callFunc_extern Tryd.prog 52 _ (ReflectliteType.relation "AssignableTo" ReflectliteType.assignableTo) Tryd.func52 (by kernel_rfl) (by kernel_rfl) (by kernel_rfl) (by kernel_rfl)
  have hVE := @run_callFunc_extern Tryd.prog 16 _ (ReflectliteValue.method (ReflectliteValue.valueError "reflectlite.Value.Elem" 0) ReflectliteValue.elem) Tryd.func16 (by kernel_rfl) (by kernel_rfl) (by kernel_rfl) (by kernel_rfl)
  have hSE := @run_callFunc_extern Tryd.prog 17 _ ReflectliteValue.set Tryd.func17 (by kernel_rfl) (by kernel_rfl) (by kernel_rfl) (by kernel_rfl)
  have tO := typeOfE
  have tF := typeOfF
  have mA := methodAssignableTo
  have mU := methodUnwrap
  have aE := assignE
  have aF := assignF
  have nA := noAsF
  have uF := hasUnwF
  have vE := valueOfE
  have hh : h0.block < w.heap.size := World.block_lt_of_cell? w _ hv
  have ht : t.block < w.heap.size := World.block_lt_of_cell? w _ ht0
  have el := elemVT h0 t (w.alloc (.cells #[.pointer (some ⟨4, 37, none⟩), .pointer (some h0), .int .u64 150] 41)) (by rw [World.cell?_alloc_lt _ _ h0 hh]; exact hv)
  have st := setE t ⟨w.heap.size + 1, 0, none⟩ n old ((w.alloc (.cells #[.pointer (some ⟨4, 37, none⟩), .pointer (some h0), .int .u64 150] 41)).alloc (.cells #[.int .i64 n] 26))
    (by rw [World.cell?_alloc_at _ _ _ _ (by simp)]; rfl)
    (by rw [World.cell?_alloc_lt _ _ t (by simp; omega), World.cell?_alloc_lt _ _ t ht]; exact ht0)
    (by rw [World.frozen?_alloc_old _ _ t (by simp; omega), World.frozen?_alloc_old _ _ t (Nat.ne_of_lt ht)]; exact hf0)
  have hu1 : ∀ o, (w.alloc o).cell? { block := f.block, off := f.off + 1 } = some (.iface 26 (.int .i64 n)) := fun o => by
    rw [World.cell?_alloc_lt _ _ _ (World.block_lt_of_cell? w _ hu)]; exact hu
  go_enter Tryd.func13, Tryd.ntmps13
  go_wp2
  refine wp_loop_rounds 2 ?_
  rw [rounds_succ]
  go_wp2_with (go_at_call 47; refine (unwrap_any _ _ _ (hu1 _)).mono ?_; rintro e w' ⟨rfl, rfl⟩)
  rw [rounds_succ]
  go_wp2
  go_ret
  exact ⟨rfl, below_setBoth (Below.alloc (Below.alloc (Below.refl _ _) (Nat.le_refl _) _) (by simp) _) _ _⟩
end Go.Proofs.YtcdjdpgjflhjiaaDoor
