import Derived.Test.YtpnpmellohacoaaDoorCodeE
import Derived.LaidLaws
import Derived.LaidHandle
/- errors.As at *api.Errno; api.Code. -/
namespace Go.Proofs.YtpnpmellohacoaaDoor
open Go.RowKit Go.Extern.Stop Go.Stop Go.Extern
set_option linter.unusedVariables false
set_option linter.unusedSimpArgs false
set_option maxHeartbeats 4000000 in
theorem as_gen (ty : TypeId) (x : Value) (n : Int) (t : Addr) (w : World) (hg : w.cell? ⟨0, 0, none⟩ = some (.iface 82 (.agg #[.pointer (some ⟨1, 29, none⟩)])))
    (inner : Calls Tryd.prog 26 #[.iface ty x, .iface 57 (.pointer (some t)), .agg #[.pointer (some ⟨1, 57, none⟩), .pointer (some ⟨w.heap.size, 0, none⟩), .int .u64 150], .iface 82 (.agg #[.pointer (some ⟨1, 34, none⟩)])] ((w.alloc (.cells #[.pointer (some t)] 57)).alloc (.cells #[.pointer (some ⟨1, 57, none⟩), .pointer (some ⟨w.heap.size, 0, none⟩), .int .u64 150] 68))
      fun ev w' => ev = .returned (.bool true) ∧ Below ((w.alloc (.cells #[.pointer (some t)] 57)).alloc (.cells #[.pointer (some ⟨1, 57, none⟩), .pointer (some ⟨w.heap.size, 0, none⟩), .int .u64 150] 68)).heap.size (((w.alloc (.cells #[.pointer (some t)] 57)).alloc (.cells #[.pointer (some ⟨1, 57, none⟩), .pointer (some ⟨w.heap.size, 0, none⟩), .int .u64 150] 68)).setCell t (.int .i64 n)) w') :
    Calls Tryd.prog 20 #[.iface ty x, .iface 57 (.pointer (some t))] w fun ev w' => ev = .returned (.bool true) ∧ Below w.heap.size (w.setCell t (.int .i64 n)) w' := by
  have hVO := @run_callFunc_extern Tryd.prog 23 _ (fun args => ReflectliteValue.unpack (args.getD 0 (.tuple #[]))) Tryd.func23 (by kernel_rfl) (by kernel_rfl) (by kernel_rfl) (by kernel_rfl)
  have hTY := @run_callFunc_extern Tryd.prog 24 _ (ReflectliteValue.methodAny (ReflectliteValue.valueError "reflectlite.Value.Type" 0) (fun t _ _ _ => ReflectliteType.toType t)) Tryd.func24 (by kernel_rfl) (by kernel_rfl) (by kernel_rfl) (by kernel_rfl)
  have hIN := @run_callFunc_extern Tryd.prog 25 _ (ReflectliteValue.method (ReflectliteValue.valueError "reflectlite.Value.IsNil" 0) ReflectliteValue.isNil) Tryd.func25 (by kernel_rfl) (by kernel_rfl) (by kernel_rfl) (by kernel_rfl)
  have hKI := @run_callFunc_extern Tryd.prog 45 _ (ReflectliteType.abiMethod fun t => do pure (.int .u8 (← Rtype.kind t))) Tryd.func45 (by kernel_rfl) (by kernel_rfl) (by kernel_rfl) (by kernel_rfl)
  have hEL := @run_callFunc_extern Tryd.prog 62 _ (ReflectliteType.method ReflectliteType.elem) Tryd.func62 (by kernel_rfl) (by kernel_rfl) (by kernel_rfl) (by kernel_rfl)
  have hIM := @run_callFunc_extern Tryd.prog 63 _ (ReflectliteType.relation "Implements" ReflectliteType.implements_) Tryd.func63 (by kernel_rfl) (by kernel_rfl) (by kernel_rfl) (by kernel_rfl)
  have mK := methodKind
  have mE := methodElem
  have mI := methodImplements
  have eT := elemT
  have iE := implementsE
  have vT := valueOfT
  have tT := typeT
  have kT := kindT
  have kE := kindE
  have nT := isNilT ⟨w.heap.size, 0, none⟩ t ((w.alloc (.cells #[.pointer (some t)] 57)).alloc (.cells #[.pointer (some ⟨1, 57, none⟩), .pointer (some ⟨w.heap.size, 0, none⟩), .int .u64 150] 68)) (by simp)
  have hlt : 0 < w.heap.size := by
    rcases Nat.lt_or_ge 0 w.heap.size with h | h
    · exact h
    · simp [World.cell?, Array.getElem?_eq_none h] at hg
  have hg2 : ((w.alloc (.cells #[.pointer (some t)] 57)).alloc (.cells #[.pointer (some ⟨1, 57, none⟩), .pointer (some ⟨w.heap.size, 0, none⟩), .int .u64 150] 68)).cell? ⟨0, 0, none⟩ = some (.iface 82 (.agg #[.pointer (some ⟨1, 29, none⟩)])) := by
    rw [World.cell?_alloc_lt _ _ ⟨0, 0, none⟩ (by simp), World.cell?_alloc_lt _ _ ⟨0, 0, none⟩ hlt]; exact hg
  have innerH := Lib.hid inner
  clear inner
  go_enter Tryd.func20, Tryd.ntmps20
  go_wp2_with fail
  refine innerH.out.mono ?_
  rintro e w' ⟨rfl, hb⟩
  go_wp2
  go_ret
  exact ⟨rfl, (below_setBoth (Below.alloc (Below.alloc (Below.refl _ _) (Nat.le_refl _) _) (by simp) _) t _).trans (hb.mono (by simp; omega))⟩
theorem code_nil (w : World) : Calls Tryd.prog 9 #[.nilIface] w fun ev w' => ev = .returned (.int .i64 0) ∧ w' = w := by
  go_enter Tryd.func9, Tryd.ntmps9
  go_wp2
  go_ret
  exact ⟨rfl, rfl⟩
set_option maxHeartbeats 4000000 in
theorem code_gen (ty : TypeId) (x : Value) (n : Int) (w : World)
    (inner : Calls Tryd.prog 20 #[.iface ty x, .iface 57 (.pointer (some ⟨w.heap.size, 0, none⟩))] (w.alloc (.cells #[.int .i64 0] 34))
      fun ev w' => ev = .returned (.bool true) ∧ Below (w.alloc (.cells #[.int .i64 0] 34)).heap.size ((w.alloc (.cells #[.int .i64 0] 34)).setCell ⟨w.heap.size, 0, none⟩ (.int .i64 n)) w') :
    Calls Tryd.prog 9 #[.iface ty x] w fun ev w' => ev = .returned (.int .i64 n) ∧ Below w.heap.size w w' := by
  have innerH := Lib.hid inner
  clear inner
  go_enter Tryd.func9, Tryd.ntmps9
  go_wp2_with fail
  refine innerH.out.mono ?_
  rintro e w' ⟨rfl, hb⟩
  have hc : w'.cell? ⟨w.heap.size, 0, none⟩ = some (.int .i64 n) := (hb.cell (by simp)).trans (World.cell?_setCell_same _ ⟨w.heap.size, 0, none⟩ _ (u := .int .i64 0) (by rw [World.cell?_alloc_at _ _ _ _ rfl]; rfl))
  have hb2 : Below w.heap.size w w' := (((Below.refl _ _).alloc (Nat.le_refl _) _).setCell (p := ⟨w.heap.size, 0, none⟩) (Nat.le_refl _) _).trans (hb.mono (by simp))
  go_wp2
  go_ret
  exact ⟨rfl, hb2⟩
/-- The table's word: the variable errors.errorType as start-up leaves it. -/
def ErrTab (w : World) : Prop := w.cell? ⟨0, 0, none⟩ = some (.iface 82 (.agg #[.pointer (some ⟨1, 29, none⟩)]))
theorem errTab_of_laid {l : List (String × DataW Unit)} {W : World} (hl : (l.filter fun x => x.2.handleName?.isSome).map (fun x => (x.1, x.2.handleName?, x.2.funcsIn?.isNone)) = [("errors.errorType", some [101, 114, 114, 111, 114], true)])
    (h : laidMetH Tryd.prog l W) : ErrTab W := by
  unfold laidMetH at h
  generalize hfl : (l.filter fun x => x.2.handleName?.isSome) = fl at h hl
  match fl, hl, h with
  | [x], hl, h =>
    simp only [List.map_cons, List.map_nil, List.cons.injEq, Prod.mk.injEq, and_true] at hl
    obtain ⟨hx1, hx2, hx3⟩ := hl
    have h2 := h.2 x (List.mem_singleton.2 rfl)
    rw [Option.isNone_iff_eq_none.1 hx3] at h2
    obtain ⟨name, u, ty, e1, e2, e3, e4, e5⟩ := h2
    rw [hx1] at e5
    have en : name = [101, 114, 114, 111, 114] := (Option.some.inj (e1.symm.trans hx2))
    subst en
    have rt : (Tryd.prog.cutTypes.find? (·.1 == "internal/reflectlite.rtype")).map (·.2) = some 82 := by kernel_rfl
    obtain rfl := Option.some.inj (rt.symm.trans e2)
    have oneRow : ((List.range Tryd.prog.types.size).filter fun t => Tryd.prog.rowNamed t [101, 114, 114, 111, 114]) = [29] := by kernel_rfl
    have hm : ty ∈ (List.range Tryd.prog.types.size).filter fun t => Tryd.prog.rowNamed t [101, 114, 114, 111, 114] := List.mem_filter.2 ⟨List.mem_range.2 e3, e4⟩
    rw [oneRow] at hm
    obtain rfl := List.mem_singleton.1 hm
    have hh : typeHandle Tryd.prog 29 = .pointer (some ⟨1, 29, none⟩) := by kernel_rfl
    rw [hh] at e5
    have et : Tryd.prog.globalNamed "errors.errorType" = some 0 := by kernel_rfl
    have := World.var?_cell et e5 0
    simpa [ErrTab] using this
  | [], hl, _ => simp at hl
  | _ :: _ :: _, hl, _ => simp at hl
theorem ErrTab.below {B : Nat} {w w' : World} (h : ErrTab w) (hb : Below B w w') (hB : 0 < B) : ErrTab w' := (hb.cell (p := ⟨0, 0, none⟩) hB).trans h
theorem ErrTab.lt {w : World} (h : ErrTab w) : 0 < w.heap.size := World.block_lt_of_cell? w _ h
theorem ErrTab.alloc {w : World} (h : ErrTab w) (o : Obj) : ErrTab (w.alloc o) := (World.cell?_alloc_lt w o ⟨0, 0, none⟩ h.lt).trans h
theorem ErrTab.drewN {w : World} (h : ErrTab w) (n : Nat) : ErrTab (w.drewN n) := h
theorem code_errno (n : Int) (w : World) (hg : ErrTab w) :
    Calls Tryd.prog 9 #[.iface 34 (.int .i64 n)] w fun ev w' => ev = .returned (.int .i64 n) ∧ Below w.heap.size w w' := by
  refine code_gen _ _ n w (as_gen _ _ n _ _ (hg.alloc _) (as1 n _ _ (.int .i64 0) _ ?_ ?_ ?_))
  · rw [World.cell?_alloc_lt _ _ _ (by simp), World.cell?_alloc_at _ _ _ _ rfl]; rfl
  · rw [World.cell?_alloc_lt _ _ _ (by simp; omega), World.cell?_alloc_lt _ _ _ (by simp), World.cell?_alloc_at _ _ _ _ rfl]; rfl
  · rw [World.frozen?_alloc_old _ _ _ (by simp; omega), World.frozen?_alloc_old _ _ _ (by simp), World.frozen?_alloc_at _ _ _ _ rfl]
end Go.Proofs.YtpnpmellohacoaaDoor
