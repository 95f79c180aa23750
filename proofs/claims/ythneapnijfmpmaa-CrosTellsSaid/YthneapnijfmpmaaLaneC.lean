import Derived.Test.YthneapnijfmpmaaLaneW
/- Regions that draw: calls whose arguments are told, and whose answer is told or known. No program is named here. -/
namespace Go.Proofs.Ythneapnijfmpmaa
set_option linter.unusedVariables false
set_option linter.unusedSimpArgs false
open Go.RowKit

section
variable {P : Program} {ops : Array Oper} {w0 : World} {Fin : Env → Prop} {o : Oper} {r : List Oper} {a : Act} {F : List (Tmp × Told)} {d : Tmp}
theorem wanted_told {a' : Act} {w : World} (hw : Region.wanted o (yielded ops a.tmps) = true) (hg : clearB F (guardSlots ops o) = true) (hm : meets (envOf a F) (o.looksAt ops) a' w) : Region.wanted o (yielded ops a'.tmps) = true := by
  rw [same_wanted (a := a) fun s hs => ?_]
  · exact hw
  · have h1 := hm s (by
      unfold guardSlots at hs
      unfold Oper.looksAt
      exact List.mem_append_right _ hs)
    unfold envOf at h1
    rw [clear_spec hg hs] at h1
    exact h1
/-- What a slot is told to hold, at a frame that meets all that is told. -/
theorem told_at {a' : Act} {w : World} {t : Tmp} {f : FuncId} {xs : Array Operand} {ts : Array TypeId} (hop : o.op = .call { callee := .value (.func f), args := xs, argTypes := ts }) (hm : meets (envOf a F) (o.looksAt ops) a' w) (ht : Operand.tmp t ∈ xs) : envOf a F t (a'.tmps.getD t undef) w :=
  hm t (by
    unfold Oper.looksAt
    refine List.mem_append_left _ (List.mem_filterMap.2 ⟨.tmp t, ?_, rfl⟩)
    simp only [hop, Op.operands, Call.operands]
    simpa using ht)
theorem laneO_callT {f : FuncId} {fn : Func} {c : Code} {xs : Array Operand} {ts : Array TypeId} (T : Told) (hT : Steady T) (hop : o.op = .call { callee := .value (.func f), args := xs, argTypes := ts }) (ho : o.dst = some d)
    (hw : Region.wanted o (yielded ops a.tmps) = true) (hg : clearB F (guardSlots ops o) = true) (hf : P.funcs[f]? = some fn) (hname : (fn.name == "runtime.NumGoroutine") = false) (hb : fn.body = some c)
    (h : ∀ (a' : Act) (w : World), Behind w0 w → (∀ t, Operand.tmp t ∈ xs → envOf a F t (a'.tmps.getD t undef) w) → Calls P f (xs.map a'.eval) w fun e w' => ∃ v, e = .returned v ∧ Behind w w' ∧ T v w')
    (hr : laneO P ops w0 Fin r (envOf a ((d, T) :: F))) : laneO P ops w0 Fin (o :: r) (envOf a F) := by
  refine ⟨T, ⟨hT, fun a' w hb' hm => .inl (.inl ⟨wanted_told hw hg hm, ?_⟩)⟩, by rw [ho, upd_told]; exact hr⟩
  unfold gives
  rw [run_enter hop hf hname hb]
  exact ⟨Behind.refl w, h a' w hb' fun t ht => told_at hop hm ht⟩
theorem laneO_callV {f : FuncId} {fn : Func} {c : Code} {xs : Array Operand} {ts : Array TypeId} {v : Value} (hop : o.op = .call { callee := .value (.func f), args := xs, argTypes := ts }) (ho : o.dst = some d) (hd : d < a.tmps.size) (hF : F.lookup d = none)
    (hw : Region.wanted o (yielded ops a.tmps) = true) (hg : clearB F (guardSlots ops o) = true) (hf : P.funcs[f]? = some fn) (hname : (fn.name == "runtime.NumGoroutine") = false) (hb : fn.body = some c)
    (h : ∀ (a' : Act) (w : World), Behind w0 w → (∀ t, Operand.tmp t ∈ xs → envOf a F t (a'.tmps.getD t undef) w) → Calls P f (xs.map a'.eval) w fun e w' => e = .returned v ∧ Behind w w')
    (hr : laneO P ops w0 Fin r (envOf (a.put (some d) v) F)) : laneO P ops w0 Fin (o :: r) (envOf a F) := by
  refine laneO_use (by simp [notSelect, hop]) ho hd hF (fun a' w hb' hm => .inl ⟨wanted_told hw hg hm, ?_⟩) hr
  unfold gives
  rw [run_enter hop hf hname hb]
  exact ⟨Behind.refl w, (h a' w hb' fun t ht => told_at hop hm ht).mono fun e w' ⟨he, hb⟩ => ⟨v, he, hb, rfl⟩⟩
theorem gives_mono {P : Program} {o : Oper} {a : Act} {w : World} {T T' : Told} (h : gives P o a w T) (hT : ∀ v w', Behind w w' → T v w' → T' v w') : gives P o a w T' := by
  unfold gives at h ⊢
  split at h
  · exact ⟨h.1, hT _ _ h.1 h.2⟩
  · exact ⟨h.1, hT _ _ h.1 h.2⟩
  · obtain ⟨h1, h2⟩ := h
    exact ⟨h1, h2.mono fun e w'' ⟨v, he, hb, ht⟩ => ⟨v, he, hb, hT _ _ (Behind.trans h1 hb) ht⟩⟩
  · exact h.elim
/-- An operation on what is told, whose answer is told. -/
theorem laneO_gives (T : Told) (hT : Steady T) (ho : o.dst = some d) (hw : Region.wanted o (yielded ops a.tmps) = true) (hg : clearB F (guardSlots ops o) = true)
    (h : ∀ (a' : Act) (w : World), Behind w0 w → meets (envOf a F) (o.looksAt ops) a' w → gives P o a' w T) (hr : laneO P ops w0 Fin r (envOf a ((d, T) :: F))) : laneO P ops w0 Fin (o :: r) (envOf a F) := by
  refine ⟨T, ⟨hT, fun a' w hb' hm => .inl (.inl ⟨wanted_told hw hg hm, h a' w hb' hm⟩)⟩, by rw [ho, upd_told]; exact hr⟩
end
end Go.Proofs.Ythneapnijfmpmaa
