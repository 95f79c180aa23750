import Derived.Test.YtmlnpphblicghaaLaneW
import Derived.Laws.Entries
import Derived.Laws.Rows
/- Regions that draw: an element of a literal made there ('[]T{..}[k]'): its address, its value. No program is named here. -/
namespace Go.Proofs.Ytmlnpphblicghaa
set_option linter.unusedVariables false
set_option linter.unusedSimpArgs false
open Go.RowKit

def itemT (e : TypeId) (cs : List Value) (k : Nat) : Told := fun v w => ∃ g, v = .pointer (some ⟨g, k, none⟩) ∧ w.heap[g]? = some (.cells cs.toArray e (0, 0))
theorem itemT_steady (e : TypeId) (cs : List Value) (k : Nat) : Steady (itemT e cs k) := fun v w w' hb ⟨g, h1, h2⟩ => ⟨g, h1, (hb.block g (Array.getElem?_eq_some_iff.1 h2).1).trans h2⟩
section
variable {P : Program} {ops : Array Oper} {w0 : World} {Fin : Env → Prop} {o : Oper} {r : List Oper} {a : Act} {F : List (Tmp × Told)} {d : Tmp}
theorem laneO_item {s i : Tmp} {n k : Nat} {t e : TypeId} {cs : List Value} (hop : o.op = .indexAddr t (.tmp s) (.tmp i)) (ho : o.dst = some d) (hgd : o.guard = none) (hT : F.lookup s = some (madeT n e cs)) (hi : F.lookup i = none)
    (hiv : a.tmps.getD i undef = .int .i64 k) (hk : k < n) (ht : P.underlying t = some (.slice e)) (hsz : (P.info? e).map (·.size) = some 1) (hr : laneO P ops w0 Fin r (envOf a ((d, itemT e cs k) :: F))) : laneO P ops w0 Fin (o :: r) (envOf a F) := by
  refine ⟨itemT e cs k, ⟨itemT_steady _ _ _, fun a' w hb hm => .inl (.inl ⟨by simp [Region.wanted, hgd], ?_⟩)⟩, by rw [ho, upd_told]; exact hr⟩
  have h1 := hm s (by simp [Oper.looksAt, hop, Op.operands])
  have h2 := hm i (by simp [Oper.looksAt, hop, Op.operands])
  unfold envOf at h1 h2
  rw [hT] at h1
  rw [hi] at h2
  obtain ⟨g, hv, hg⟩ := h1
  have h2' : a'.tmps.getD i undef = .int .i64 k := h2.trans hiv
  have he : P.elem t = e := by simp [Program.elem, ht]
  have hs1 : (sizeOf e).run P w = .ok 1 w := by
    cases hq : P.info? e with
    | none => simp [hq] at hsz
    | some j =>
      have : j.size = 1 := by simpa [hq] using hsz
      simp [sizeOf, typeInfo, hq, this, go_sem]
  have hrun : (Instr.indexAt t (.slice (some ⟨g, 0, none⟩) n n) (.int .i64 k)).run P w = .ok (.pointer (some ⟨g, k, none⟩)) w := by
    have hk' : (0 : Int) ≤ (k : Int) ∧ (k : Int) < (n : Int) := by omega
    have hadd : (⟨g, 0, none⟩ : Addr).add k = ⟨g, k, none⟩ := by unfold Addr.add; split <;> simp_all
    simp [Instr.indexAt, asIntOf, run_underlying ht, hk', hk, hs1, hadd, go_sem]
  unfold gives
  have e1 : a'.eval (.tmp s) = .slice (some ⟨g, 0, none⟩) n n := hv
  have e2 : a'.eval (.tmp i) = .int .i64 k := h2'
  simp only [execOp, hop, e1, e2, Sem.run_bind, hrun, Result.andThen_ok, Sem.run_pure]
  exact ⟨Behind.refl w, g, rfl, hg⟩
theorem laneO_itemLoad {s : Tmp} {k : Nat} {t e : TypeId} {cs : List Value} {v : Value} (hop : o.op = .load t (.tmp s)) (ho : o.dst = some d) (hd : d < a.tmps.size) (hF : F.lookup d = none) (hgd : o.guard = none) (hT : F.lookup s = some (itemT e cs k))
    (hcs : cs[k]? = some v) (hrun : ∀ (w : World) (g : Nat), w.cell? ⟨g, k, none⟩ = some v → (loadVar t ⟨g, k, none⟩).run P w = .ok v w) (hr : laneO P ops w0 Fin r (envOf (a.put (some d) v) F)) : laneO P ops w0 Fin (o :: r) (envOf a F) := by
  refine laneO_use (by simp [notSelect, hop]) ho hd hF (fun a' w hb' hm => .inl ⟨by simp [Region.wanted, hgd], ?_⟩) hr
  have h1 := hm s (by simp [Oper.looksAt, hop, Op.operands])
  unfold envOf at h1
  rw [hT] at h1
  obtain ⟨g, hv, hg⟩ := h1
  have hc : w.cell? ⟨g, k, none⟩ = some v := by
    rw [cell_of_row w g k cs.toArray e (0, 0) hg]
    simpa using hcs
  have e1 : a'.eval (.tmp s) = .pointer (some ⟨g, k, none⟩) := hv
  unfold gives
  simp only [execOp, hop, e1, Instr.loadAt, Instr.sureAddr, Sem.run_bind, Sem.run_pure, Result.andThen_ok, hrun w g hc]
  exact ⟨Behind.refl w, trivial⟩
end
end Go.Proofs.Ytmlnpphblicghaa
