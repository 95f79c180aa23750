import Derived.Test.YtbhdpfacfgldiaaGreatDoorZRQ
import Derived.Deep.MidRow
/- A struct out of the middle of a block, in a region that draws. No program is named here. -/
namespace Go.Proofs.YtbhdpfacfgldiaaGreatDoor
open Go Go.RowKit
set_option linter.unusedVariables false
set_option linter.unusedSimpArgs false
set_option maxRecDepth 20000
set_option maxHeartbeats 4000000

theorem mid_gives {P : Program} {o : Oper} {a : Act} {w : World} {ty : TypeId} (x : Operand) (ho : o.op = .load ty x) (g q : Nat) (hx : a.eval x = .pointer (some ⟨g, q, none⟩)) (cs : List Value) (d : TypeDesc) (hc : w.rangeAt g q cs)
    (hu : P.underlying ty = some d) (hd : d.isRow = true) (hi : (P.info? ty).map (·.size) = some cs.length) : gives P o a w fun u _ => u = .agg cs.toArray := by
  unfold gives execOp
  simp only [ho, hx, Instr.loadAt, Instr.sureAddr, Sem.run_bind, Sem.run_pure, Result.andThen_ok, run_loadVar_mid w g q ty cs d hc hu hd hi]
  exact ⟨Behind.refl w, trivial⟩
end Go.Proofs.YtbhdpfacfgldiaaGreatDoor
