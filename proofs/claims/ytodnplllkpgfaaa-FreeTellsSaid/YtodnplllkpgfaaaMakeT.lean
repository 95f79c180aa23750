import Derived.Test.YtodnplllkpgfaaaPush
import Derived.Test.YtodnplllkpgfaaaLaneC
import Derived.OwnWalk
/- 'make([]T, n)' in a region that draws its order. No program is named here. -/
namespace Go.Proofs.Ytodnplllkpgfaaa
open Go Go.RowKit
set_option linter.unusedVariables false
set_option linter.unusedSimpArgs false

/-- A row that was just made, at the head of a block that is not below lo. -/
def mkT (lo e size N : Nat) (cells : List Value) : Told := fun v w => ∃ g, v = .slice (some ⟨g, 0, none⟩) N N ∧ w.ownsRow lo e size (.slice (some ⟨g, 0, none⟩) N N) N cells
theorem mkT_steady (lo e size N : Nat) (cells : List Value) : Steady (mkT lo e size N cells) := fun v w w' hb ⟨g, h1, h2⟩ => ⟨g, h1, own_below h2 hb (Nat.le_refl _)⟩
theorem gives_mk {P : Program} {o : Oper} {a : Act} {w : World} {t : TypeId} {l c : Operand} (hop : o.op = .makeSlice t l c) (e size bytes N : Nat) (z : Value) (h1 : P.underlying t = some (.slice e)) (hinfo : (P.info? e).map (fun i => (i.zero, i.size, i.bytes)) = some (some z, size, bytes))
    (L : Int) (hl : a.eval l = .int .i64 L) (hc : a.eval c = .int .i64 L) (hL : L = N) (b2 : bytes * N ≤ 281474976710656) (b3 : N ≤ maxLen) (lo : Nat) (hlo : lo ≤ w.heap.size) : gives P o a w (mkT lo e size N (madeCells z.cells (N * size)).toList) := by
  obtain ⟨i, hi, hz, hs, hb⟩ := info_parts hinfo
  obtain ⟨w', hrun, r1, r2⟩ := run_make_full (P := P) w lo t e i z size h1 hi hz hs .i64 .i64 N (by rw [hb]; exact b2) b3 hlo
  subst hL
  unfold gives
  have : (execOp a.eval o).run P w = .ok (.value (.slice (some ⟨w.heap.size, 0, none⟩) N N)) w' := by
    simp [execOp, hop, hl, hc, hrun, Result.andThen]
  rw [this]
  exact ⟨⟨r2.os, r2.tape, r2.output, r2.size, fun k hk => r2.block k hk (by simp)⟩, w.heap.size, rfl, r1⟩
/-- What is told of a slot is told of the one that it is assigned to. -/
theorem givesBy_assign {P : Program} {ops : Array Oper} {o : Oper} {a : Act} {w : World} {T : Told} {s : Nat} (hw : Region.wanted o (yielded ops a.tmps) = true) (hop : o.op = .assign (.tmp s)) (hm : T (a.tmps.getD s undef) w) : givesBy P ops o a w T := by
  refine ⟨hw, fun K Q hK => ?_⟩
  obtain ⟨v, hv⟩ : ∃ v, a.tmps.getD s undef = v := ⟨_, rfl⟩
  rw [hv] at hm
  have he : a.eval (.tmp s) = v := hv
  have h := hK v w (Behind.refl w) hm
  unfold Oper.wp execOp
  simp only [hop]
  simp [he]
  exact h
end Go.Proofs.Ytodnplllkpgfaaa
