import Derived.Test.YteaenomfighaoaaAlLaw
import Derived.Test.YteaenomfighaoaaProg
import Derived.Test.YteaenomfighaoaaCellMem
import Derived.Test.YteaenomfighaoaaLaneC
import Derived.OwnWalk
import Derived.BigRegion
import Derived.Test.YteaenomfighaoaaRecRow
import Derived.Test.YteaenomfighaoaaPush
/- Items along a line in memory. -/
namespace Go.Proofs.Yteaenomfighaoaa
open Go Go.RowKit
set_option linter.unusedVariables false
set_option linter.unusedSimpArgs false

def alC (x : Al) : List Value := [.int .i64 x.b, .int .i64 x.a, .int .i64 x.s, .bool x.ab, .bool x.aa]
theorem alC_five : ∀ x, (alC x).length = 5 := fun _ => rfl
abbrev alV0 : Value := .agg #[.int .i64 0, .int .i64 0, .int .i64 0, .bool false, .bool false]
theorem al_info : (Try.prog.info? 27).map (fun i => (i.zero, i.size, i.bytes)) = some (some alV0, 5, 32) := by kernel_rfl
theorem Row.al {w : World} {B : Nat} {A : Option Addr} {L : List Al} (h : Row w B A (L.flatMap alC)) {k : Nat} (hk : k < L.length) : ∃ ad, A = some ad ∧ ad.block < B ∧ w.cell? (ad.add (k * 5)) = some (.int .i64 L[k].b) ∧
    w.cell? ⟨(ad.add (k * 5)).block, (ad.add (k * 5)).off + 1, none⟩ = some (.int .i64 L[k].a) ∧ w.cell? ⟨(ad.add (k * 5)).block, (ad.add (k * 5)).off + 2, none⟩ = some (.int .i64 L[k].s) ∧
    w.cell? ⟨(ad.add (k * 5)).block, (ad.add (k * 5)).off + 3, none⟩ = some (.bool L[k].ab) ∧ w.cell? ⟨(ad.add (k * 5)).block, (ad.add (k * 5)).off + 4, none⟩ = some (.bool L[k].aa) := by
  obtain ⟨ad, e, hb, h0, hj⟩ := h.rc alC_five (by decide) hk
  exact ⟨ad, e, hb, h0 _ rfl, hj 1 _ (by decide) rfl, hj 2 _ (by decide) rfl, hj 3 _ (by decide) rfl, hj 4 _ (by decide) rfl⟩
/-- What Place answers: an own row of the places. -/
def AlPost (inner : Int) (l : List Al) (j : Int) (rev : Bool) (W : World) (e : Ending) (w' : World) : Prop :=
  ∃ A c, e = .returned (.slice A l.length c) ∧ w'.ownsRow W.heap.size 2 1 (.slice A l.length c) l.length (i64s (placeA inner l j rev)) ∧ Below W.heap.size W w'
end Go.Proofs.Yteaenomfighaoaa
