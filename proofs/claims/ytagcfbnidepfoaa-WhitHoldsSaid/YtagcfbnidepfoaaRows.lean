/-
  No cell of these rows narrows 'for every input' (looked for: loops, veiled, ifaces, maps, wideKeys, modest, calm, conditions, laid).
  DERIVED. THE GIVEN ROWS OF THIS SEAT. 5 by the template 'for every input the law returns true; each argument reads behind the call as it read before'; 0 by the template 'total and deterministic' (their statements: YtagcfbnidepfoaaTotals.lean).
  GIVEN WITH THE SEED: the statements are not yours to turn. If you find one false, say at which input.
  Laid BY PROGRAM, IN A SANDBOX (cutbox-rows.mjs): the forced cells as the released guide's own fill.sh prints them over the translation 4ca896632451d937… (all of the seat's roots in one cut). By AI agents, Wed Nov 11 2026. No macro, syntax, notation, axiom, sorry.
-/
import Derived.Test.YtagcfbnidepfoaaChecked
import GoSem.Claim
import GoSem.ClaimJoined
import GoSem.ClaimMapViews
import Derived.JoinedTies
import Derived.KernelRfl
namespace Go.Proofs.Ytagcfbnidepfoaa
/- THE CELL 'sum', in the pinned program and in every row, IS THE sha256 OF THE DUMP (.gsa) THAT YtagcfbnidepfoaaProg.lean LOADS. Nothing in Lean hashes anything: it is a label: what it is worth is what the hold of that sum in a sandbox is worth. -/
noncomputable def Try.pinned : Pinned := { name := "ytagcfbnidepfoaa", sum := "4ca896632451d93759b578d0602dfb8054768a6d5443919a04c353ba9d230cc2", checked := Try.checked }
namespace Rows
def none {H : Type} : Left H := { results := [], args := [] }

/-- 'quoinlaw10.WhitParts': WHATEVER THE INPUT: true; the input reads as it did. -/
def whitPartsSpec : ChangeSpec := { name := "whitParts", fn := fun _ => fun
  | [d1, d2, d3, d4] => { results := [.lit (.bool true)], args := [d1, d2, d3, d4] }
  | _ => none }
def whitPartsRow : OpenClaim := { program := "ytagcfbnidepfoaa", sum := "4ca896632451d93759b578d0602dfb8054768a6d5443919a04c353ba9d230cc2", func := "quoin/quoinlaw10.WhitParts", spec := "whitParts", apart := false }
def WhitPartsSaid : Prop := whitPartsRow.holds Try.pinned (OpenSpec.ofChange whitPartsSpec)

/-- ITS FALSE NEIGHBOUR: 'it returns false'. Refute it at one input. -/
def whitPartsWrong : ChangeSpec := { name := "whitParts", fn := fun _ => fun
  | [d1, d2, d3, d4] => { results := [.lit (.bool false)], args := [d1, d2, d3, d4] }
  | _ => none }
def WhitPartsWrongFalsely : Prop := whitPartsRow.holds Try.pinned (OpenSpec.ofChange whitPartsWrong)

/-- 'quoinlaw10.WhitHolds': WHATEVER THE INPUT: true; the input reads as it did. -/
def whitHoldsSpec : ChangeSpec := { name := "whitHolds", fn := fun _ => fun
  | [d1, d2] => { results := [.lit (.bool true)], args := [d1, d2] }
  | _ => none }
def whitHoldsRow : OpenClaim := { program := "ytagcfbnidepfoaa", sum := "4ca896632451d93759b578d0602dfb8054768a6d5443919a04c353ba9d230cc2", func := "quoin/quoinlaw10.WhitHolds", spec := "whitHolds", apart := false }
def WhitHoldsSaid : Prop := whitHoldsRow.holds Try.pinned (OpenSpec.ofChange whitHoldsSpec)

/-- ITS FALSE NEIGHBOUR: 'it returns false'. Refute it at one input. -/
def whitHoldsWrong : ChangeSpec := { name := "whitHolds", fn := fun _ => fun
  | [d1, d2] => { results := [.lit (.bool false)], args := [d1, d2] }
  | _ => none }
def WhitHoldsWrongFalsely : Prop := whitHoldsRow.holds Try.pinned (OpenSpec.ofChange whitHoldsWrong)

/-- 'quoinlaw10.WhitTells': WHATEVER THE INPUT: true; the input reads as it did. -/
def whitTellsSpec : ChangeSpec := { name := "whitTells", fn := fun _ => fun
  | [d1, d2, d3] => { results := [.lit (.bool true)], args := [d1, d2, d3] }
  | _ => none }
def whitTellsRow : OpenClaim := { program := "ytagcfbnidepfoaa", sum := "4ca896632451d93759b578d0602dfb8054768a6d5443919a04c353ba9d230cc2", func := "quoin/quoinlaw10.WhitTells", spec := "whitTells", apart := false }
def WhitTellsSaid : Prop := whitTellsRow.holds Try.pinned (OpenSpec.ofChange whitTellsSpec)

/-- ITS FALSE NEIGHBOUR: 'it returns false'. Refute it at one input. -/
def whitTellsWrong : ChangeSpec := { name := "whitTells", fn := fun _ => fun
  | [d1, d2, d3] => { results := [.lit (.bool false)], args := [d1, d2, d3] }
  | _ => none }
def WhitTellsWrongFalsely : Prop := whitTellsRow.holds Try.pinned (OpenSpec.ofChange whitTellsWrong)

/-- 'quoinlaw10.WhitRows': WHATEVER THE INPUT: true; the input reads as it did. -/
def whitRowsSpec : ChangeSpec := { name := "whitRows", fn := fun _ => fun
  | [d1, d2] => { results := [.lit (.bool true)], args := [d1, d2] }
  | _ => none }
def whitRowsRow : OpenClaim := { program := "ytagcfbnidepfoaa", sum := "4ca896632451d93759b578d0602dfb8054768a6d5443919a04c353ba9d230cc2", func := "quoin/quoinlaw10.WhitRows", spec := "whitRows", apart := false }
def WhitRowsSaid : Prop := whitRowsRow.holds Try.pinned (OpenSpec.ofChange whitRowsSpec)

/-- ITS FALSE NEIGHBOUR: 'it returns false'. Refute it at one input. -/
def whitRowsWrong : ChangeSpec := { name := "whitRows", fn := fun _ => fun
  | [d1, d2] => { results := [.lit (.bool false)], args := [d1, d2] }
  | _ => none }
def WhitRowsWrongFalsely : Prop := whitRowsRow.holds Try.pinned (OpenSpec.ofChange whitRowsWrong)

/-- 'quoinlaw10.WhitPre': WHATEVER THE INPUT: true; the input reads as it did. -/
def whitPreSpec : ChangeSpec := { name := "whitPre", fn := fun _ => fun
  | [d1, d2, d3] => { results := [.lit (.bool true)], args := [d1, d2, d3] }
  | _ => none }
def whitPreRow : OpenClaim := { program := "ytagcfbnidepfoaa", sum := "4ca896632451d93759b578d0602dfb8054768a6d5443919a04c353ba9d230cc2", func := "quoin/quoinlaw10.WhitPre", spec := "whitPre", apart := false }
def WhitPreSaid : Prop := whitPreRow.holds Try.pinned (OpenSpec.ofChange whitPreSpec)

/-- ITS FALSE NEIGHBOUR: 'it returns false'. Refute it at one input. -/
def whitPreWrong : ChangeSpec := { name := "whitPre", fn := fun _ => fun
  | [d1, d2, d3] => { results := [.lit (.bool false)], args := [d1, d2, d3] }
  | _ => none }
def WhitPreWrongFalsely : Prop := whitPreRow.holds Try.pinned (OpenSpec.ofChange whitPreWrong)

/- THE SECOND FORM. 'bulk': how many values and letters a reading holds, each counted each time it is reached (what is shared counts as often as it is met; a slice's spare places count too). A statement '..UptoSaid' is the law's where the arguments, and the package variables that the reading takes, are together of bulk at most 1048576: NARROWER than '..Said'. Prove '..Said' where nothing that the law and all that it calls make is longer than what came in: it says more and counts as full. Else prove '..UptoSaid'. A law counts once. -/
mutual
def uptoBulk {H : Type} : DataW H → Nat
  | .lit (.string bytes) => bytes.length + 1
  | .lit _ => 1
  | .nil => 1
  | .ptr d => uptoBulk d + 1
  | .slice elems spare => uptoBulkAll elems + uptoBulkAll spare + 1
  | .agg parts => uptoBulkAll parts + 1
  | .iface _ d => uptoBulk d + 1
  | .map entries => uptoBulkEntries entries + 1
  | .held _ => 1
def uptoBulkAll {H : Type} : List (DataW H) → Nat
  | [] => 0
  | d :: r => uptoBulk d + uptoBulkAll r
def uptoBulkEntries {H : Type} : List (Lit × DataW H) → Nat
  | [] => 0
  | x :: r => uptoBulkEntry x + uptoBulkEntries r
def uptoBulkEntry {H : Type} : Lit × DataW H → Nat
  | (.string bytes, d) => bytes.length + uptoBulk d + 1
  | (_, d) => uptoBulk d + 1
 end
def uptoSmall : (H : Type) → List (DataW H) → Bool := fun _ ds => decide (uptoBulkAll ds ≤ 1048576)
def OpenSpec.upto (s : _root_.Go.ChangeSpec) : _root_.Go.OpenSpec := { _root_.Go.OpenSpec.ofChange s with cond := some uptoSmall }

/-- 'quoinlaw10.WhitParts', WHERE WHAT IT READS IS OF BULK AT MOST 1048576: true; the input reads as it did. -/
def whitPartsUptoRow : OpenClaim := { program := "ytagcfbnidepfoaa", sum := "4ca896632451d93759b578d0602dfb8054768a6d5443919a04c353ba9d230cc2", func := "quoin/quoinlaw10.WhitParts", spec := "whitParts", apart := false, narrowed := true }
def WhitPartsUptoSaid : Prop := whitPartsUptoRow.holds Try.pinned (OpenSpec.upto whitPartsSpec)

/-- 'quoinlaw10.WhitHolds', WHERE WHAT IT READS IS OF BULK AT MOST 1048576: true; the input reads as it did. -/
def whitHoldsUptoRow : OpenClaim := { program := "ytagcfbnidepfoaa", sum := "4ca896632451d93759b578d0602dfb8054768a6d5443919a04c353ba9d230cc2", func := "quoin/quoinlaw10.WhitHolds", spec := "whitHolds", apart := false, narrowed := true }
def WhitHoldsUptoSaid : Prop := whitHoldsUptoRow.holds Try.pinned (OpenSpec.upto whitHoldsSpec)

/-- 'quoinlaw10.WhitTells', WHERE WHAT IT READS IS OF BULK AT MOST 1048576: true; the input reads as it did. -/
def whitTellsUptoRow : OpenClaim := { program := "ytagcfbnidepfoaa", sum := "4ca896632451d93759b578d0602dfb8054768a6d5443919a04c353ba9d230cc2", func := "quoin/quoinlaw10.WhitTells", spec := "whitTells", apart := false, narrowed := true }
def WhitTellsUptoSaid : Prop := whitTellsUptoRow.holds Try.pinned (OpenSpec.upto whitTellsSpec)

/-- 'quoinlaw10.WhitRows', WHERE WHAT IT READS IS OF BULK AT MOST 1048576: true; the input reads as it did. -/
def whitRowsUptoRow : OpenClaim := { program := "ytagcfbnidepfoaa", sum := "4ca896632451d93759b578d0602dfb8054768a6d5443919a04c353ba9d230cc2", func := "quoin/quoinlaw10.WhitRows", spec := "whitRows", apart := false, narrowed := true }
def WhitRowsUptoSaid : Prop := whitRowsUptoRow.holds Try.pinned (OpenSpec.upto whitRowsSpec)

/-- 'quoinlaw10.WhitPre', WHERE WHAT IT READS IS OF BULK AT MOST 1048576: true; the input reads as it did. -/
def whitPreUptoRow : OpenClaim := { program := "ytagcfbnidepfoaa", sum := "4ca896632451d93759b578d0602dfb8054768a6d5443919a04c353ba9d230cc2", func := "quoin/quoinlaw10.WhitPre", spec := "whitPre", apart := false, narrowed := true }
def WhitPreUptoSaid : Prop := whitPreUptoRow.holds Try.pinned (OpenSpec.upto whitPreSpec)

end Rows
end Go.Proofs.Ytagcfbnidepfoaa
