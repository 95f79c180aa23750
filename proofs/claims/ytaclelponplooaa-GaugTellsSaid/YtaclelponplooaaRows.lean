/-
  No cell of these rows narrows 'for every input' (looked for: loops, veiled, ifaces, maps, wideKeys, modest, calm, conditions, laid).
  DERIVED. THE GIVEN ROWS OF THIS SEAT. 3 by the template 'for every input the law returns true; each argument reads behind the call as it read before'; 0 by the template 'total and deterministic' (their statements: YtaclelponplooaaTotals.lean).
  GIVEN WITH THE SEED: the statements are not yours to turn. If you find one false, say at which input.
  Laid BY PROGRAM, IN A SANDBOX (cutbox-rows.mjs): the forced cells as the released guide's own fill.sh prints them over the translation 2e2aa824b74fd872… (all of the seat's roots in one cut). By AI agents, Wed Nov 11 2026. No macro, syntax, notation, axiom, sorry.
-/
import Derived.Test.YtaclelponplooaaChecked
import GoSem.Claim
import GoSem.ClaimJoined
import GoSem.ClaimMapViews
import Derived.JoinedTies
import Derived.KernelRfl
namespace Go.Proofs.Ytaclelponplooaa
/- THE CELL 'sum', in the pinned program and in every row, IS THE sha256 OF THE DUMP (.gsa) THAT YtaclelponplooaaProg.lean LOADS. Nothing in Lean hashes anything: it is a label: what it is worth is what the hold of that sum in a sandbox is worth. -/
noncomputable def Try.pinned : Pinned := { name := "ytaclelponplooaa", sum := "2e2aa824b74fd87215a9232d0b20b55b58f046a297859f6e2273541c6efa86b0", checked := Try.checked }
namespace Rows
def none {H : Type} : Left H := { results := [], args := [] }

/-- 'quoinlaw9.GaugBytes': WHATEVER THE INPUT: true; the input reads as it did. -/
def gaugBytesSpec : ChangeSpec := { name := "gaugBytes", fn := fun _ => fun
  | [d1, d2] => { results := [.lit (.bool true)], args := [d1, d2] }
  | _ => none }
def gaugBytesRow : OpenClaim := { program := "ytaclelponplooaa", sum := "2e2aa824b74fd87215a9232d0b20b55b58f046a297859f6e2273541c6efa86b0", func := "quoin/quoinlaw9.GaugBytes", spec := "gaugBytes", apart := false }
def GaugBytesSaid : Prop := gaugBytesRow.holds Try.pinned (OpenSpec.ofChange gaugBytesSpec)

/-- ITS FALSE NEIGHBOUR: 'it returns false'. Refute it at one input. -/
def gaugBytesWrong : ChangeSpec := { name := "gaugBytes", fn := fun _ => fun
  | [d1, d2] => { results := [.lit (.bool false)], args := [d1, d2] }
  | _ => none }
def GaugBytesWrongFalsely : Prop := gaugBytesRow.holds Try.pinned (OpenSpec.ofChange gaugBytesWrong)

/-- 'quoinlaw9.GaugTells': WHATEVER THE INPUT: true; the input reads as it did. -/
def gaugTellsSpec : ChangeSpec := { name := "gaugTells", fn := fun _ => fun
  | [d1, d2, d3] => { results := [.lit (.bool true)], args := [d1, d2, d3] }
  | _ => none }
def gaugTellsRow : OpenClaim := { program := "ytaclelponplooaa", sum := "2e2aa824b74fd87215a9232d0b20b55b58f046a297859f6e2273541c6efa86b0", func := "quoin/quoinlaw9.GaugTells", spec := "gaugTells", apart := false }
def GaugTellsSaid : Prop := gaugTellsRow.holds Try.pinned (OpenSpec.ofChange gaugTellsSpec)

/-- ITS FALSE NEIGHBOUR: 'it returns false'. Refute it at one input. -/
def gaugTellsWrong : ChangeSpec := { name := "gaugTells", fn := fun _ => fun
  | [d1, d2, d3] => { results := [.lit (.bool false)], args := [d1, d2, d3] }
  | _ => none }
def GaugTellsWrongFalsely : Prop := gaugTellsRow.holds Try.pinned (OpenSpec.ofChange gaugTellsWrong)

/-- 'quoinlaw9.GaugParts': WHATEVER THE INPUT: true; the input reads as it did. -/
def gaugPartsSpec : ChangeSpec := { name := "gaugParts", fn := fun _ => fun
  | [d1, d2, d3, d4] => { results := [.lit (.bool true)], args := [d1, d2, d3, d4] }
  | _ => none }
def gaugPartsRow : OpenClaim := { program := "ytaclelponplooaa", sum := "2e2aa824b74fd87215a9232d0b20b55b58f046a297859f6e2273541c6efa86b0", func := "quoin/quoinlaw9.GaugParts", spec := "gaugParts", apart := false }
def GaugPartsSaid : Prop := gaugPartsRow.holds Try.pinned (OpenSpec.ofChange gaugPartsSpec)

/-- ITS FALSE NEIGHBOUR: 'it returns false'. Refute it at one input. -/
def gaugPartsWrong : ChangeSpec := { name := "gaugParts", fn := fun _ => fun
  | [d1, d2, d3, d4] => { results := [.lit (.bool false)], args := [d1, d2, d3, d4] }
  | _ => none }
def GaugPartsWrongFalsely : Prop := gaugPartsRow.holds Try.pinned (OpenSpec.ofChange gaugPartsWrong)

/- THE SECOND FORM. 'bulk': how many values and letters a reading holds, each counted each time it is reached (what is shared counts as often as it is met; a slice's spare places count too). A statement '..UptoSaid' is the law's where the arguments, and the package variables that the reading takes, are together of bulk at most 1048576: NARROWER than '..Said'. Prove '..Said' where nothing that the law and all that it calls make is longer than what came in: it says more and counts as full. Else prove '..UptoSaid'. A law counts once. -/
mutual
def uptoBulk {H : Type} : DataW H → Nat
  | .lit (.string bytes) => bytes.length + 1
  | .lit _ => 1
  | .nil => 1
  | .ptr d => uptoBulk d + 1
  | .slice elems spare => uptoBulkAll elems + uptoBulkAll spare + 1
  | .agg parts => uptoBulkAll parts + 1
  | .iface _ d => uptoBulk d + 1
  | .map entries => uptoBulkEntries entries + 1
  | .held _ => 1
def uptoBulkAll {H : Type} : List (DataW H) → Nat
  | [] => 0
  | d :: r => uptoBulk d + uptoBulkAll r
def uptoBulkEntries {H : Type} : List (Lit × DataW H) → Nat
  | [] => 0
  | x :: r => uptoBulkEntry x + uptoBulkEntries r
def uptoBulkEntry {H : Type} : Lit × DataW H → Nat
  | (.string bytes, d) => bytes.length + uptoBulk d + 1
  | (_, d) => uptoBulk d + 1
 end
def uptoSmall : (H : Type) → List (DataW H) → Bool := fun _ ds => decide (uptoBulkAll ds ≤ 1048576)
def OpenSpec.upto (s : _root_.Go.ChangeSpec) : _root_.Go.OpenSpec := { _root_.Go.OpenSpec.ofChange s with cond := some uptoSmall }

/-- 'quoinlaw9.GaugBytes', WHERE WHAT IT READS IS OF BULK AT MOST 1048576: true; the input reads as it did. -/
def gaugBytesUptoRow : OpenClaim := { program := "ytaclelponplooaa", sum := "2e2aa824b74fd87215a9232d0b20b55b58f046a297859f6e2273541c6efa86b0", func := "quoin/quoinlaw9.GaugBytes", spec := "gaugBytes", apart := false, narrowed := true }
def GaugBytesUptoSaid : Prop := gaugBytesUptoRow.holds Try.pinned (OpenSpec.upto gaugBytesSpec)

/-- 'quoinlaw9.GaugTells', WHERE WHAT IT READS IS OF BULK AT MOST 1048576: true; the input reads as it did. -/
def gaugTellsUptoRow : OpenClaim := { program := "ytaclelponplooaa", sum := "2e2aa824b74fd87215a9232d0b20b55b58f046a297859f6e2273541c6efa86b0", func := "quoin/quoinlaw9.GaugTells", spec := "gaugTells", apart := false, narrowed := true }
def GaugTellsUptoSaid : Prop := gaugTellsUptoRow.holds Try.pinned (OpenSpec.upto gaugTellsSpec)

/-- 'quoinlaw9.GaugParts', WHERE WHAT IT READS IS OF BULK AT MOST 1048576: true; the input reads as it did. -/
def gaugPartsUptoRow : OpenClaim := { program := "ytaclelponplooaa", sum := "2e2aa824b74fd87215a9232d0b20b55b58f046a297859f6e2273541c6efa86b0", func := "quoin/quoinlaw9.GaugParts", spec := "gaugParts", apart := false, narrowed := true }
def GaugPartsUptoSaid : Prop := gaugPartsUptoRow.holds Try.pinned (OpenSpec.upto gaugPartsSpec)

end Rows
end Go.Proofs.Ytaclelponplooaa
