/-
  No cell of these rows narrows 'for every input' (looked for: loops, veiled, ifaces, maps, wideKeys, modest, calm, conditions, laid).
  DERIVED. THE GIVEN ROWS OF THIS SEAT. 4 by the template 'for every input the law returns true; each argument reads behind the call as it read before'; 0 by the template 'total and deterministic' (their statements: YteaenomfighaoaaTotals.lean).
  GIVEN WITH THE SEED: the statements are not yours to turn. If you find one false, say at which input.
  Laid BY PROGRAM, IN A SANDBOX (cutbox-rows.mjs): the forced cells as the released guide's own fill.sh prints them over the translation d7ab0547c55f099b… (all of the seat's roots in one cut). By AI agents, Wed Nov 11 2026. No macro, syntax, notation, axiom, sorry.
-/
import Derived.Test.YteaenomfighaoaaChecked
import GoSem.Claim
import GoSem.ClaimJoined
import GoSem.ClaimMapViews
import Derived.JoinedTies
import Derived.KernelRfl
namespace Go.Proofs.Yteaenomfighaoaa
/- THE CELL 'sum', in the pinned program and in every row, IS THE sha256 OF THE DUMP (.gsa) THAT YteaenomfighaoaaProg.lean LOADS. Nothing in Lean hashes anything: it is a label: what it is worth is what the hold of that sum in a sandbox is worth. -/
noncomputable def Try.pinned : Pinned := { name := "yteaenomfighaoaa", sum := "d7ab0547c55f099b2de103d369444d8a0f7fd4aaa6d48b552ec8c608fabe039b", checked := Try.checked }
namespace Rows
def none {H : Type} : Left H := { results := [], args := [] }

/-- 'quoinlaw19.AlongTwice': WHATEVER THE INPUT: true; the input reads as it did. -/
def alongTwiceSpec : ChangeSpec := { name := "alongTwice", fn := fun _ => fun
  | [d1, d2, d3] => { results := [.lit (.bool true)], args := [d1, d2, d3] }
  | _ => none }
def alongTwiceRow : OpenClaim := { program := "yteaenomfighaoaa", sum := "d7ab0547c55f099b2de103d369444d8a0f7fd4aaa6d48b552ec8c608fabe039b", func := "quoin/quoinlaw19.AlongTwice", spec := "alongTwice", inPlace := ["math/bits.Add64", "math/bits.Sub64"], named := ["math/bits.divideError", "math/bits.overflowError"], apart := false }
def AlongTwiceSaid : Prop := alongTwiceRow.holds Try.pinned (OpenSpec.ofChange alongTwiceSpec)

/-- ITS FALSE NEIGHBOUR: 'it returns false'. Refute it at one input. -/
def alongTwiceWrong : ChangeSpec := { name := "alongTwice", fn := fun _ => fun
  | [d1, d2, d3] => { results := [.lit (.bool false)], args := [d1, d2, d3] }
  | _ => none }
def AlongTwiceWrongFalsely : Prop := alongTwiceRow.holds Try.pinned (OpenSpec.ofChange alongTwiceWrong)

/-- 'quoinlaw19.AlongTells': WHATEVER THE INPUT: true; the input reads as it did. -/
def alongTellsSpec : ChangeSpec := { name := "alongTells", fn := fun _ => fun
  | [d1, d2, d3, d4, d5] => { results := [.lit (.bool true)], args := [d1, d2, d3, d4, d5] }
  | _ => none }
def alongTellsRow : OpenClaim := { program := "yteaenomfighaoaa", sum := "d7ab0547c55f099b2de103d369444d8a0f7fd4aaa6d48b552ec8c608fabe039b", func := "quoin/quoinlaw19.AlongTells", spec := "alongTells", inPlace := ["math/bits.Add64", "math/bits.Sub64"], named := ["math/bits.divideError", "math/bits.overflowError"], apart := false }
def AlongTellsSaid : Prop := alongTellsRow.holds Try.pinned (OpenSpec.ofChange alongTellsSpec)

/-- ITS FALSE NEIGHBOUR: 'it returns false'. Refute it at one input. -/
def alongTellsWrong : ChangeSpec := { name := "alongTells", fn := fun _ => fun
  | [d1, d2, d3, d4, d5] => { results := [.lit (.bool false)], args := [d1, d2, d3, d4, d5] }
  | _ => none }
def AlongTellsWrongFalsely : Prop := alongTellsRow.holds Try.pinned (OpenSpec.ofChange alongTellsWrong)

/-- 'quoinlaw19.AlongAll': WHATEVER THE INPUT: true; the input reads as it did. -/
def alongAllSpec : ChangeSpec := { name := "alongAll", fn := fun _ => fun
  | [d1, d2, d3] => { results := [.lit (.bool true)], args := [d1, d2, d3] }
  | _ => none }
def alongAllRow : OpenClaim := { program := "yteaenomfighaoaa", sum := "d7ab0547c55f099b2de103d369444d8a0f7fd4aaa6d48b552ec8c608fabe039b", func := "quoin/quoinlaw19.AlongAll", spec := "alongAll", inPlace := ["math/bits.Add64", "math/bits.Sub64"], named := ["math/bits.divideError", "math/bits.overflowError"], apart := false }
def AlongAllSaid : Prop := alongAllRow.holds Try.pinned (OpenSpec.ofChange alongAllSpec)

/-- ITS FALSE NEIGHBOUR: 'it returns false'. Refute it at one input. -/
def alongAllWrong : ChangeSpec := { name := "alongAll", fn := fun _ => fun
  | [d1, d2, d3] => { results := [.lit (.bool false)], args := [d1, d2, d3] }
  | _ => none }
def AlongAllWrongFalsely : Prop := alongAllRow.holds Try.pinned (OpenSpec.ofChange alongAllWrong)

/-- 'quoinlaw19.AlongGaps': WHATEVER THE INPUT: true; the input reads as it did. -/
def alongGapsSpec : ChangeSpec := { name := "alongGaps", fn := fun _ => fun
  | [d1, d2, d3] => { results := [.lit (.bool true)], args := [d1, d2, d3] }
  | _ => none }
def alongGapsRow : OpenClaim := { program := "yteaenomfighaoaa", sum := "d7ab0547c55f099b2de103d369444d8a0f7fd4aaa6d48b552ec8c608fabe039b", func := "quoin/quoinlaw19.AlongGaps", spec := "alongGaps", inPlace := ["math/bits.Add64", "math/bits.Sub64"], named := ["math/bits.divideError", "math/bits.overflowError"], apart := false }
def AlongGapsSaid : Prop := alongGapsRow.holds Try.pinned (OpenSpec.ofChange alongGapsSpec)

/-- ITS FALSE NEIGHBOUR: 'it returns false'. Refute it at one input. -/
def alongGapsWrong : ChangeSpec := { name := "alongGaps", fn := fun _ => fun
  | [d1, d2, d3] => { results := [.lit (.bool false)], args := [d1, d2, d3] }
  | _ => none }
def AlongGapsWrongFalsely : Prop := alongGapsRow.holds Try.pinned (OpenSpec.ofChange alongGapsWrong)

/- THE SECOND FORM. 'bulk': how many values and letters a reading holds, each counted each time it is reached (what is shared counts as often as it is met; a slice's spare places count too). A statement '..UptoSaid' is the law's where the arguments, and the package variables that the reading takes, are together of bulk at most 1048576: NARROWER than '..Said'. Prove '..Said' where nothing that the law and all that it calls make is longer than what came in: it says more and counts as full. Else prove '..UptoSaid'. A law counts once. -/
mutual
def uptoBulk {H : Type} : DataW H → Nat
  | .lit (.string bytes) => bytes.length + 1
  | .lit _ => 1
  | .nil => 1
  | .ptr d => uptoBulk d + 1
  | .slice elems spare => uptoBulkAll elems + uptoBulkAll spare + 1
  | .agg parts => uptoBulkAll parts + 1
  | .iface _ d => uptoBulk d + 1
  | .map entries => uptoBulkEntries entries + 1
  | .held _ => 1
def uptoBulkAll {H : Type} : List (DataW H) → Nat
  | [] => 0
  | d :: r => uptoBulk d + uptoBulkAll r
def uptoBulkEntries {H : Type} : List (Lit × DataW H) → Nat
  | [] => 0
  | x :: r => uptoBulkEntry x + uptoBulkEntries r
def uptoBulkEntry {H : Type} : Lit × DataW H → Nat
  | (.string bytes, d) => bytes.length + uptoBulk d + 1
  | (_, d) => uptoBulk d + 1
 end
def uptoSmall : (H : Type) → List (DataW H) → Bool := fun _ ds => decide (uptoBulkAll ds ≤ 1048576)
def OpenSpec.upto (s : _root_.Go.ChangeSpec) : _root_.Go.OpenSpec := { _root_.Go.OpenSpec.ofChange s with cond := some uptoSmall }

/-- 'quoinlaw19.AlongTwice', WHERE WHAT IT READS IS OF BULK AT MOST 1048576: true; the input reads as it did. -/
def alongTwiceUptoRow : OpenClaim := { program := "yteaenomfighaoaa", sum := "d7ab0547c55f099b2de103d369444d8a0f7fd4aaa6d48b552ec8c608fabe039b", func := "quoin/quoinlaw19.AlongTwice", spec := "alongTwice", inPlace := ["math/bits.Add64", "math/bits.Sub64"], named := ["math/bits.divideError", "math/bits.overflowError"], apart := false, narrowed := true }
def AlongTwiceUptoSaid : Prop := alongTwiceUptoRow.holds Try.pinned (OpenSpec.upto alongTwiceSpec)

/-- 'quoinlaw19.AlongTells', WHERE WHAT IT READS IS OF BULK AT MOST 1048576: true; the input reads as it did. -/
def alongTellsUptoRow : OpenClaim := { program := "yteaenomfighaoaa", sum := "d7ab0547c55f099b2de103d369444d8a0f7fd4aaa6d48b552ec8c608fabe039b", func := "quoin/quoinlaw19.AlongTells", spec := "alongTells", inPlace := ["math/bits.Add64", "math/bits.Sub64"], named := ["math/bits.divideError", "math/bits.overflowError"], apart := false, narrowed := true }
def AlongTellsUptoSaid : Prop := alongTellsUptoRow.holds Try.pinned (OpenSpec.upto alongTellsSpec)

/-- 'quoinlaw19.AlongAll', WHERE WHAT IT READS IS OF BULK AT MOST 1048576: true; the input reads as it did. -/
def alongAllUptoRow : OpenClaim := { program := "yteaenomfighaoaa", sum := "d7ab0547c55f099b2de103d369444d8a0f7fd4aaa6d48b552ec8c608fabe039b", func := "quoin/quoinlaw19.AlongAll", spec := "alongAll", inPlace := ["math/bits.Add64", "math/bits.Sub64"], named := ["math/bits.divideError", "math/bits.overflowError"], apart := false, narrowed := true }
def AlongAllUptoSaid : Prop := alongAllUptoRow.holds Try.pinned (OpenSpec.upto alongAllSpec)

/-- 'quoinlaw19.AlongGaps', WHERE WHAT IT READS IS OF BULK AT MOST 1048576: true; the input reads as it did. -/
def alongGapsUptoRow : OpenClaim := { program := "yteaenomfighaoaa", sum := "d7ab0547c55f099b2de103d369444d8a0f7fd4aaa6d48b552ec8c608fabe039b", func := "quoin/quoinlaw19.AlongGaps", spec := "alongGaps", inPlace := ["math/bits.Add64", "math/bits.Sub64"], named := ["math/bits.divideError", "math/bits.overflowError"], apart := false, narrowed := true }
def AlongGapsUptoSaid : Prop := alongGapsUptoRow.holds Try.pinned (OpenSpec.upto alongGapsSpec)

end Rows
end Go.Proofs.Yteaenomfighaoaa
