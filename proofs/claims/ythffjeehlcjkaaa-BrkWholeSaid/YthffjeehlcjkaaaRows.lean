/-
  No cell of these rows narrows 'for every input' (looked for: loops, veiled, ifaces, maps, wideKeys, modest, calm, conditions, laid).
  DERIVED. THE GIVEN ROWS OF THIS SEAT. 5 by the template 'for every input the law returns true; each argument reads behind the call as it read before'; 0 by the template 'total and deterministic' (their statements: YthffjeehlcjkaaaTotals.lean).
  GIVEN WITH THE SEED: the statements are not yours to turn. If you find one false, say at which input.
  Laid BY PROGRAM, IN A SANDBOX (cutbox-rows.mjs): the forced cells as the released guide's own fill.sh prints them over the translation 63d567f378ba3c9f… (all of the seat's roots in one cut). By AI agents, Wed Nov 11 2026. No macro, syntax, notation, axiom, sorry.
-/
import Derived.Test.YthffjeehlcjkaaaChecked
import GoSem.Claim
import GoSem.ClaimJoined
import GoSem.ClaimMapViews
import Derived.JoinedTies
import Derived.KernelRfl
namespace Go.Proofs.Ythffjeehlcjkaaa
/- THE CELL 'sum', in the pinned program and in every row, IS THE sha256 OF THE DUMP (.gsa) THAT YthffjeehlcjkaaaProg.lean LOADS. Nothing in Lean hashes anything: it is a label: what it is worth is what the hold of that sum in a sandbox is worth. -/
noncomputable def Try.pinned : Pinned := { name := "ythffjeehlcjkaaa", sum := "63d567f378ba3c9fbb740bba0b6e9bb35c29516c287204f11b5fd637658d809c", checked := Try.checked }
namespace Rows
def none {H : Type} : Left H := { results := [], args := [] }

/-- 'quoinlaw11.BrkWords': WHATEVER THE INPUT: true; the input reads as it did. -/
def brkWordsSpec : ChangeSpec := { name := "brkWords", fn := fun _ => fun
  | [d1, d2, d3, d4] => { results := [.lit (.bool true)], args := [d1, d2, d3, d4] }
  | _ => none }
def brkWordsRow : OpenClaim := { program := "ythffjeehlcjkaaa", sum := "63d567f378ba3c9fbb740bba0b6e9bb35c29516c287204f11b5fd637658d809c", func := "quoin/quoinlaw11.BrkWords", spec := "brkWords", inPlace := ["math/bits.Add64", "math/bits.Sub64"], unfollowed := true, recurses := true, apart := false }
def BrkWordsSaid : Prop := brkWordsRow.holds Try.pinned (OpenSpec.ofChange brkWordsSpec)

/-- ITS FALSE NEIGHBOUR: 'it returns false'. Refute it at one input. -/
def brkWordsWrong : ChangeSpec := { name := "brkWords", fn := fun _ => fun
  | [d1, d2, d3, d4] => { results := [.lit (.bool false)], args := [d1, d2, d3, d4] }
  | _ => none }
def BrkWordsWrongFalsely : Prop := brkWordsRow.holds Try.pinned (OpenSpec.ofChange brkWordsWrong)

/-- 'quoinlaw11.BrkWhole': WHATEVER THE INPUT: true; the input reads as it did. -/
def brkWholeSpec : ChangeSpec := { name := "brkWhole", fn := fun _ => fun
  | [d1, d2, d3] => { results := [.lit (.bool true)], args := [d1, d2, d3] }
  | _ => none }
def brkWholeRow : OpenClaim := { program := "ythffjeehlcjkaaa", sum := "63d567f378ba3c9fbb740bba0b6e9bb35c29516c287204f11b5fd637658d809c", func := "quoin/quoinlaw11.BrkWhole", spec := "brkWhole", inPlace := ["math/bits.Add64", "math/bits.Sub64"], unfollowed := true, recurses := true, apart := false }
def BrkWholeSaid : Prop := brkWholeRow.holds Try.pinned (OpenSpec.ofChange brkWholeSpec)

/-- ITS FALSE NEIGHBOUR: 'it returns false'. Refute it at one input. -/
def brkWholeWrong : ChangeSpec := { name := "brkWhole", fn := fun _ => fun
  | [d1, d2, d3] => { results := [.lit (.bool false)], args := [d1, d2, d3] }
  | _ => none }
def BrkWholeWrongFalsely : Prop := brkWholeRow.holds Try.pinned (OpenSpec.ofChange brkWholeWrong)

/-- 'quoinlaw11.BrkTells': WHATEVER THE INPUT: true; the input reads as it did. -/
def brkTellsSpec : ChangeSpec := { name := "brkTells", fn := fun _ => fun
  | [d1, d2, d3, d4] => { results := [.lit (.bool true)], args := [d1, d2, d3, d4] }
  | _ => none }
def brkTellsRow : OpenClaim := { program := "ythffjeehlcjkaaa", sum := "63d567f378ba3c9fbb740bba0b6e9bb35c29516c287204f11b5fd637658d809c", func := "quoin/quoinlaw11.BrkTells", spec := "brkTells", inPlace := ["math/bits.Add64", "math/bits.Sub64"], unfollowed := true, recurses := true, apart := false }
def BrkTellsSaid : Prop := brkTellsRow.holds Try.pinned (OpenSpec.ofChange brkTellsSpec)

/-- ITS FALSE NEIGHBOUR: 'it returns false'. Refute it at one input. -/
def brkTellsWrong : ChangeSpec := { name := "brkTells", fn := fun _ => fun
  | [d1, d2, d3, d4] => { results := [.lit (.bool false)], args := [d1, d2, d3, d4] }
  | _ => none }
def BrkTellsWrongFalsely : Prop := brkTellsRow.holds Try.pinned (OpenSpec.ofChange brkTellsWrong)

/-- 'quoinlaw11.BrkFull': WHATEVER THE INPUT: true; the input reads as it did. -/
def brkFullSpec : ChangeSpec := { name := "brkFull", fn := fun _ => fun
  | [d1, d2] => { results := [.lit (.bool true)], args := [d1, d2] }
  | _ => none }
def brkFullRow : OpenClaim := { program := "ythffjeehlcjkaaa", sum := "63d567f378ba3c9fbb740bba0b6e9bb35c29516c287204f11b5fd637658d809c", func := "quoin/quoinlaw11.BrkFull", spec := "brkFull", inPlace := ["math/bits.Add64", "math/bits.Sub64"], unfollowed := true, recurses := true, apart := false }
def BrkFullSaid : Prop := brkFullRow.holds Try.pinned (OpenSpec.ofChange brkFullSpec)

/-- ITS FALSE NEIGHBOUR: 'it returns false'. Refute it at one input. -/
def brkFullWrong : ChangeSpec := { name := "brkFull", fn := fun _ => fun
  | [d1, d2] => { results := [.lit (.bool false)], args := [d1, d2] }
  | _ => none }
def BrkFullWrongFalsely : Prop := brkFullRow.holds Try.pinned (OpenSpec.ofChange brkFullWrong)

/-- 'quoinlaw11.BrkLeast': WHATEVER THE INPUT: true; the input reads as it did. -/
def brkLeastSpec : ChangeSpec := { name := "brkLeast", fn := fun _ => fun
  | [d1, d2, d3] => { results := [.lit (.bool true)], args := [d1, d2, d3] }
  | _ => none }
def brkLeastRow : OpenClaim := { program := "ythffjeehlcjkaaa", sum := "63d567f378ba3c9fbb740bba0b6e9bb35c29516c287204f11b5fd637658d809c", func := "quoin/quoinlaw11.BrkLeast", spec := "brkLeast", inPlace := ["math/bits.Add64", "math/bits.Sub64"], unfollowed := true, recurses := true, apart := false }
def BrkLeastSaid : Prop := brkLeastRow.holds Try.pinned (OpenSpec.ofChange brkLeastSpec)

/-- ITS FALSE NEIGHBOUR: 'it returns false'. Refute it at one input. -/
def brkLeastWrong : ChangeSpec := { name := "brkLeast", fn := fun _ => fun
  | [d1, d2, d3] => { results := [.lit (.bool false)], args := [d1, d2, d3] }
  | _ => none }
def BrkLeastWrongFalsely : Prop := brkLeastRow.holds Try.pinned (OpenSpec.ofChange brkLeastWrong)

/- THE SECOND FORM. 'bulk': how many values and letters a reading holds, each counted each time it is reached (what is shared counts as often as it is met; a slice's spare places count too). A statement '..UptoSaid' is the law's where the arguments, and the package variables that the reading takes, are together of bulk at most 1048576: NARROWER than '..Said'. Prove '..Said' where nothing that the law and all that it calls make is longer than what came in: it says more and counts as full. Else prove '..UptoSaid'. A law counts once. -/
mutual
def uptoBulk {H : Type} : DataW H → Nat
  | .lit (.string bytes) => bytes.length + 1
  | .lit _ => 1
  | .nil => 1
  | .ptr d => uptoBulk d + 1
  | .slice elems spare => uptoBulkAll elems + uptoBulkAll spare + 1
  | .agg parts => uptoBulkAll parts + 1
  | .iface _ d => uptoBulk d + 1
  | .map entries => uptoBulkEntries entries + 1
  | .held _ => 1
def uptoBulkAll {H : Type} : List (DataW H) → Nat
  | [] => 0
  | d :: r => uptoBulk d + uptoBulkAll r
def uptoBulkEntries {H : Type} : List (Lit × DataW H) → Nat
  | [] => 0
  | x :: r => uptoBulkEntry x + uptoBulkEntries r
def uptoBulkEntry {H : Type} : Lit × DataW H → Nat
  | (.string bytes, d) => bytes.length + uptoBulk d + 1
  | (_, d) => uptoBulk d + 1
 end
def uptoSmall : (H : Type) → List (DataW H) → Bool := fun _ ds => decide (uptoBulkAll ds ≤ 1048576)
def OpenSpec.upto (s : _root_.Go.ChangeSpec) : _root_.Go.OpenSpec := { _root_.Go.OpenSpec.ofChange s with cond := some uptoSmall }

/-- 'quoinlaw11.BrkWords', WHERE WHAT IT READS IS OF BULK AT MOST 1048576: true; the input reads as it did. -/
def brkWordsUptoRow : OpenClaim := { program := "ythffjeehlcjkaaa", sum := "63d567f378ba3c9fbb740bba0b6e9bb35c29516c287204f11b5fd637658d809c", func := "quoin/quoinlaw11.BrkWords", spec := "brkWords", inPlace := ["math/bits.Add64", "math/bits.Sub64"], unfollowed := true, recurses := true, apart := false, narrowed := true }
def BrkWordsUptoSaid : Prop := brkWordsUptoRow.holds Try.pinned (OpenSpec.upto brkWordsSpec)

/-- 'quoinlaw11.BrkWhole', WHERE WHAT IT READS IS OF BULK AT MOST 1048576: true; the input reads as it did. -/
def brkWholeUptoRow : OpenClaim := { program := "ythffjeehlcjkaaa", sum := "63d567f378ba3c9fbb740bba0b6e9bb35c29516c287204f11b5fd637658d809c", func := "quoin/quoinlaw11.BrkWhole", spec := "brkWhole", inPlace := ["math/bits.Add64", "math/bits.Sub64"], unfollowed := true, recurses := true, apart := false, narrowed := true }
def BrkWholeUptoSaid : Prop := brkWholeUptoRow.holds Try.pinned (OpenSpec.upto brkWholeSpec)

/-- 'quoinlaw11.BrkTells', WHERE WHAT IT READS IS OF BULK AT MOST 1048576: true; the input reads as it did. -/
def brkTellsUptoRow : OpenClaim := { program := "ythffjeehlcjkaaa", sum := "63d567f378ba3c9fbb740bba0b6e9bb35c29516c287204f11b5fd637658d809c", func := "quoin/quoinlaw11.BrkTells", spec := "brkTells", inPlace := ["math/bits.Add64", "math/bits.Sub64"], unfollowed := true, recurses := true, apart := false, narrowed := true }
def BrkTellsUptoSaid : Prop := brkTellsUptoRow.holds Try.pinned (OpenSpec.upto brkTellsSpec)

/-- 'quoinlaw11.BrkFull', WHERE WHAT IT READS IS OF BULK AT MOST 1048576: true; the input reads as it did. -/
def brkFullUptoRow : OpenClaim := { program := "ythffjeehlcjkaaa", sum := "63d567f378ba3c9fbb740bba0b6e9bb35c29516c287204f11b5fd637658d809c", func := "quoin/quoinlaw11.BrkFull", spec := "brkFull", inPlace := ["math/bits.Add64", "math/bits.Sub64"], unfollowed := true, recurses := true, apart := false, narrowed := true }
def BrkFullUptoSaid : Prop := brkFullUptoRow.holds Try.pinned (OpenSpec.upto brkFullSpec)

/-- 'quoinlaw11.BrkLeast', WHERE WHAT IT READS IS OF BULK AT MOST 1048576: true; the input reads as it did. -/
def brkLeastUptoRow : OpenClaim := { program := "ythffjeehlcjkaaa", sum := "63d567f378ba3c9fbb740bba0b6e9bb35c29516c287204f11b5fd637658d809c", func := "quoin/quoinlaw11.BrkLeast", spec := "brkLeast", inPlace := ["math/bits.Add64", "math/bits.Sub64"], unfollowed := true, recurses := true, apart := false, narrowed := true }
def BrkLeastUptoSaid : Prop := brkLeastUptoRow.holds Try.pinned (OpenSpec.upto brkLeastSpec)

end Rows
end Go.Proofs.Ythffjeehlcjkaaa
