/-
  No cell of these rows narrows 'for every input' (looked for: loops, veiled, ifaces, maps, wideKeys, modest, calm, conditions, laid).
  DERIVED. THE GIVEN ROWS OF THIS SEAT. 11 by the template 'for every input the law returns true; each argument reads behind the call as it read before'; 0 by the template 'total and deterministic' (their statements: YtmlnpphblicghaaTotals.lean).
  GIVEN WITH THE SEED: the statements are not yours to turn. If you find one false, say at which input.
  Laid BY PROGRAM, IN A SANDBOX (cutbox-rows.mjs): the forced cells as the released guide's own fill.sh prints them over the translation c92922a83bbfc19e… (all of the seat's roots in one cut). By AI agents, Wed Nov 11 2026. No macro, syntax, notation, axiom, sorry.
-/
import Derived.Test.YtmlnpphblicghaaChecked
import GoSem.Claim
import GoSem.ClaimJoined
import GoSem.ClaimMapViews
import Derived.JoinedTies
import Derived.KernelRfl
namespace Go.Proofs.Ytmlnpphblicghaa
/- THE CELL 'sum', in the pinned program and in every row, IS THE sha256 OF THE DUMP (.gsa) THAT YtmlnpphblicghaaProg.lean LOADS. Nothing in Lean hashes anything: it is a label: what it is worth is what the hold of that sum in a sandbox is worth. -/
noncomputable def Try.pinned : Pinned := { name := "ytmlnpphblicghaa", sum := "c92922a83bbfc19e07068c567612dd54f6814aec1f71ec4dd2178f7fed415821", checked := Try.checked }
namespace Rows
def none {H : Type} : Left H := { results := [], args := [] }

/-- 'quoinlaw11.BrkWords': WHATEVER THE INPUT: true; the input reads as it did. -/
def brkWordsSpec : ChangeSpec := { name := "brkWords", fn := fun _ => fun
  | [d1, d2, d3, d4] => { results := [.lit (.bool true)], args := [d1, d2, d3, d4] }
  | _ => none }
def brkWordsRow : OpenClaim := { program := "ytmlnpphblicghaa", sum := "c92922a83bbfc19e07068c567612dd54f6814aec1f71ec4dd2178f7fed415821", func := "quoin/quoinlaw11.BrkWords", spec := "brkWords", inPlace := ["math/bits.Add64", "math/bits.Sub64"], unfollowed := true, recurses := true, apart := false }
def BrkWordsSaid : Prop := brkWordsRow.holds Try.pinned (OpenSpec.ofChange brkWordsSpec)

/-- ITS FALSE NEIGHBOUR: 'it returns false'. Refute it at one input. -/
def brkWordsWrong : ChangeSpec := { name := "brkWords", fn := fun _ => fun
  | [d1, d2, d3, d4] => { results := [.lit (.bool false)], args := [d1, d2, d3, d4] }
  | _ => none }
def BrkWordsWrongFalsely : Prop := brkWordsRow.holds Try.pinned (OpenSpec.ofChange brkWordsWrong)

/-- 'quoinlaw11.BrkWhole': WHATEVER THE INPUT: true; the input reads as it did. -/
def brkWholeSpec : ChangeSpec := { name := "brkWhole", fn := fun _ => fun
  | [d1, d2, d3] => { results := [.lit (.bool true)], args := [d1, d2, d3] }
  | _ => none }
def brkWholeRow : OpenClaim := { program := "ytmlnpphblicghaa", sum := "c92922a83bbfc19e07068c567612dd54f6814aec1f71ec4dd2178f7fed415821", func := "quoin/quoinlaw11.BrkWhole", spec := "brkWhole", inPlace := ["math/bits.Add64", "math/bits.Sub64"], unfollowed := true, recurses := true, apart := false }
def BrkWholeSaid : Prop := brkWholeRow.holds Try.pinned (OpenSpec.ofChange brkWholeSpec)

/-- ITS FALSE NEIGHBOUR: 'it returns false'. Refute it at one input. -/
def brkWholeWrong : ChangeSpec := { name := "brkWhole", fn := fun _ => fun
  | [d1, d2, d3] => { results := [.lit (.bool false)], args := [d1, d2, d3] }
  | _ => none }
def BrkWholeWrongFalsely : Prop := brkWholeRow.holds Try.pinned (OpenSpec.ofChange brkWholeWrong)

/-- 'quoinlaw11.BrkTells': WHATEVER THE INPUT: true; the input reads as it did. -/
def brkTellsSpec : ChangeSpec := { name := "brkTells", fn := fun _ => fun
  | [d1, d2, d3, d4] => { results := [.lit (.bool true)], args := [d1, d2, d3, d4] }
  | _ => none }
def brkTellsRow : OpenClaim := { program := "ytmlnpphblicghaa", sum := "c92922a83bbfc19e07068c567612dd54f6814aec1f71ec4dd2178f7fed415821", func := "quoin/quoinlaw11.BrkTells", spec := "brkTells", inPlace := ["math/bits.Add64", "math/bits.Sub64"], unfollowed := true, recurses := true, apart := false }
def BrkTellsSaid : Prop := brkTellsRow.holds Try.pinned (OpenSpec.ofChange brkTellsSpec)

/-- ITS FALSE NEIGHBOUR: 'it returns false'. Refute it at one input. -/
def brkTellsWrong : ChangeSpec := { name := "brkTells", fn := fun _ => fun
  | [d1, d2, d3, d4] => { results := [.lit (.bool false)], args := [d1, d2, d3, d4] }
  | _ => none }
def BrkTellsWrongFalsely : Prop := brkTellsRow.holds Try.pinned (OpenSpec.ofChange brkTellsWrong)

/-- 'quoinlaw11.BrkFull': WHATEVER THE INPUT: true; the input reads as it did. -/
def brkFullSpec : ChangeSpec := { name := "brkFull", fn := fun _ => fun
  | [d1, d2] => { results := [.lit (.bool true)], args := [d1, d2] }
  | _ => none }
def brkFullRow : OpenClaim := { program := "ytmlnpphblicghaa", sum := "c92922a83bbfc19e07068c567612dd54f6814aec1f71ec4dd2178f7fed415821", func := "quoin/quoinlaw11.BrkFull", spec := "brkFull", inPlace := ["math/bits.Add64", "math/bits.Sub64"], unfollowed := true, recurses := true, apart := false }
def BrkFullSaid : Prop := brkFullRow.holds Try.pinned (OpenSpec.ofChange brkFullSpec)

/-- ITS FALSE NEIGHBOUR: 'it returns false'. Refute it at one input. -/
def brkFullWrong : ChangeSpec := { name := "brkFull", fn := fun _ => fun
  | [d1, d2] => { results := [.lit (.bool false)], args := [d1, d2] }
  | _ => none }
def BrkFullWrongFalsely : Prop := brkFullRow.holds Try.pinned (OpenSpec.ofChange brkFullWrong)

/-- 'quoinlaw11.BrkLeast': WHATEVER THE INPUT: true; the input reads as it did. -/
def brkLeastSpec : ChangeSpec := { name := "brkLeast", fn := fun _ => fun
  | [d1, d2, d3] => { results := [.lit (.bool true)], args := [d1, d2, d3] }
  | _ => none }
def brkLeastRow : OpenClaim := { program := "ytmlnpphblicghaa", sum := "c92922a83bbfc19e07068c567612dd54f6814aec1f71ec4dd2178f7fed415821", func := "quoin/quoinlaw11.BrkLeast", spec := "brkLeast", inPlace := ["math/bits.Add64", "math/bits.Sub64"], unfollowed := true, recurses := true, apart := false }
def BrkLeastSaid : Prop := brkLeastRow.holds Try.pinned (OpenSpec.ofChange brkLeastSpec)

/-- ITS FALSE NEIGHBOUR: 'it returns false'. Refute it at one input. -/
def brkLeastWrong : ChangeSpec := { name := "brkLeast", fn := fun _ => fun
  | [d1, d2, d3] => { results := [.lit (.bool false)], args := [d1, d2, d3] }
  | _ => none }
def BrkLeastWrongFalsely : Prop := brkLeastRow.holds Try.pinned (OpenSpec.ofChange brkLeastWrong)

/-- 'quoinlaw12.RowHeights': WHATEVER THE INPUT: true; the input reads as it did. -/
def rowHeightsSpec : ChangeSpec := { name := "rowHeights", fn := fun _ => fun
  | [d1, d2, d3, d4, d5] => { results := [.lit (.bool true)], args := [d1, d2, d3, d4, d5] }
  | _ => none }
def rowHeightsRow : OpenClaim := { program := "ytmlnpphblicghaa", sum := "c92922a83bbfc19e07068c567612dd54f6814aec1f71ec4dd2178f7fed415821", func := "quoin/quoinlaw12.RowHeights", spec := "rowHeights", inPlace := ["math/bits.Add64", "math/bits.Sub64"], unfollowed := true, recurses := true, apart := false }
def RowHeightsSaid : Prop := rowHeightsRow.holds Try.pinned (OpenSpec.ofChange rowHeightsSpec)

/-- ITS FALSE NEIGHBOUR: 'it returns false'. Refute it at one input. -/
def rowHeightsWrong : ChangeSpec := { name := "rowHeights", fn := fun _ => fun
  | [d1, d2, d3, d4, d5] => { results := [.lit (.bool false)], args := [d1, d2, d3, d4, d5] }
  | _ => none }
def RowHeightsWrongFalsely : Prop := rowHeightsRow.holds Try.pinned (OpenSpec.ofChange rowHeightsWrong)

/-- 'quoinlaw12.RowRoom': WHATEVER THE INPUT: true; the input reads as it did. -/
def rowRoomSpec : ChangeSpec := { name := "rowRoom", fn := fun _ => fun
  | [d1, d2, d3] => { results := [.lit (.bool true)], args := [d1, d2, d3] }
  | _ => none }
def rowRoomRow : OpenClaim := { program := "ytmlnpphblicghaa", sum := "c92922a83bbfc19e07068c567612dd54f6814aec1f71ec4dd2178f7fed415821", func := "quoin/quoinlaw12.RowRoom", spec := "rowRoom", inPlace := ["math/bits.Add64", "math/bits.Sub64"], unfollowed := true, recurses := true, apart := false }
def RowRoomSaid : Prop := rowRoomRow.holds Try.pinned (OpenSpec.ofChange rowRoomSpec)

/-- ITS FALSE NEIGHBOUR: 'it returns false'. Refute it at one input. -/
def rowRoomWrong : ChangeSpec := { name := "rowRoom", fn := fun _ => fun
  | [d1, d2, d3] => { results := [.lit (.bool false)], args := [d1, d2, d3] }
  | _ => none }
def RowRoomWrongFalsely : Prop := rowRoomRow.holds Try.pinned (OpenSpec.ofChange rowRoomWrong)

/-- 'quoinlaw12.RowPieces': WHATEVER THE INPUT: true; the input reads as it did. -/
def rowPiecesSpec : ChangeSpec := { name := "rowPieces", fn := fun _ => fun
  | [d1, d2, d3] => { results := [.lit (.bool true)], args := [d1, d2, d3] }
  | _ => none }
def rowPiecesRow : OpenClaim := { program := "ytmlnpphblicghaa", sum := "c92922a83bbfc19e07068c567612dd54f6814aec1f71ec4dd2178f7fed415821", func := "quoin/quoinlaw12.RowPieces", spec := "rowPieces", inPlace := ["math/bits.Add64", "math/bits.Sub64"], unfollowed := true, recurses := true, apart := false }
def RowPiecesSaid : Prop := rowPiecesRow.holds Try.pinned (OpenSpec.ofChange rowPiecesSpec)

/-- ITS FALSE NEIGHBOUR: 'it returns false'. Refute it at one input. -/
def rowPiecesWrong : ChangeSpec := { name := "rowPieces", fn := fun _ => fun
  | [d1, d2, d3] => { results := [.lit (.bool false)], args := [d1, d2, d3] }
  | _ => none }
def RowPiecesWrongFalsely : Prop := rowPiecesRow.holds Try.pinned (OpenSpec.ofChange rowPiecesWrong)

/-- 'quoinlaw12.RowTells': WHATEVER THE INPUT: true; the input reads as it did. -/
def rowTellsSpec : ChangeSpec := { name := "rowTells", fn := fun _ => fun
  | [d1, d2, d3, d4, d5, d6] => { results := [.lit (.bool true)], args := [d1, d2, d3, d4, d5, d6] }
  | _ => none }
def rowTellsRow : OpenClaim := { program := "ytmlnpphblicghaa", sum := "c92922a83bbfc19e07068c567612dd54f6814aec1f71ec4dd2178f7fed415821", func := "quoin/quoinlaw12.RowTells", spec := "rowTells", inPlace := ["math/bits.Add64", "math/bits.Sub64"], unfollowed := true, recurses := true, apart := false }
def RowTellsSaid : Prop := rowTellsRow.holds Try.pinned (OpenSpec.ofChange rowTellsSpec)

/-- ITS FALSE NEIGHBOUR: 'it returns false'. Refute it at one input. -/
def rowTellsWrong : ChangeSpec := { name := "rowTells", fn := fun _ => fun
  | [d1, d2, d3, d4, d5, d6] => { results := [.lit (.bool false)], args := [d1, d2, d3, d4, d5, d6] }
  | _ => none }
def RowTellsWrongFalsely : Prop := rowTellsRow.holds Try.pinned (OpenSpec.ofChange rowTellsWrong)

/-- 'quoinlaw12.RowStands': WHATEVER THE INPUT: true; the input reads as it did. -/
def rowStandsSpec : ChangeSpec := { name := "rowStands", fn := fun _ => fun
  | [d1, d2, d3, d4] => { results := [.lit (.bool true)], args := [d1, d2, d3, d4] }
  | _ => none }
def rowStandsRow : OpenClaim := { program := "ytmlnpphblicghaa", sum := "c92922a83bbfc19e07068c567612dd54f6814aec1f71ec4dd2178f7fed415821", func := "quoin/quoinlaw12.RowStands", spec := "rowStands", inPlace := ["math/bits.Add64", "math/bits.Sub64"], unfollowed := true, recurses := true, apart := false }
def RowStandsSaid : Prop := rowStandsRow.holds Try.pinned (OpenSpec.ofChange rowStandsSpec)

/-- ITS FALSE NEIGHBOUR: 'it returns false'. Refute it at one input. -/
def rowStandsWrong : ChangeSpec := { name := "rowStands", fn := fun _ => fun
  | [d1, d2, d3, d4] => { results := [.lit (.bool false)], args := [d1, d2, d3, d4] }
  | _ => none }
def RowStandsWrongFalsely : Prop := rowStandsRow.holds Try.pinned (OpenSpec.ofChange rowStandsWrong)

/-- 'quoinlaw12.RowAligns': WHATEVER THE INPUT: true; the input reads as it did. -/
def rowAlignsSpec : ChangeSpec := { name := "rowAligns", fn := fun _ => fun
  | [d1, d2, d3] => { results := [.lit (.bool true)], args := [d1, d2, d3] }
  | _ => none }
def rowAlignsRow : OpenClaim := { program := "ytmlnpphblicghaa", sum := "c92922a83bbfc19e07068c567612dd54f6814aec1f71ec4dd2178f7fed415821", func := "quoin/quoinlaw12.RowAligns", spec := "rowAligns", inPlace := ["math/bits.Add64", "math/bits.Sub64"], unfollowed := true, recurses := true, apart := false }
def RowAlignsSaid : Prop := rowAlignsRow.holds Try.pinned (OpenSpec.ofChange rowAlignsSpec)

/-- ITS FALSE NEIGHBOUR: 'it returns false'. Refute it at one input. -/
def rowAlignsWrong : ChangeSpec := { name := "rowAligns", fn := fun _ => fun
  | [d1, d2, d3] => { results := [.lit (.bool false)], args := [d1, d2, d3] }
  | _ => none }
def RowAlignsWrongFalsely : Prop := rowAlignsRow.holds Try.pinned (OpenSpec.ofChange rowAlignsWrong)

/- THE SECOND FORM. 'bulk': how many values and letters a reading holds, each counted each time it is reached (what is shared counts as often as it is met; a slice's spare places count too). A statement '..UptoSaid' is the law's where the arguments, and the package variables that the reading takes, are together of bulk at most 1048576: NARROWER than '..Said'. Prove '..Said' where nothing that the law and all that it calls make is longer than what came in: it says more and counts as full. Else prove '..UptoSaid'. A law counts once. -/
mutual
def uptoBulk {H : Type} : DataW H → Nat
  | .lit (.string bytes) => bytes.length + 1
  | .lit _ => 1
  | .nil => 1
  | .ptr d => uptoBulk d + 1
  | .slice elems spare => uptoBulkAll elems + uptoBulkAll spare + 1
  | .agg parts => uptoBulkAll parts + 1
  | .iface _ d => uptoBulk d + 1
  | .map entries => uptoBulkEntries entries + 1
  | .held _ => 1
def uptoBulkAll {H : Type} : List (DataW H) → Nat
  | [] => 0
  | d :: r => uptoBulk d + uptoBulkAll r
def uptoBulkEntries {H : Type} : List (Lit × DataW H) → Nat
  | [] => 0
  | x :: r => uptoBulkEntry x + uptoBulkEntries r
def uptoBulkEntry {H : Type} : Lit × DataW H → Nat
  | (.string bytes, d) => bytes.length + uptoBulk d + 1
  | (_, d) => uptoBulk d + 1
 end
def uptoSmall : (H : Type) → List (DataW H) → Bool := fun _ ds => decide (uptoBulkAll ds ≤ 1048576)
def OpenSpec.upto (s : _root_.Go.ChangeSpec) : _root_.Go.OpenSpec := { _root_.Go.OpenSpec.ofChange s with cond := some uptoSmall }

/-- 'quoinlaw11.BrkWords', WHERE WHAT IT READS IS OF BULK AT MOST 1048576: true; the input reads as it did. -/
def brkWordsUptoRow : OpenClaim := { program := "ytmlnpphblicghaa", sum := "c92922a83bbfc19e07068c567612dd54f6814aec1f71ec4dd2178f7fed415821", func := "quoin/quoinlaw11.BrkWords", spec := "brkWords", inPlace := ["math/bits.Add64", "math/bits.Sub64"], unfollowed := true, recurses := true, apart := false, narrowed := true }
def BrkWordsUptoSaid : Prop := brkWordsUptoRow.holds Try.pinned (OpenSpec.upto brkWordsSpec)

/-- 'quoinlaw11.BrkWhole', WHERE WHAT IT READS IS OF BULK AT MOST 1048576: true; the input reads as it did. -/
def brkWholeUptoRow : OpenClaim := { program := "ytmlnpphblicghaa", sum := "c92922a83bbfc19e07068c567612dd54f6814aec1f71ec4dd2178f7fed415821", func := "quoin/quoinlaw11.BrkWhole", spec := "brkWhole", inPlace := ["math/bits.Add64", "math/bits.Sub64"], unfollowed := true, recurses := true, apart := false, narrowed := true }
def BrkWholeUptoSaid : Prop := brkWholeUptoRow.holds Try.pinned (OpenSpec.upto brkWholeSpec)

/-- 'quoinlaw11.BrkTells', WHERE WHAT IT READS IS OF BULK AT MOST 1048576: true; the input reads as it did. -/
def brkTellsUptoRow : OpenClaim := { program := "ytmlnpphblicghaa", sum := "c92922a83bbfc19e07068c567612dd54f6814aec1f71ec4dd2178f7fed415821", func := "quoin/quoinlaw11.BrkTells", spec := "brkTells", inPlace := ["math/bits.Add64", "math/bits.Sub64"], unfollowed := true, recurses := true, apart := false, narrowed := true }
def BrkTellsUptoSaid : Prop := brkTellsUptoRow.holds Try.pinned (OpenSpec.upto brkTellsSpec)

/-- 'quoinlaw11.BrkFull', WHERE WHAT IT READS IS OF BULK AT MOST 1048576: true; the input reads as it did. -/
def brkFullUptoRow : OpenClaim := { program := "ytmlnpphblicghaa", sum := "c92922a83bbfc19e07068c567612dd54f6814aec1f71ec4dd2178f7fed415821", func := "quoin/quoinlaw11.BrkFull", spec := "brkFull", inPlace := ["math/bits.Add64", "math/bits.Sub64"], unfollowed := true, recurses := true, apart := false, narrowed := true }
def BrkFullUptoSaid : Prop := brkFullUptoRow.holds Try.pinned (OpenSpec.upto brkFullSpec)

/-- 'quoinlaw11.BrkLeast', WHERE WHAT IT READS IS OF BULK AT MOST 1048576: true; the input reads as it did. -/
def brkLeastUptoRow : OpenClaim := { program := "ytmlnpphblicghaa", sum := "c92922a83bbfc19e07068c567612dd54f6814aec1f71ec4dd2178f7fed415821", func := "quoin/quoinlaw11.BrkLeast", spec := "brkLeast", inPlace := ["math/bits.Add64", "math/bits.Sub64"], unfollowed := true, recurses := true, apart := false, narrowed := true }
def BrkLeastUptoSaid : Prop := brkLeastUptoRow.holds Try.pinned (OpenSpec.upto brkLeastSpec)

/-- 'quoinlaw12.RowHeights', WHERE WHAT IT READS IS OF BULK AT MOST 1048576: true; the input reads as it did. -/
def rowHeightsUptoRow : OpenClaim := { program := "ytmlnpphblicghaa", sum := "c92922a83bbfc19e07068c567612dd54f6814aec1f71ec4dd2178f7fed415821", func := "quoin/quoinlaw12.RowHeights", spec := "rowHeights", inPlace := ["math/bits.Add64", "math/bits.Sub64"], unfollowed := true, recurses := true, apart := false, narrowed := true }
def RowHeightsUptoSaid : Prop := rowHeightsUptoRow.holds Try.pinned (OpenSpec.upto rowHeightsSpec)

/-- 'quoinlaw12.RowRoom', WHERE WHAT IT READS IS OF BULK AT MOST 1048576: true; the input reads as it did. -/
def rowRoomUptoRow : OpenClaim := { program := "ytmlnpphblicghaa", sum := "c92922a83bbfc19e07068c567612dd54f6814aec1f71ec4dd2178f7fed415821", func := "quoin/quoinlaw12.RowRoom", spec := "rowRoom", inPlace := ["math/bits.Add64", "math/bits.Sub64"], unfollowed := true, recurses := true, apart := false, narrowed := true }
def RowRoomUptoSaid : Prop := rowRoomUptoRow.holds Try.pinned (OpenSpec.upto rowRoomSpec)

/-- 'quoinlaw12.RowPieces', WHERE WHAT IT READS IS OF BULK AT MOST 1048576: true; the input reads as it did. -/
def rowPiecesUptoRow : OpenClaim := { program := "ytmlnpphblicghaa", sum := "c92922a83bbfc19e07068c567612dd54f6814aec1f71ec4dd2178f7fed415821", func := "quoin/quoinlaw12.RowPieces", spec := "rowPieces", inPlace := ["math/bits.Add64", "math/bits.Sub64"], unfollowed := true, recurses := true, apart := false, narrowed := true }
def RowPiecesUptoSaid : Prop := rowPiecesUptoRow.holds Try.pinned (OpenSpec.upto rowPiecesSpec)

/-- 'quoinlaw12.RowTells', WHERE WHAT IT READS IS OF BULK AT MOST 1048576: true; the input reads as it did. -/
def rowTellsUptoRow : OpenClaim := { program := "ytmlnpphblicghaa", sum := "c92922a83bbfc19e07068c567612dd54f6814aec1f71ec4dd2178f7fed415821", func := "quoin/quoinlaw12.RowTells", spec := "rowTells", inPlace := ["math/bits.Add64", "math/bits.Sub64"], unfollowed := true, recurses := true, apart := false, narrowed := true }
def RowTellsUptoSaid : Prop := rowTellsUptoRow.holds Try.pinned (OpenSpec.upto rowTellsSpec)

/-- 'quoinlaw12.RowStands', WHERE WHAT IT READS IS OF BULK AT MOST 1048576: true; the input reads as it did. -/
def rowStandsUptoRow : OpenClaim := { program := "ytmlnpphblicghaa", sum := "c92922a83bbfc19e07068c567612dd54f6814aec1f71ec4dd2178f7fed415821", func := "quoin/quoinlaw12.RowStands", spec := "rowStands", inPlace := ["math/bits.Add64", "math/bits.Sub64"], unfollowed := true, recurses := true, apart := false, narrowed := true }
def RowStandsUptoSaid : Prop := rowStandsUptoRow.holds Try.pinned (OpenSpec.upto rowStandsSpec)

/-- 'quoinlaw12.RowAligns', WHERE WHAT IT READS IS OF BULK AT MOST 1048576: true; the input reads as it did. -/
def rowAlignsUptoRow : OpenClaim := { program := "ytmlnpphblicghaa", sum := "c92922a83bbfc19e07068c567612dd54f6814aec1f71ec4dd2178f7fed415821", func := "quoin/quoinlaw12.RowAligns", spec := "rowAligns", inPlace := ["math/bits.Add64", "math/bits.Sub64"], unfollowed := true, recurses := true, apart := false, narrowed := true }
def RowAlignsUptoSaid : Prop := rowAlignsUptoRow.holds Try.pinned (OpenSpec.upto rowAlignsSpec)

end Rows
end Go.Proofs.Ytmlnpphblicghaa
