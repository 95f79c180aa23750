/-
  No cell of these rows narrows 'for every input' (looked for: loops, veiled, ifaces, maps, wideKeys, modest, calm, conditions, laid).
  DERIVED. THE GIVEN ROWS OF THIS SEAT. 4 by the template 'for every input the law returns true; each argument reads behind the call as it read before'; 0 by the template 'total and deterministic' (their statements: YthneapnijfmpmaaTotals.lean).
  GIVEN WITH THE SEED: the statements are not yours to turn. If you find one false, say at which input.
  Laid BY PROGRAM, IN A SANDBOX (cutbox-rows.mjs): the forced cells as the released guide's own fill.sh prints them over the translation 589149ad27d12d82… (all of the seat's roots in one cut). By AI agents, Wed Nov 11 2026. No macro, syntax, notation, axiom, sorry.
-/
import Derived.Test.YthneapnijfmpmaaChecked
import GoSem.Claim
import GoSem.ClaimJoined
import GoSem.ClaimMapViews
import Derived.JoinedTies
import Derived.KernelRfl
namespace Go.Proofs.Ythneapnijfmpmaa
/- THE CELL 'sum', in the pinned program and in every row, IS THE sha256 OF THE DUMP (.gsa) THAT YthneapnijfmpmaaProg.lean LOADS. Nothing in Lean hashes anything: it is a label: what it is worth is what the hold of that sum in a sandbox is worth. -/
noncomputable def Try.pinned : Pinned := { name := "ythneapnijfmpmaa", sum := "589149ad27d12d82cc87e5784ca17a4f54ccf9a706602bd2288afc0494d36ee7", checked := Try.checked }
namespace Rows
def none {H : Type} : Left H := { results := [], args := [] }

/-- 'quoinlaw20.CrosFills': WHATEVER THE INPUT: true; the input reads as it did. -/
def crosFillsSpec : ChangeSpec := { name := "crosFills", fn := fun _ => fun
  | [d1, d2, d3, d4, d5] => { results := [.lit (.bool true)], args := [d1, d2, d3, d4, d5] }
  | _ => none }
def crosFillsRow : OpenClaim := { program := "ythneapnijfmpmaa", sum := "589149ad27d12d82cc87e5784ca17a4f54ccf9a706602bd2288afc0494d36ee7", func := "quoin/quoinlaw20.CrosFills", spec := "crosFills", inPlace := ["math/bits.Add64", "math/bits.Sub64"], apart := false }
def CrosFillsSaid : Prop := crosFillsRow.holds Try.pinned (OpenSpec.ofChange crosFillsSpec)

/-- ITS FALSE NEIGHBOUR: 'it returns false'. Refute it at one input. -/
def crosFillsWrong : ChangeSpec := { name := "crosFills", fn := fun _ => fun
  | [d1, d2, d3, d4, d5] => { results := [.lit (.bool false)], args := [d1, d2, d3, d4, d5] }
  | _ => none }
def CrosFillsWrongFalsely : Prop := crosFillsRow.holds Try.pinned (OpenSpec.ofChange crosFillsWrong)

/-- 'quoinlaw20.CrosLines': WHATEVER THE INPUT: true; the input reads as it did. -/
def crosLinesSpec : ChangeSpec := { name := "crosLines", fn := fun _ => fun
  | [d] => { results := [.lit (.bool true)], args := [d] }
  | _ => none }
def crosLinesRow : OpenClaim := { program := "ythneapnijfmpmaa", sum := "589149ad27d12d82cc87e5784ca17a4f54ccf9a706602bd2288afc0494d36ee7", func := "quoin/quoinlaw20.CrosLines", spec := "crosLines", inPlace := ["math/bits.Add64", "math/bits.Sub64"], apart := false }
def CrosLinesSaid : Prop := crosLinesRow.holds Try.pinned (OpenSpec.ofChange crosLinesSpec)

/-- ITS FALSE NEIGHBOUR: 'it returns false'. Refute it at one input. -/
def crosLinesWrong : ChangeSpec := { name := "crosLines", fn := fun _ => fun
  | [d] => { results := [.lit (.bool false)], args := [d] }
  | _ => none }
def CrosLinesWrongFalsely : Prop := crosLinesRow.holds Try.pinned (OpenSpec.ofChange crosLinesWrong)

/-- 'quoinlaw20.CrosTells': WHATEVER THE INPUT: true; the input reads as it did. -/
def crosTellsSpec : ChangeSpec := { name := "crosTells", fn := fun _ => fun
  | [d1, d2, d3, d4, d5, d6, d7, d8, d9, d10] => { results := [.lit (.bool true)], args := [d1, d2, d3, d4, d5, d6, d7, d8, d9, d10] }
  | _ => none }
def crosTellsRow : OpenClaim := { program := "ythneapnijfmpmaa", sum := "589149ad27d12d82cc87e5784ca17a4f54ccf9a706602bd2288afc0494d36ee7", func := "quoin/quoinlaw20.CrosTells", spec := "crosTells", inPlace := ["math/bits.Add64", "math/bits.Sub64"], apart := false }
def CrosTellsSaid : Prop := crosTellsRow.holds Try.pinned (OpenSpec.ofChange crosTellsSpec)

/-- ITS FALSE NEIGHBOUR: 'it returns false'. Refute it at one input. -/
def crosTellsWrong : ChangeSpec := { name := "crosTells", fn := fun _ => fun
  | [d1, d2, d3, d4, d5, d6, d7, d8, d9, d10] => { results := [.lit (.bool false)], args := [d1, d2, d3, d4, d5, d6, d7, d8, d9, d10] }
  | _ => none }
def CrosTellsWrongFalsely : Prop := crosTellsRow.holds Try.pinned (OpenSpec.ofChange crosTellsWrong)

/-- 'quoinlaw20.CrosWithin': WHATEVER THE INPUT: true; the input reads as it did. -/
def crosWithinSpec : ChangeSpec := { name := "crosWithin", fn := fun _ => fun
  | [d1, d2, d3, d4, d5, d6] => { results := [.lit (.bool true)], args := [d1, d2, d3, d4, d5, d6] }
  | _ => none }
def crosWithinRow : OpenClaim := { program := "ythneapnijfmpmaa", sum := "589149ad27d12d82cc87e5784ca17a4f54ccf9a706602bd2288afc0494d36ee7", func := "quoin/quoinlaw20.CrosWithin", spec := "crosWithin", inPlace := ["math/bits.Add64", "math/bits.Sub64"], apart := false }
def CrosWithinSaid : Prop := crosWithinRow.holds Try.pinned (OpenSpec.ofChange crosWithinSpec)

/-- ITS FALSE NEIGHBOUR: 'it returns false'. Refute it at one input. -/
def crosWithinWrong : ChangeSpec := { name := "crosWithin", fn := fun _ => fun
  | [d1, d2, d3, d4, d5, d6] => { results := [.lit (.bool false)], args := [d1, d2, d3, d4, d5, d6] }
  | _ => none }
def CrosWithinWrongFalsely : Prop := crosWithinRow.holds Try.pinned (OpenSpec.ofChange crosWithinWrong)

/- THE SECOND FORM. 'bulk': how many values and letters a reading holds, each counted each time it is reached (what is shared counts as often as it is met; a slice's spare places count too). A statement '..UptoSaid' is the law's where the arguments, and the package variables that the reading takes, are together of bulk at most 1048576: NARROWER than '..Said'. Prove '..Said' where nothing that the law and all that it calls make is longer than what came in: it says more and counts as full. Else prove '..UptoSaid'. A law counts once. -/
mutual
def uptoBulk {H : Type} : DataW H → Nat
  | .lit (.string bytes) => bytes.length + 1
  | .lit _ => 1
  | .nil => 1
  | .ptr d => uptoBulk d + 1
  | .slice elems spare => uptoBulkAll elems + uptoBulkAll spare + 1
  | .agg parts => uptoBulkAll parts + 1
  | .iface _ d => uptoBulk d + 1
  | .map entries => uptoBulkEntries entries + 1
  | .held _ => 1
def uptoBulkAll {H : Type} : List (DataW H) → Nat
  | [] => 0
  | d :: r => uptoBulk d + uptoBulkAll r
def uptoBulkEntries {H : Type} : List (Lit × DataW H) → Nat
  | [] => 0
  | x :: r => uptoBulkEntry x + uptoBulkEntries r
def uptoBulkEntry {H : Type} : Lit × DataW H → Nat
  | (.string bytes, d) => bytes.length + uptoBulk d + 1
  | (_, d) => uptoBulk d + 1
 end
def uptoSmall : (H : Type) → List (DataW H) → Bool := fun _ ds => decide (uptoBulkAll ds ≤ 1048576)
def OpenSpec.upto (s : _root_.Go.ChangeSpec) : _root_.Go.OpenSpec := { _root_.Go.OpenSpec.ofChange s with cond := some uptoSmall }

/-- 'quoinlaw20.CrosFills', WHERE WHAT IT READS IS OF BULK AT MOST 1048576: true; the input reads as it did. -/
def crosFillsUptoRow : OpenClaim := { program := "ythneapnijfmpmaa", sum := "589149ad27d12d82cc87e5784ca17a4f54ccf9a706602bd2288afc0494d36ee7", func := "quoin/quoinlaw20.CrosFills", spec := "crosFills", inPlace := ["math/bits.Add64", "math/bits.Sub64"], apart := false, narrowed := true }
def CrosFillsUptoSaid : Prop := crosFillsUptoRow.holds Try.pinned (OpenSpec.upto crosFillsSpec)

/-- 'quoinlaw20.CrosLines', WHERE WHAT IT READS IS OF BULK AT MOST 1048576: true; the input reads as it did. -/
def crosLinesUptoRow : OpenClaim := { program := "ythneapnijfmpmaa", sum := "589149ad27d12d82cc87e5784ca17a4f54ccf9a706602bd2288afc0494d36ee7", func := "quoin/quoinlaw20.CrosLines", spec := "crosLines", inPlace := ["math/bits.Add64", "math/bits.Sub64"], apart := false, narrowed := true }
def CrosLinesUptoSaid : Prop := crosLinesUptoRow.holds Try.pinned (OpenSpec.upto crosLinesSpec)

/-- 'quoinlaw20.CrosTells', WHERE WHAT IT READS IS OF BULK AT MOST 1048576: true; the input reads as it did. -/
def crosTellsUptoRow : OpenClaim := { program := "ythneapnijfmpmaa", sum := "589149ad27d12d82cc87e5784ca17a4f54ccf9a706602bd2288afc0494d36ee7", func := "quoin/quoinlaw20.CrosTells", spec := "crosTells", inPlace := ["math/bits.Add64", "math/bits.Sub64"], apart := false, narrowed := true }
def CrosTellsUptoSaid : Prop := crosTellsUptoRow.holds Try.pinned (OpenSpec.upto crosTellsSpec)

/-- 'quoinlaw20.CrosWithin', WHERE WHAT IT READS IS OF BULK AT MOST 1048576: true; the input reads as it did. -/
def crosWithinUptoRow : OpenClaim := { program := "ythneapnijfmpmaa", sum := "589149ad27d12d82cc87e5784ca17a4f54ccf9a706602bd2288afc0494d36ee7", func := "quoin/quoinlaw20.CrosWithin", spec := "crosWithin", inPlace := ["math/bits.Add64", "math/bits.Sub64"], apart := false, narrowed := true }
def CrosWithinUptoSaid : Prop := crosWithinUptoRow.holds Try.pinned (OpenSpec.upto crosWithinSpec)

end Rows
end Go.Proofs.Ythneapnijfmpmaa
