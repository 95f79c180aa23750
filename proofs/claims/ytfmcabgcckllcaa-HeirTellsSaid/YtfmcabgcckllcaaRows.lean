/-
  No cell of these rows narrows 'for every input' (looked for: loops, veiled, ifaces, maps, wideKeys, modest, calm, conditions, laid).
  DERIVED. THE GIVEN ROWS OF THIS SEAT. 3 by the template 'for every input the law returns true; each argument reads behind the call as it read before'; 0 by the template 'total and deterministic' (their statements: YtfmcabgcckllcaaTotals.lean).
  GIVEN WITH THE SEED: the statements are not yours to turn. If you find one false, say at which input.
  Laid BY PROGRAM, IN A SANDBOX (cutbox-rows.mjs): the forced cells as the released guide's own fill.sh prints them over the translation 70644fa86daf3afd… (all of the seat's roots in one cut). By AI agents, Wed Nov 11 2026. No macro, syntax, notation, axiom, sorry.
-/
import Derived.Test.YtfmcabgcckllcaaChecked
import GoSem.Claim
import GoSem.ClaimJoined
import GoSem.ClaimMapViews
import Derived.JoinedTies
import Derived.KernelRfl
namespace Go.Proofs.Ytfmcabgcckllcaa
/- THE CELL 'sum', in the pinned program and in every row, IS THE sha256 OF THE DUMP (.gsa) THAT YtfmcabgcckllcaaProg.lean LOADS. Nothing in Lean hashes anything: it is a label: what it is worth is what the hold of that sum in a sandbox is worth. -/
noncomputable def Try.pinned : Pinned := { name := "ytfmcabgcckllcaa", sum := "70644fa86daf3afddea78e0d952f3292db3cd14a6b12e07bdc3e536e32a9163e", checked := Try.checked }
namespace Rows
def none {H : Type} : Left H := { results := [], args := [] }

/-- 'quoinlaw5.HeirOwns': WHATEVER THE INPUT: true; the input reads as it did. -/
def heirOwnsSpec : ChangeSpec := { name := "heirOwns", fn := fun _ => fun
  | [d1, d2, d3] => { results := [.lit (.bool true)], args := [d1, d2, d3] }
  | _ => none }
def heirOwnsRow : OpenClaim := { program := "ytfmcabgcckllcaa", sum := "70644fa86daf3afddea78e0d952f3292db3cd14a6b12e07bdc3e536e32a9163e", func := "quoin/quoinlaw5.HeirOwns", spec := "heirOwns", unfollowed := true, recurses := true, apart := false }
def HeirOwnsSaid : Prop := heirOwnsRow.holds Try.pinned (OpenSpec.ofChange heirOwnsSpec)

/-- ITS FALSE NEIGHBOUR: 'it returns false'. Refute it at one input. -/
def heirOwnsWrong : ChangeSpec := { name := "heirOwns", fn := fun _ => fun
  | [d1, d2, d3] => { results := [.lit (.bool false)], args := [d1, d2, d3] }
  | _ => none }
def HeirOwnsWrongFalsely : Prop := heirOwnsRow.holds Try.pinned (OpenSpec.ofChange heirOwnsWrong)

/-- 'quoinlaw5.HeirTells': WHATEVER THE INPUT: true; the input reads as it did. -/
def heirTellsSpec : ChangeSpec := { name := "heirTells", fn := fun _ => fun
  | [d1, d2, d3] => { results := [.lit (.bool true)], args := [d1, d2, d3] }
  | _ => none }
def heirTellsRow : OpenClaim := { program := "ytfmcabgcckllcaa", sum := "70644fa86daf3afddea78e0d952f3292db3cd14a6b12e07bdc3e536e32a9163e", func := "quoin/quoinlaw5.HeirTells", spec := "heirTells", unfollowed := true, recurses := true, apart := false }
def HeirTellsSaid : Prop := heirTellsRow.holds Try.pinned (OpenSpec.ofChange heirTellsSpec)

/-- ITS FALSE NEIGHBOUR: 'it returns false'. Refute it at one input. -/
def heirTellsWrong : ChangeSpec := { name := "heirTells", fn := fun _ => fun
  | [d1, d2, d3] => { results := [.lit (.bool false)], args := [d1, d2, d3] }
  | _ => none }
def HeirTellsWrongFalsely : Prop := heirTellsRow.holds Try.pinned (OpenSpec.ofChange heirTellsWrong)

/-- 'quoinlaw5.HeirHands': WHATEVER THE INPUT: true; the input reads as it did. -/
def heirHandsSpec : ChangeSpec := { name := "heirHands", fn := fun _ => fun
  | [d1, d2] => { results := [.lit (.bool true)], args := [d1, d2] }
  | _ => none }
def heirHandsRow : OpenClaim := { program := "ytfmcabgcckllcaa", sum := "70644fa86daf3afddea78e0d952f3292db3cd14a6b12e07bdc3e536e32a9163e", func := "quoin/quoinlaw5.HeirHands", spec := "heirHands", unfollowed := true, recurses := true, apart := false }
def HeirHandsSaid : Prop := heirHandsRow.holds Try.pinned (OpenSpec.ofChange heirHandsSpec)

/-- ITS FALSE NEIGHBOUR: 'it returns false'. Refute it at one input. -/
def heirHandsWrong : ChangeSpec := { name := "heirHands", fn := fun _ => fun
  | [d1, d2] => { results := [.lit (.bool false)], args := [d1, d2] }
  | _ => none }
def HeirHandsWrongFalsely : Prop := heirHandsRow.holds Try.pinned (OpenSpec.ofChange heirHandsWrong)

/- THE SECOND FORM. 'bulk': how many values and letters a reading holds, each counted each time it is reached (what is shared counts as often as it is met; a slice's spare places count too). A statement '..UptoSaid' is the law's where the arguments, and the package variables that the reading takes, are together of bulk at most 1048576: NARROWER than '..Said'. Prove '..Said' where nothing that the law and all that it calls make is longer than what came in: it says more and counts as full. Else prove '..UptoSaid'. A law counts once. -/
mutual
def uptoBulk {H : Type} : DataW H → Nat
  | .lit (.string bytes) => bytes.length + 1
  | .lit _ => 1
  | .nil => 1
  | .ptr d => uptoBulk d + 1
  | .slice elems spare => uptoBulkAll elems + uptoBulkAll spare + 1
  | .agg parts => uptoBulkAll parts + 1
  | .iface _ d => uptoBulk d + 1
  | .map entries => uptoBulkEntries entries + 1
  | .held _ => 1
def uptoBulkAll {H : Type} : List (DataW H) → Nat
  | [] => 0
  | d :: r => uptoBulk d + uptoBulkAll r
def uptoBulkEntries {H : Type} : List (Lit × DataW H) → Nat
  | [] => 0
  | x :: r => uptoBulkEntry x + uptoBulkEntries r
def uptoBulkEntry {H : Type} : Lit × DataW H → Nat
  | (.string bytes, d) => bytes.length + uptoBulk d + 1
  | (_, d) => uptoBulk d + 1
 end
def uptoSmall : (H : Type) → List (DataW H) → Bool := fun _ ds => decide (uptoBulkAll ds ≤ 1048576)
def OpenSpec.upto (s : _root_.Go.ChangeSpec) : _root_.Go.OpenSpec := { _root_.Go.OpenSpec.ofChange s with cond := some uptoSmall }

/-- 'quoinlaw5.HeirOwns', WHERE WHAT IT READS IS OF BULK AT MOST 1048576: true; the input reads as it did. -/
def heirOwnsUptoRow : OpenClaim := { program := "ytfmcabgcckllcaa", sum := "70644fa86daf3afddea78e0d952f3292db3cd14a6b12e07bdc3e536e32a9163e", func := "quoin/quoinlaw5.HeirOwns", spec := "heirOwns", unfollowed := true, recurses := true, apart := false, narrowed := true }
def HeirOwnsUptoSaid : Prop := heirOwnsUptoRow.holds Try.pinned (OpenSpec.upto heirOwnsSpec)

/-- 'quoinlaw5.HeirTells', WHERE WHAT IT READS IS OF BULK AT MOST 1048576: true; the input reads as it did. -/
def heirTellsUptoRow : OpenClaim := { program := "ytfmcabgcckllcaa", sum := "70644fa86daf3afddea78e0d952f3292db3cd14a6b12e07bdc3e536e32a9163e", func := "quoin/quoinlaw5.HeirTells", spec := "heirTells", unfollowed := true, recurses := true, apart := false, narrowed := true }
def HeirTellsUptoSaid : Prop := heirTellsUptoRow.holds Try.pinned (OpenSpec.upto heirTellsSpec)

/-- 'quoinlaw5.HeirHands', WHERE WHAT IT READS IS OF BULK AT MOST 1048576: true; the input reads as it did. -/
def heirHandsUptoRow : OpenClaim := { program := "ytfmcabgcckllcaa", sum := "70644fa86daf3afddea78e0d952f3292db3cd14a6b12e07bdc3e536e32a9163e", func := "quoin/quoinlaw5.HeirHands", spec := "heirHands", unfollowed := true, recurses := true, apart := false, narrowed := true }
def HeirHandsUptoSaid : Prop := heirHandsUptoRow.holds Try.pinned (OpenSpec.upto heirHandsSpec)

end Rows
end Go.Proofs.Ytfmcabgcckllcaa
