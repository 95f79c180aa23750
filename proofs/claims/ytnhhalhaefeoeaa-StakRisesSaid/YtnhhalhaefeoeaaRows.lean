/-
  No cell of these rows narrows 'for every input' (looked for: loops, veiled, ifaces, maps, wideKeys, modest, calm, conditions, laid).
  DERIVED. THE GIVEN ROWS OF THIS SEAT. 5 by the template 'for every input the law returns true; each argument reads behind the call as it read before'; 0 by the template 'total and deterministic' (their statements: YtnhhalhaefeoeaaTotals.lean).
  GIVEN WITH THE SEED: the statements are not yours to turn. If you find one false, say at which input.
  Laid BY PROGRAM, IN A SANDBOX (cutbox-rows.mjs): the forced cells as the released guide's own fill.sh prints them over the translation 9b525365df5f18f0… (all of the seat's roots in one cut). By AI agents, Wed Nov 11 2026. No macro, syntax, notation, axiom, sorry.
-/
import Derived.Test.YtnhhalhaefeoeaaChecked
import GoSem.Claim
import GoSem.ClaimJoined
import GoSem.ClaimMapViews
import Derived.JoinedTies
import Derived.KernelRfl
namespace Go.Proofs.Ytnhhalhaefeoeaa
/- THE CELL 'sum', in the pinned program and in every row, IS THE sha256 OF THE DUMP (.gsa) THAT YtnhhalhaefeoeaaProg.lean LOADS. Nothing in Lean hashes anything: it is a label: what it is worth is what the hold of that sum in a sandbox is worth. -/
noncomputable def Try.pinned : Pinned := { name := "ytnhhalhaefeoeaa", sum := "9b525365df5f18f07bde947964fce7738c2dea7786f773539e61964abe5ec8c7", checked := Try.checked }
namespace Rows
def none {H : Type} : Left H := { results := [], args := [] }

/-- 'quoinlaw16.StakOpens': WHATEVER THE INPUT: true; the input reads as it did. -/
def stakOpensSpec : ChangeSpec := { name := "stakOpens", fn := fun _ => fun
  | [d1, d2] => { results := [.lit (.bool true)], args := [d1, d2] }
  | _ => none }
def stakOpensRow : OpenClaim := { program := "ytnhhalhaefeoeaa", sum := "9b525365df5f18f07bde947964fce7738c2dea7786f773539e61964abe5ec8c7", func := "quoin/quoinlaw16.StakOpens", spec := "stakOpens", inPlace := ["math/bits.Add64"], unfollowed := true, recurses := true, apart := false }
def StakOpensSaid : Prop := stakOpensRow.holds Try.pinned (OpenSpec.ofChange stakOpensSpec)

/-- ITS FALSE NEIGHBOUR: 'it returns false'. Refute it at one input. -/
def stakOpensWrong : ChangeSpec := { name := "stakOpens", fn := fun _ => fun
  | [d1, d2] => { results := [.lit (.bool false)], args := [d1, d2] }
  | _ => none }
def StakOpensWrongFalsely : Prop := stakOpensRow.holds Try.pinned (OpenSpec.ofChange stakOpensWrong)

/-- 'quoinlaw16.StakRises': WHATEVER THE INPUT: true; the input reads as it did. -/
def stakRisesSpec : ChangeSpec := { name := "stakRises", fn := fun _ => fun
  | [d1, d2, d3] => { results := [.lit (.bool true)], args := [d1, d2, d3] }
  | _ => none }
def stakRisesRow : OpenClaim := { program := "ytnhhalhaefeoeaa", sum := "9b525365df5f18f07bde947964fce7738c2dea7786f773539e61964abe5ec8c7", func := "quoin/quoinlaw16.StakRises", spec := "stakRises", inPlace := ["math/bits.Add64"], unfollowed := true, recurses := true, apart := false }
def StakRisesSaid : Prop := stakRisesRow.holds Try.pinned (OpenSpec.ofChange stakRisesSpec)

/-- ITS FALSE NEIGHBOUR: 'it returns false'. Refute it at one input. -/
def stakRisesWrong : ChangeSpec := { name := "stakRises", fn := fun _ => fun
  | [d1, d2, d3] => { results := [.lit (.bool false)], args := [d1, d2, d3] }
  | _ => none }
def StakRisesWrongFalsely : Prop := stakRisesRow.holds Try.pinned (OpenSpec.ofChange stakRisesWrong)

/-- 'quoinlaw16.StakTells': WHATEVER THE INPUT: true; the input reads as it did. -/
def stakTellsSpec : ChangeSpec := { name := "stakTells", fn := fun _ => fun
  | [d1, d2, d3] => { results := [.lit (.bool true)], args := [d1, d2, d3] }
  | _ => none }
def stakTellsRow : OpenClaim := { program := "ytnhhalhaefeoeaa", sum := "9b525365df5f18f07bde947964fce7738c2dea7786f773539e61964abe5ec8c7", func := "quoin/quoinlaw16.StakTells", spec := "stakTells", inPlace := ["math/bits.Add64"], unfollowed := true, recurses := true, apart := false }
def StakTellsSaid : Prop := stakTellsRow.holds Try.pinned (OpenSpec.ofChange stakTellsSpec)

/-- ITS FALSE NEIGHBOUR: 'it returns false'. Refute it at one input. -/
def stakTellsWrong : ChangeSpec := { name := "stakTells", fn := fun _ => fun
  | [d1, d2, d3] => { results := [.lit (.bool false)], args := [d1, d2, d3] }
  | _ => none }
def StakTellsWrongFalsely : Prop := stakTellsRow.holds Try.pinned (OpenSpec.ofChange stakTellsWrong)

/-- 'quoinlaw16.StakMeets': WHATEVER THE INPUT: true; the input reads as it did. -/
def stakMeetsSpec : ChangeSpec := { name := "stakMeets", fn := fun _ => fun
  | [d1, d2, d3] => { results := [.lit (.bool true)], args := [d1, d2, d3] }
  | _ => none }
def stakMeetsRow : OpenClaim := { program := "ytnhhalhaefeoeaa", sum := "9b525365df5f18f07bde947964fce7738c2dea7786f773539e61964abe5ec8c7", func := "quoin/quoinlaw16.StakMeets", spec := "stakMeets", inPlace := ["math/bits.Add64"], unfollowed := true, recurses := true, apart := false }
def StakMeetsSaid : Prop := stakMeetsRow.holds Try.pinned (OpenSpec.ofChange stakMeetsSpec)

/-- ITS FALSE NEIGHBOUR: 'it returns false'. Refute it at one input. -/
def stakMeetsWrong : ChangeSpec := { name := "stakMeets", fn := fun _ => fun
  | [d1, d2, d3] => { results := [.lit (.bool false)], args := [d1, d2, d3] }
  | _ => none }
def StakMeetsWrongFalsely : Prop := stakMeetsRow.holds Try.pinned (OpenSpec.ofChange stakMeetsWrong)

/-- 'quoinlaw16.StakEmpty': WHATEVER THE INPUT: true; the input reads as it did. -/
def stakEmptySpec : ChangeSpec := { name := "stakEmpty", fn := fun _ => fun
  | [d1, d2, d3, d4] => { results := [.lit (.bool true)], args := [d1, d2, d3, d4] }
  | _ => none }
def stakEmptyRow : OpenClaim := { program := "ytnhhalhaefeoeaa", sum := "9b525365df5f18f07bde947964fce7738c2dea7786f773539e61964abe5ec8c7", func := "quoin/quoinlaw16.StakEmpty", spec := "stakEmpty", inPlace := ["math/bits.Add64"], unfollowed := true, recurses := true, apart := false }
def StakEmptySaid : Prop := stakEmptyRow.holds Try.pinned (OpenSpec.ofChange stakEmptySpec)

/-- ITS FALSE NEIGHBOUR: 'it returns false'. Refute it at one input. -/
def stakEmptyWrong : ChangeSpec := { name := "stakEmpty", fn := fun _ => fun
  | [d1, d2, d3, d4] => { results := [.lit (.bool false)], args := [d1, d2, d3, d4] }
  | _ => none }
def StakEmptyWrongFalsely : Prop := stakEmptyRow.holds Try.pinned (OpenSpec.ofChange stakEmptyWrong)

/- THE SECOND FORM. 'bulk': how many values and letters a reading holds, each counted each time it is reached (what is shared counts as often as it is met; a slice's spare places count too). A statement '..UptoSaid' is the law's where the arguments, and the package variables that the reading takes, are together of bulk at most 1048576: NARROWER than '..Said'. Prove '..Said' where nothing that the law and all that it calls make is longer than what came in: it says more and counts as full. Else prove '..UptoSaid'. A law counts once. -/
mutual
def uptoBulk {H : Type} : DataW H → Nat
  | .lit (.string bytes) => bytes.length + 1
  | .lit _ => 1
  | .nil => 1
  | .ptr d => uptoBulk d + 1
  | .slice elems spare => uptoBulkAll elems + uptoBulkAll spare + 1
  | .agg parts => uptoBulkAll parts + 1
  | .iface _ d => uptoBulk d + 1
  | .map entries => uptoBulkEntries entries + 1
  | .held _ => 1
def uptoBulkAll {H : Type} : List (DataW H) → Nat
  | [] => 0
  | d :: r => uptoBulk d + uptoBulkAll r
def uptoBulkEntries {H : Type} : List (Lit × DataW H) → Nat
  | [] => 0
  | x :: r => uptoBulkEntry x + uptoBulkEntries r
def uptoBulkEntry {H : Type} : Lit × DataW H → Nat
  | (.string bytes, d) => bytes.length + uptoBulk d + 1
  | (_, d) => uptoBulk d + 1
 end
def uptoSmall : (H : Type) → List (DataW H) → Bool := fun _ ds => decide (uptoBulkAll ds ≤ 1048576)
def OpenSpec.upto (s : _root_.Go.ChangeSpec) : _root_.Go.OpenSpec := { _root_.Go.OpenSpec.ofChange s with cond := some uptoSmall }

/-- 'quoinlaw16.StakOpens', WHERE WHAT IT READS IS OF BULK AT MOST 1048576: true; the input reads as it did. -/
def stakOpensUptoRow : OpenClaim := { program := "ytnhhalhaefeoeaa", sum := "9b525365df5f18f07bde947964fce7738c2dea7786f773539e61964abe5ec8c7", func := "quoin/quoinlaw16.StakOpens", spec := "stakOpens", inPlace := ["math/bits.Add64"], unfollowed := true, recurses := true, apart := false, narrowed := true }
def StakOpensUptoSaid : Prop := stakOpensUptoRow.holds Try.pinned (OpenSpec.upto stakOpensSpec)

/-- 'quoinlaw16.StakRises', WHERE WHAT IT READS IS OF BULK AT MOST 1048576: true; the input reads as it did. -/
def stakRisesUptoRow : OpenClaim := { program := "ytnhhalhaefeoeaa", sum := "9b525365df5f18f07bde947964fce7738c2dea7786f773539e61964abe5ec8c7", func := "quoin/quoinlaw16.StakRises", spec := "stakRises", inPlace := ["math/bits.Add64"], unfollowed := true, recurses := true, apart := false, narrowed := true }
def StakRisesUptoSaid : Prop := stakRisesUptoRow.holds Try.pinned (OpenSpec.upto stakRisesSpec)

/-- 'quoinlaw16.StakTells', WHERE WHAT IT READS IS OF BULK AT MOST 1048576: true; the input reads as it did. -/
def stakTellsUptoRow : OpenClaim := { program := "ytnhhalhaefeoeaa", sum := "9b525365df5f18f07bde947964fce7738c2dea7786f773539e61964abe5ec8c7", func := "quoin/quoinlaw16.StakTells", spec := "stakTells", inPlace := ["math/bits.Add64"], unfollowed := true, recurses := true, apart := false, narrowed := true }
def StakTellsUptoSaid : Prop := stakTellsUptoRow.holds Try.pinned (OpenSpec.upto stakTellsSpec)

/-- 'quoinlaw16.StakMeets', WHERE WHAT IT READS IS OF BULK AT MOST 1048576: true; the input reads as it did. -/
def stakMeetsUptoRow : OpenClaim := { program := "ytnhhalhaefeoeaa", sum := "9b525365df5f18f07bde947964fce7738c2dea7786f773539e61964abe5ec8c7", func := "quoin/quoinlaw16.StakMeets", spec := "stakMeets", inPlace := ["math/bits.Add64"], unfollowed := true, recurses := true, apart := false, narrowed := true }
def StakMeetsUptoSaid : Prop := stakMeetsUptoRow.holds Try.pinned (OpenSpec.upto stakMeetsSpec)

/-- 'quoinlaw16.StakEmpty', WHERE WHAT IT READS IS OF BULK AT MOST 1048576: true; the input reads as it did. -/
def stakEmptyUptoRow : OpenClaim := { program := "ytnhhalhaefeoeaa", sum := "9b525365df5f18f07bde947964fce7738c2dea7786f773539e61964abe5ec8c7", func := "quoin/quoinlaw16.StakEmpty", spec := "stakEmpty", inPlace := ["math/bits.Add64"], unfollowed := true, recurses := true, apart := false, narrowed := true }
def StakEmptyUptoSaid : Prop := stakEmptyUptoRow.holds Try.pinned (OpenSpec.upto stakEmptySpec)

end Rows
end Go.Proofs.Ytnhhalhaefeoeaa
