/-
  No cell of these rows narrows 'for every input' (looked for: loops, veiled, ifaces, maps, wideKeys, modest, calm, conditions, laid).
  DERIVED. THE GIVEN ROWS OF THIS SEAT. 6 by the template 'for every input the law returns true; each argument reads behind the call as it read before'; 0 by the template 'total and deterministic' (their statements: YtcdjdpgjflhjiaaTotals.lean).
  GIVEN WITH THE SEED: the statements are not yours to turn. If you find one false, say at which input.
  Laid BY PROGRAM, IN A SANDBOX (cutbox-rows.mjs): the forced cells as the released guide's own fill.sh prints them over the translation d9d1e84d530246cf… (all of the seat's roots in one cut). By AI agents, Wed Nov 11 2026. No macro, syntax, notation, axiom, sorry.
-/
import Derived.Test.YtcdjdpgjflhjiaaChecked
import GoSem.Claim
import GoSem.ClaimJoined
import GoSem.ClaimMapViews
import Derived.JoinedTies
import Derived.KernelRfl
namespace Go.Proofs.Ytcdjdpgjflhjiaa
/- THE CELL 'sum', in the pinned program and in every row, IS THE sha256 OF THE DUMP (.gsa) THAT YtcdjdpgjflhjiaaProg.lean LOADS. Nothing in Lean hashes anything: it is a label: what it is worth is what the hold of that sum in a sandbox is worth. -/
noncomputable def Try.pinned : Pinned := { name := "ytcdjdpgjflhjiaa", sum := "d9d1e84d530246cf32f9685629b32d6a58d70e943346b1a2c22a4f620657fcc2", checked := Try.checked }
namespace Rows
def none {H : Type} : Left H := { results := [], args := [] }

/-- 'quoinlaw1.UnitHolds': WHATEVER THE INPUT: true; the input reads as it did. -/
def unitHoldsSpec : ChangeSpec := { name := "unitHolds", fn := fun _ => fun
  | [d1, d2, d3] => { results := [.lit (.bool true)], args := [d1, d2, d3] }
  | _ => none }
def unitHoldsRow : OpenClaim := { program := "ytcdjdpgjflhjiaa", sum := "d9d1e84d530246cf32f9685629b32d6a58d70e943346b1a2c22a4f620657fcc2", func := "quoin/quoinlaw1.UnitHolds", spec := "unitHolds", named := ["math/bits.divideError", "math/bits.overflowError"], apart := false }
def UnitHoldsSaid : Prop := unitHoldsRow.holds Try.pinned (OpenSpec.ofChange unitHoldsSpec)

/-- ITS FALSE NEIGHBOUR: 'it returns false'. Refute it at one input. -/
def unitHoldsWrong : ChangeSpec := { name := "unitHolds", fn := fun _ => fun
  | [d1, d2, d3] => { results := [.lit (.bool false)], args := [d1, d2, d3] }
  | _ => none }
def UnitHoldsWrongFalsely : Prop := unitHoldsRow.holds Try.pinned (OpenSpec.ofChange unitHoldsWrong)

/-- 'quoinlaw1.UnitNone': WHATEVER THE INPUT: true; the input reads as it did. -/
def unitNoneSpec : ChangeSpec := { name := "unitNone", fn := fun _ => fun
  | [d1, d2] => { results := [.lit (.bool true)], args := [d1, d2] }
  | _ => none }
def unitNoneRow : OpenClaim := { program := "ytcdjdpgjflhjiaa", sum := "d9d1e84d530246cf32f9685629b32d6a58d70e943346b1a2c22a4f620657fcc2", func := "quoin/quoinlaw1.UnitNone", spec := "unitNone", named := ["math/bits.divideError", "math/bits.overflowError"], apart := false }
def UnitNoneSaid : Prop := unitNoneRow.holds Try.pinned (OpenSpec.ofChange unitNoneSpec)

/-- ITS FALSE NEIGHBOUR: 'it returns false'. Refute it at one input. -/
def unitNoneWrong : ChangeSpec := { name := "unitNone", fn := fun _ => fun
  | [d1, d2] => { results := [.lit (.bool false)], args := [d1, d2] }
  | _ => none }
def UnitNoneWrongFalsely : Prop := unitNoneRow.holds Try.pinned (OpenSpec.ofChange unitNoneWrong)

/-- 'quoinlaw1.UnitTells': WHATEVER THE INPUT: true; the input reads as it did. -/
def unitTellsSpec : ChangeSpec := { name := "unitTells", fn := fun _ => fun
  | [d1, d2, d3, d4, d5] => { results := [.lit (.bool true)], args := [d1, d2, d3, d4, d5] }
  | _ => none }
def unitTellsRow : OpenClaim := { program := "ytcdjdpgjflhjiaa", sum := "d9d1e84d530246cf32f9685629b32d6a58d70e943346b1a2c22a4f620657fcc2", func := "quoin/quoinlaw1.UnitTells", spec := "unitTells", named := ["math/bits.divideError", "math/bits.overflowError"], apart := false }
def UnitTellsSaid : Prop := unitTellsRow.holds Try.pinned (OpenSpec.ofChange unitTellsSpec)

/-- ITS FALSE NEIGHBOUR: 'it returns false'. Refute it at one input. -/
def unitTellsWrong : ChangeSpec := { name := "unitTells", fn := fun _ => fun
  | [d1, d2, d3, d4, d5] => { results := [.lit (.bool false)], args := [d1, d2, d3, d4, d5] }
  | _ => none }
def UnitTellsWrongFalsely : Prop := unitTellsRow.holds Try.pinned (OpenSpec.ofChange unitTellsWrong)

/-- 'quoinlaw1.UnitShares': WHATEVER THE INPUT: true; the input reads as it did. -/
def unitSharesSpec : ChangeSpec := { name := "unitShares", fn := fun _ => fun
  | [d1, d2] => { results := [.lit (.bool true)], args := [d1, d2] }
  | _ => none }
def unitSharesRow : OpenClaim := { program := "ytcdjdpgjflhjiaa", sum := "d9d1e84d530246cf32f9685629b32d6a58d70e943346b1a2c22a4f620657fcc2", func := "quoin/quoinlaw1.UnitShares", spec := "unitShares", named := ["math/bits.divideError", "math/bits.overflowError"], apart := false }
def UnitSharesSaid : Prop := unitSharesRow.holds Try.pinned (OpenSpec.ofChange unitSharesSpec)

/-- ITS FALSE NEIGHBOUR: 'it returns false'. Refute it at one input. -/
def unitSharesWrong : ChangeSpec := { name := "unitShares", fn := fun _ => fun
  | [d1, d2] => { results := [.lit (.bool false)], args := [d1, d2] }
  | _ => none }
def UnitSharesWrongFalsely : Prop := unitSharesRow.holds Try.pinned (OpenSpec.ofChange unitSharesWrong)

/-- 'quoinlaw1.UnitRatios': WHATEVER THE INPUT: true; the input reads as it did. -/
def unitRatiosSpec : ChangeSpec := { name := "unitRatios", fn := fun _ => fun
  | [d1, d2, d3, d4] => { results := [.lit (.bool true)], args := [d1, d2, d3, d4] }
  | _ => none }
def unitRatiosRow : OpenClaim := { program := "ytcdjdpgjflhjiaa", sum := "d9d1e84d530246cf32f9685629b32d6a58d70e943346b1a2c22a4f620657fcc2", func := "quoin/quoinlaw1.UnitRatios", spec := "unitRatios", named := ["math/bits.divideError", "math/bits.overflowError"], apart := false }
def UnitRatiosSaid : Prop := unitRatiosRow.holds Try.pinned (OpenSpec.ofChange unitRatiosSpec)

/-- ITS FALSE NEIGHBOUR: 'it returns false'. Refute it at one input. -/
def unitRatiosWrong : ChangeSpec := { name := "unitRatios", fn := fun _ => fun
  | [d1, d2, d3, d4] => { results := [.lit (.bool false)], args := [d1, d2, d3, d4] }
  | _ => none }
def UnitRatiosWrongFalsely : Prop := unitRatiosRow.holds Try.pinned (OpenSpec.ofChange unitRatiosWrong)

/-- 'quoinlaw1.UnitRounds': WHATEVER THE INPUT: true; the input reads as it did. -/
def unitRoundsSpec : ChangeSpec := { name := "unitRounds", fn := fun _ => fun
  | [d1, d2, d3] => { results := [.lit (.bool true)], args := [d1, d2, d3] }
  | _ => none }
def unitRoundsRow : OpenClaim := { program := "ytcdjdpgjflhjiaa", sum := "d9d1e84d530246cf32f9685629b32d6a58d70e943346b1a2c22a4f620657fcc2", func := "quoin/quoinlaw1.UnitRounds", spec := "unitRounds", named := ["math/bits.divideError", "math/bits.overflowError"], apart := false }
def UnitRoundsSaid : Prop := unitRoundsRow.holds Try.pinned (OpenSpec.ofChange unitRoundsSpec)

/-- ITS FALSE NEIGHBOUR: 'it returns false'. Refute it at one input. -/
def unitRoundsWrong : ChangeSpec := { name := "unitRounds", fn := fun _ => fun
  | [d1, d2, d3] => { results := [.lit (.bool false)], args := [d1, d2, d3] }
  | _ => none }
def UnitRoundsWrongFalsely : Prop := unitRoundsRow.holds Try.pinned (OpenSpec.ofChange unitRoundsWrong)

/- THE SECOND FORM. 'bulk': how many values and letters a reading holds, each counted each time it is reached (what is shared counts as often as it is met; a slice's spare places count too). A statement '..UptoSaid' is the law's where the arguments, and the package variables that the reading takes, are together of bulk at most 1048576: NARROWER than '..Said'. Prove '..Said' where nothing that the law and all that it calls make is longer than what came in: it says more and counts as full. Else prove '..UptoSaid'. A law counts once. -/
mutual
def uptoBulk {H : Type} : DataW H → Nat
  | .lit (.string bytes) => bytes.length + 1
  | .lit _ => 1
  | .nil => 1
  | .ptr d => uptoBulk d + 1
  | .slice elems spare => uptoBulkAll elems + uptoBulkAll spare + 1
  | .agg parts => uptoBulkAll parts + 1
  | .iface _ d => uptoBulk d + 1
  | .map entries => uptoBulkEntries entries + 1
  | .held _ => 1
def uptoBulkAll {H : Type} : List (DataW H) → Nat
  | [] => 0
  | d :: r => uptoBulk d + uptoBulkAll r
def uptoBulkEntries {H : Type} : List (Lit × DataW H) → Nat
  | [] => 0
  | x :: r => uptoBulkEntry x + uptoBulkEntries r
def uptoBulkEntry {H : Type} : Lit × DataW H → Nat
  | (.string bytes, d) => bytes.length + uptoBulk d + 1
  | (_, d) => uptoBulk d + 1
 end
def uptoSmall : (H : Type) → List (DataW H) → Bool := fun _ ds => decide (uptoBulkAll ds ≤ 1048576)
def OpenSpec.upto (s : _root_.Go.ChangeSpec) : _root_.Go.OpenSpec := { _root_.Go.OpenSpec.ofChange s with cond := some uptoSmall }

/-- 'quoinlaw1.UnitHolds', WHERE WHAT IT READS IS OF BULK AT MOST 1048576: true; the input reads as it did. -/
def unitHoldsUptoRow : OpenClaim := { program := "ytcdjdpgjflhjiaa", sum := "d9d1e84d530246cf32f9685629b32d6a58d70e943346b1a2c22a4f620657fcc2", func := "quoin/quoinlaw1.UnitHolds", spec := "unitHolds", named := ["math/bits.divideError", "math/bits.overflowError"], apart := false, narrowed := true }
def UnitHoldsUptoSaid : Prop := unitHoldsUptoRow.holds Try.pinned (OpenSpec.upto unitHoldsSpec)

/-- 'quoinlaw1.UnitNone', WHERE WHAT IT READS IS OF BULK AT MOST 1048576: true; the input reads as it did. -/
def unitNoneUptoRow : OpenClaim := { program := "ytcdjdpgjflhjiaa", sum := "d9d1e84d530246cf32f9685629b32d6a58d70e943346b1a2c22a4f620657fcc2", func := "quoin/quoinlaw1.UnitNone", spec := "unitNone", named := ["math/bits.divideError", "math/bits.overflowError"], apart := false, narrowed := true }
def UnitNoneUptoSaid : Prop := unitNoneUptoRow.holds Try.pinned (OpenSpec.upto unitNoneSpec)

/-- 'quoinlaw1.UnitTells', WHERE WHAT IT READS IS OF BULK AT MOST 1048576: true; the input reads as it did. -/
def unitTellsUptoRow : OpenClaim := { program := "ytcdjdpgjflhjiaa", sum := "d9d1e84d530246cf32f9685629b32d6a58d70e943346b1a2c22a4f620657fcc2", func := "quoin/quoinlaw1.UnitTells", spec := "unitTells", named := ["math/bits.divideError", "math/bits.overflowError"], apart := false, narrowed := true }
def UnitTellsUptoSaid : Prop := unitTellsUptoRow.holds Try.pinned (OpenSpec.upto unitTellsSpec)

/-- 'quoinlaw1.UnitShares', WHERE WHAT IT READS IS OF BULK AT MOST 1048576: true; the input reads as it did. -/
def unitSharesUptoRow : OpenClaim := { program := "ytcdjdpgjflhjiaa", sum := "d9d1e84d530246cf32f9685629b32d6a58d70e943346b1a2c22a4f620657fcc2", func := "quoin/quoinlaw1.UnitShares", spec := "unitShares", named := ["math/bits.divideError", "math/bits.overflowError"], apart := false, narrowed := true }
def UnitSharesUptoSaid : Prop := unitSharesUptoRow.holds Try.pinned (OpenSpec.upto unitSharesSpec)

/-- 'quoinlaw1.UnitRatios', WHERE WHAT IT READS IS OF BULK AT MOST 1048576: true; the input reads as it did. -/
def unitRatiosUptoRow : OpenClaim := { program := "ytcdjdpgjflhjiaa", sum := "d9d1e84d530246cf32f9685629b32d6a58d70e943346b1a2c22a4f620657fcc2", func := "quoin/quoinlaw1.UnitRatios", spec := "unitRatios", named := ["math/bits.divideError", "math/bits.overflowError"], apart := false, narrowed := true }
def UnitRatiosUptoSaid : Prop := unitRatiosUptoRow.holds Try.pinned (OpenSpec.upto unitRatiosSpec)

/-- 'quoinlaw1.UnitRounds', WHERE WHAT IT READS IS OF BULK AT MOST 1048576: true; the input reads as it did. -/
def unitRoundsUptoRow : OpenClaim := { program := "ytcdjdpgjflhjiaa", sum := "d9d1e84d530246cf32f9685629b32d6a58d70e943346b1a2c22a4f620657fcc2", func := "quoin/quoinlaw1.UnitRounds", spec := "unitRounds", named := ["math/bits.divideError", "math/bits.overflowError"], apart := false, narrowed := true }
def UnitRoundsUptoSaid : Prop := unitRoundsUptoRow.holds Try.pinned (OpenSpec.upto unitRoundsSpec)

end Rows
end Go.Proofs.Ytcdjdpgjflhjiaa
