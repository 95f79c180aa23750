import Derived.Test.YtfmcabgcckllcaaValSpec
import Derived.Test.YtfmcabgcckllcaaWords
/- How a text of declarations is read. No program is named here. -/
namespace Go.Proofs.Ytfmcabgcckllcaa
set_option linter.unusedVariables false
set_option linter.unusedSimpArgs false
open Go Go.RowKit

/-- The names, by Prop; none of 0. -/
def namesS : List ByteArray := [⟨#[]⟩,
  ⟨#[100, 105, 115, 112, 108, 97, 121]⟩,
  ⟨#[119, 105, 100, 116, 104]⟩,
  ⟨#[104, 101, 105, 103, 104, 116]⟩,
  ⟨#[109, 105, 110, 45, 119, 105, 100, 116, 104]⟩,
  ⟨#[109, 105, 110, 45, 104, 101, 105, 103, 104, 116]⟩,
  ⟨#[109, 97, 120, 45, 119, 105, 100, 116, 104]⟩,
  ⟨#[109, 97, 120, 45, 104, 101, 105, 103, 104, 116]⟩,
  ⟨#[109, 97, 114, 103, 105, 110, 45, 116, 111, 112]⟩,
  ⟨#[109, 97, 114, 103, 105, 110, 45, 114, 105, 103, 104, 116]⟩,
  ⟨#[109, 97, 114, 103, 105, 110, 45, 98, 111, 116, 116, 111, 109]⟩,
  ⟨#[109, 97, 114, 103, 105, 110, 45, 108, 101, 102, 116]⟩,
  ⟨#[112, 97, 100, 100, 105, 110, 103, 45, 116, 111, 112]⟩,
  ⟨#[112, 97, 100, 100, 105, 110, 103, 45, 114, 105, 103, 104, 116]⟩,
  ⟨#[112, 97, 100, 100, 105, 110, 103, 45, 98, 111, 116, 116, 111, 109]⟩,
  ⟨#[112, 97, 100, 100, 105, 110, 103, 45, 108, 101, 102, 116]⟩,
  ⟨#[98, 111, 114, 100, 101, 114, 45, 116, 111, 112]⟩,
  ⟨#[98, 111, 114, 100, 101, 114, 45, 114, 105, 103, 104, 116]⟩,
  ⟨#[98, 111, 114, 100, 101, 114, 45, 98, 111, 116, 116, 111, 109]⟩,
  ⟨#[98, 111, 114, 100, 101, 114, 45, 108, 101, 102, 116]⟩,
  ⟨#[102, 108, 101, 120, 45, 100, 105, 114, 101, 99, 116, 105, 111, 110]⟩,
  ⟨#[102, 108, 101, 120, 45, 119, 114, 97, 112]⟩,
  ⟨#[102, 108, 101, 120, 45, 98, 97, 115, 105, 115]⟩,
  ⟨#[102, 108, 101, 120, 45, 103, 114, 111, 119]⟩,
  ⟨#[102, 108, 101, 120, 45, 115, 104, 114, 105, 110, 107]⟩,
  ⟨#[111, 114, 100, 101, 114]⟩,
  ⟨#[106, 117, 115, 116, 105, 102, 121, 45, 99, 111, 110, 116, 101, 110, 116]⟩,
  ⟨#[97, 108, 105, 103, 110, 45, 105, 116, 101, 109, 115]⟩,
  ⟨#[97, 108, 105, 103, 110, 45, 115, 101, 108, 102]⟩,
  ⟨#[116, 101, 120, 116, 45, 97, 108, 105, 103, 110]⟩,
  ⟨#[119, 104, 105, 116, 101, 45, 115, 112, 97, 99, 101]⟩,
  ⟨#[108, 105, 110, 101, 45, 104, 101, 105, 103, 104, 116]⟩,
  ⟨#[111, 118, 101, 114, 102, 108, 111, 119]⟩]
theorem namesS_length : namesS.length = 33 := rfl
/-- The Prop of a name, among those below j; 0: none. -/
def propN (nm : List UInt8) : Nat → Nat
  | 0 => 0
  | j + 1 => if 1 ≤ j ∧ (bytesOf (namesS.getD j ⟨#[]⟩) == nm) = true then j else propN nm j
theorem propN_le (nm : List UInt8) : ∀ j, propN nm j ≤ j
  | 0 => Nat.le_refl _
  | j + 1 => by have := propN_le nm j; unfold propN; split <;> omega
theorem propN_lt (nm : List UInt8) : ∀ j, 0 < j → propN nm j < j
  | 0, h => by omega
  | j + 1, _ => by have := propN_le nm j; unfold propN; split <;> omega
def wordR (p : Int) (l : List UInt8) : Option Nat := ((wordsS p).map bytesOf).findIdx? (· == l)
def autoL (p : Int) : List UInt8 := if p = 6 ∨ p = 7 then [110, 111, 110, 101] else [97, 117, 116, 111]
/-- A Prop's Word, Kind and N of a value. -/
def valueR (p : Int) (l : List UInt8) : Option (Int × Int × Int) :=
  if 0 < wordsN p then (wordR p l).map fun i => ((i : Int), 0, 0)
  else if p = 23 ∨ p = 24 then (wholeR l 0 100).map fun v => (v, 0, 0)
  else if p = 25 then (wholeR l (-1000) 1000).map fun v => (v, 0, 0)
  else if (12 ≤ p ∧ p ≤ 19) ∨ p = 31 then (pixR l).bind fun z => if 0 ≤ z then some (0, 1, z) else none
  else if ¬ (p = 4 ∨ p = 5) ∧ (l == autoL p) = true then some (0, 0, 0)
  else (lenR l).bind fun x => if 0 ≤ x.2 ∨ (8 ≤ p ∧ p ≤ 11) then some (0, x.1, x.2) else none
def cutL (l : List UInt8) (a b : Nat) : List UInt8 := (l.drop a).take (b - a)
inductive StepR
  | bad (at_ : Nat) (e : Int)
  | next (d : Dc) (a : Nat)
/-- One declaration, from a place on. -/
def stepR (l : List UInt8) (a : Nat) : StepR :=
  let k := a + rowN nameB l a
  if k = a then .bad a 5 else
  let c := k + rowN blankB l k
  if ¬ l[c]? = some 58 then .bad c 5 else
  let v := c + 1 + rowN blankB l (c + 1)
  let e := v + rowN valB l v
  if e = v then .bad v 5 else
  let p := propN (cutL l a k) 33
  if p = 0 then .bad a 6 else
  match valueR p (cutL l v e) with
  | none => .bad v 7
  | some (w, kd, n) =>
    let b := e + rowN blankB l e
    if b < l.length ∧ ¬ l[b]? = some 59 then .bad b 5
    else .next ⟨p, w, kd, n⟩ (if b < l.length then b + 1 + rowN blankB l (b + 1) else b)
inductive PRes
  | bad (at_ : Nat) (e : Int)
  | ok (ds : List Dc)
def parseFrom (l : List UInt8) : Nat → Nat → List Dc → PRes
  | 0, _, out => .ok out
  | f + 1, a, out => if a < l.length then (match stepR l a with
    | .bad at_ e => .bad at_ e
    | .next d b => parseFrom l f b (out ++ [d])) else .ok out
def parseR (l : List UInt8) : PRes := if 2000 < l.length then .bad 0 4 else parseFrom l (l.length + 1) (rowN blankB l 0) []
end Go.Proofs.Ytfmcabgcckllcaa
