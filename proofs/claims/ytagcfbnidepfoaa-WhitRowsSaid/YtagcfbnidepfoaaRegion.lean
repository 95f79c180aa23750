import Derived.WalkKit
/- A region of a function, by its number: for theorems of their own on great regions. No program is named here. -/
namespace Go.Proofs.Ytagcfbnidepfoaa
open Go Go.RowKit

def findReg (n : Nat) : Code → Option Code
  | .region m ops d => bif Nat.beq m n then some (.region m ops d) else none
  | .seq a b => (findReg n a).orElse fun _ => findReg n b
  | .cond _ a b => (findReg n a).orElse fun _ => findReg n b
  | .block _ c => findReg n c
  | .loop c => findReg n c
  | .scope c => findReg n c
  | _ => none
end Go.Proofs.Ytagcfbnidepfoaa
