import Derived.Test.YtpbfdfpedpfemaaGreatDoorDeclNum
/- The words of each Prop. No program is named here. -/
set_option linter.unusedVariables false
set_option linter.unusedSimpArgs false
namespace Go.Proofs.YtpbfdfpedpfemaaGreatDoor
open Go.RowKit

def wordsS (p : Int) : List ByteArray :=
  if p = 1 then [⟨#[98, 108, 111, 99, 107]⟩, ⟨#[105, 110, 108, 105, 110, 101]⟩, ⟨#[102, 108, 101, 120]⟩, ⟨#[110, 111, 110, 101]⟩]
  else if p = 20 then [⟨#[114, 111, 119]⟩, ⟨#[114, 111, 119, 45, 114, 101, 118, 101, 114, 115, 101]⟩, ⟨#[99, 111, 108, 117, 109, 110]⟩, ⟨#[99, 111, 108, 117, 109, 110, 45, 114, 101, 118, 101, 114, 115, 101]⟩]
  else if p = 21 then [⟨#[110, 111, 119, 114, 97, 112]⟩, ⟨#[119, 114, 97, 112]⟩, ⟨#[119, 114, 97, 112, 45, 114, 101, 118, 101, 114, 115, 101]⟩]
  else if p = 26 then [⟨#[115, 116, 97, 114, 116]⟩, ⟨#[101, 110, 100]⟩, ⟨#[99, 101, 110, 116, 101, 114]⟩, ⟨#[98, 101, 116, 119, 101, 101, 110]⟩, ⟨#[97, 114, 111, 117, 110, 100]⟩]
  else if p = 27 then [⟨#[115, 116, 97, 114, 116]⟩, ⟨#[101, 110, 100]⟩, ⟨#[99, 101, 110, 116, 101, 114]⟩, ⟨#[115, 116, 114, 101, 116, 99, 104]⟩]
  else if p = 28 then [⟨#[97, 117, 116, 111]⟩, ⟨#[115, 116, 97, 114, 116]⟩, ⟨#[101, 110, 100]⟩, ⟨#[99, 101, 110, 116, 101, 114]⟩, ⟨#[115, 116, 114, 101, 116, 99, 104]⟩]
  else if p = 29 then [⟨#[108, 101, 102, 116]⟩, ⟨#[114, 105, 103, 104, 116]⟩, ⟨#[99, 101, 110, 116, 101, 114]⟩]
  else if p = 30 then [⟨#[110, 111, 114, 109, 97, 108]⟩, ⟨#[110, 111, 119, 114, 97, 112]⟩, ⟨#[112, 114, 101]⟩]
  else if p = 32 then [⟨#[118, 105, 115, 105, 98, 108, 101]⟩, ⟨#[104, 105, 100, 100, 101, 110]⟩]
  else []
theorem wordsS_length (p : Int) : ((wordsS p).length : Int) = wordsN p := by
  by_cases h : p = 1 ∨ p = 20 ∨ p = 21 ∨ p = 26 ∨ p = 27 ∨ p = 28 ∨ p = 29 ∨ p = 30 ∨ p = 32
  · rcases h with rfl | rfl | rfl | rfl | rfl | rfl | rfl | rfl | rfl <;> rfl
  · have h1 : p ≠ 1 := by omega
    have h2 : p ≠ 20 := by omega
    have h3 : p ≠ 21 := by omega
    have h4 : p ≠ 26 := by omega
    have h5 : p ≠ 27 := by omega
    have h6 : p ≠ 28 := by omega
    have h7 : p ≠ 29 := by omega
    have h8 : p ≠ 30 := by omega
    have h9 : p ≠ 32 := by omega
    unfold wordsS wordsN
    simp [h1, h2, h3, h4, h5, h6, h7, h8, h9]
def strs (l : List ByteArray) : List Value := l.map Value.string
theorem strs_length (l : List ByteArray) : (strs l).length = l.length := by simp [strs]
end Go.Proofs.YtpbfdfpedpfemaaGreatDoor
