import Derived.Test.YtfmcabgcckllcaaNumSpec
import Derived.Test.YtfmcabgcckllcaaPx
import Derived.Laws.Strings
import Derived.Lib.IndexBytes
/- Lengths and whole numbers of texts, as the document has them. No program is named here. -/
namespace Go.Proofs.Ytfmcabgcckllcaa
set_option linter.unusedVariables false
set_option linter.unusedSimpArgs false
open Go Go.RowKit

def restIs (l : List UInt8) (r : Nat) (t : List UInt8) : Bool := l.drop r == t
def pixR (l : List UInt8) : Option Int := if l = [48] then some 0 else match numZ l 5 3 with
  | some (v, r) => if restIs l r [112, 120] = true then some (pxZ v) else none
  | none => none
def pctR (l : List UInt8) : Option Int := match numZ l 4 2 with
  | some (v, r) => if restIs l r [37] = true then some v else none
  | none => none
def lenR (l : List UInt8) : Option (Int × Int) := match pixR l with
  | some v => some (1, v)
  | none => match pctR l with
    | some v => some (2, v)
    | none => none
def wholeR (l : List UInt8) (lo hi : Int) : Option Int := match numZ l 4 0 with
  | some (v, r) => if restIs l r [] = true ∧ lo ≤ v ∧ v ≤ hi then some v else none
  | none => none
theorem eq_bytes (s : ByteArray) (t : List UInt8) : (s.toList == t) = (bytesOf s == t) := by rw [ByteArray.toList_eq]; rfl
theorem rest_bytes (s : ByteArray) (r : Nat) (t : List UInt8) : ((s.extract r s.size).toList == t) = restIs (bytesOf s) r t := by
  rw [ByteArray.toList_eq, Lib.extract_to_end]; rfl
theorem times_bd (v : Int) (j : Nat) (h0 : 0 ≤ v) (h1 : v ≤ 99999999) (h : j ≤ 3) : 0 ≤ v * 10 ^ j ∧ v * 10 ^ j ≤ 99999999000 := by
  rcases (show j = 0 ∨ j = 1 ∨ j = 2 ∨ j = 3 by omega) with rfl | rfl | rfl | rfl <;> omega
theorem sign_bd (ng : Bool) (v : Int) (h0 : 0 ≤ v) (h1 : v ≤ 99999999000) : -99999999000 ≤ signZ ng v ∧ signZ ng v ≤ 99999999000 := by
  cases ng <;> simp [signZ] <;> omega
theorem numZ_bd {l : List UInt8} {ah bh : Nat} {v : Int} {r : Nat} (ha : ah ≤ 5) (hb : bh ≤ 3) (h : numZ l ah bh = some (v, r)) : -99999999000 ≤ v ∧ v ≤ 99999999000 := by
  unfold numZ at h
  simp only at h
  split at h
  · cases h
  · rename_i h1
    have d := digV_first l (negB l).toNat (rowN isDig l (negB l).toNat) (by omega) (Nat.le_refl _)
    split at h
    · split at h
      · cases h
      · rename_i h2 h3
        injection h with h
        injection h with h4 h5
        have e := digV_next l ((negB l).toNat + rowN isDig l (negB l).toNat + 1) (rowN isDig l ((negB l).toNat + rowN isDig l (negB l).toNat + 1)) _ d.1 d.2 (by omega) (Nat.le_refl _)
        have t := times_bd _ (bh - rowN isDig l ((negB l).toNat + rowN isDig l (negB l).toNat + 1)) e.1 e.2 (by omega)
        rw [← h4]
        exact sign_bd _ _ t.1 t.2
    · injection h with h
      injection h with h4 h5
      have t := times_bd _ bh d.1 (by omega) hb
      rw [← h4]
      exact sign_bd _ _ t.1 t.2
end Go.Proofs.Ytfmcabgcckllcaa
