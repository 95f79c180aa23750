import Derived.Test.YtncaichachipkaaTotalQ
import Derived.Test.YtncaichachipkaaZQ
/- size: bounds, as numbers. No program is named here. -/
namespace Go.Proofs.Ytncaichachipkaa
open Go Go.RowKit
set_option linter.unusedVariables false
set_option linter.unusedSimpArgs false
set_option maxRecDepth 20000
set_option maxHeartbeats 4000000

def boundZ (k n base : Int) : Int := if k = 1 then max 0 n else if k = 2 ∧ 0 ≤ base then max 0 (pctZ base n) else 0
def capZ (k n base : Int) : Int := if k = 0 ∨ (k = 2 ∧ base < 0) then -1 else boundZ k n base
def minZ (st : List Int) (high : Bool) (base : Int) : Int := if high then boundZ (st.getD 15 0) (st.getD 16 0) base else boundZ (st.getD 13 0) (st.getD 14 0) base
def maxZ (st : List Int) (high : Bool) (base : Int) : Int := if high then capZ (st.getD 19 0) (st.getD 20 0) base else capZ (st.getD 17 0) (st.getD 18 0) base
def clampZ (n lo hi : Int) : Int := max (max 0 lo) (if 0 ≤ hi then min n hi else n)
theorem st_in {st : List Int} (hz : ∀ z ∈ st, I64 z) (i : Nat) : I64 (st.getD i 0) := by
  by_cases h : i < st.length
  · rw [List.getD_eq_getElem?_getD, List.getElem?_eq_getElem h]; exact hz _ (List.getElem_mem h)
  · rw [List.getD_eq_getElem?_getD, List.getElem?_eq_none (by omega)]; unfold I64; simp
theorem boundZ_bd (k n base : Int) (hn : I64 n) (hp : I64 (pctZ base n)) : I64 (boundZ k n base) := by unfold boundZ I64 at *; split <;> (try split) <;> omega
theorem pctZ_bd (b h : Int) : I64 (pctZ b h) := by
  have := hold_bd (nearZ (holdZ b * max (-1000000000) (min h 1000000000)) 10000)
  unfold pctZ I64; omega
theorem minZ_bd (st : List Int) (hz : ∀ z ∈ st, I64 z) (h : Bool) (b : Int) : I64 (minZ st h b) := by
  unfold minZ; split
  · exact boundZ_bd _ _ _ (st_in hz _) (pctZ_bd _ _)
  · exact boundZ_bd _ _ _ (st_in hz _) (pctZ_bd _ _)
theorem capZ_bd (k n base : Int) (hn : I64 n) (hp : I64 (pctZ base n)) : I64 (capZ k n base) := by
  unfold capZ; split
  · unfold I64; omega
  · exact boundZ_bd _ _ _ hn hp
theorem maxZ_bd (st : List Int) (hz : ∀ z ∈ st, I64 z) (h : Bool) (b : Int) : I64 (maxZ st h b) := by
  unfold maxZ; split
  · exact capZ_bd _ _ _ (st_in hz _) (pctZ_bd _ _)
  · exact capZ_bd _ _ _ (st_in hz _) (pctZ_bd _ _)
theorem clampZ_bd (n lo hi : Int) (h1 : I64 n) (h2 : I64 lo) (h3 : I64 hi) : I64 (clampZ n lo hi) := by unfold clampZ I64 at *; omega
end Go.Proofs.Ytncaichachipkaa
