import Derived.Test.YtjhmdflagkenbaaSizeBndQ
/- How wide a block is: numbers. No program is named here. -/
namespace Go.Proofs.Ytjhmdflagkenbaa
open Go Go.RowKit
set_option linter.unusedVariables false
set_option linter.unusedSimpArgs false

def sidZ (k n base : Int) : Int := if k = 1 then n else if k = 2 then pctZ base n else 0
def sidB (k : Int) : Bool := decide (k = 1 ∨ k = 2)
def edgZ (st : List Int) (i : Nat) : Int := heldT (st.getD (31 + i) 0 + st.getD (35 + i) 0)
def befZ (st : List Int) (base : Int) : Int := sidZ (st.getD 29 0) (st.getD 30 0) base
def aftZ (st : List Int) (base : Int) : Int := sidZ (st.getD 25 0) (st.getD 26 0) base
def wroomZ (st : List Int) (base : Int) : Int := base - (befZ st base + edgZ st 3 + edgZ st 1 + aftZ st base)
def wtoldZ (st : List Int) (base : Int) : Int := if st.getD 9 0 = 0 then heldT (wroomZ st base) else sidZ (st.getD 9 0) (st.getD 10 0) base
def wwZ (st : List Int) (base : Int) : Int := clampZ (wtoldZ st base) (minZ st false base) (maxZ st false base)
def wgetsZ (st : List Int) (over : Int) : Int := if over < 0 ∨ st.getD 29 0 ≠ 0 then 0 else if st.getD 25 0 = 0 then over / 2 else over
def woverZ (st : List Int) (base : Int) : Int := wroomZ st base - wwZ st base
def wleftZ (st : List Int) (base : Int) : Int := heldT (wgetsZ st (woverZ st base) + befZ st base)
def wrightZ (st : List Int) (base : Int) : Int := heldT (woverZ st base - wgetsZ st (woverZ st base) + aftZ st base)
def whiB (st : List Int) (base : Int) : Bool := sidB (st.getD 11 0) && !(st.getD 11 0 == 2 && decide (base < 0))
def whiZ (st : List Int) (base : Int) : Int := if whiB st base = true then clampZ (sidZ (st.getD 11 0) (st.getD 12 0) base) (minZ st true base) (maxZ st true base) else 0
theorem heldT_bd (n : Int) : I64 (heldT n) := by unfold heldT I64; split <;> (try split) <;> omega
theorem sidZ_bd (k n base : Int) (hn : I64 n) : I64 (sidZ k n base) := by
  unfold sidZ; split
  · exact hn
  · split
    · exact pctZ_bd _ _
    · unfold I64; omega
theorem edgZ_bd (st : List Int) (i : Nat) : I64 (edgZ st i) := heldT_bd _
theorem befZ_bd (st : List Int) (hz : ∀ z ∈ st, I64 z) (base : Int) : I64 (befZ st base) := sidZ_bd _ _ _ (st_in hz _)
theorem aftZ_bd (st : List Int) (hz : ∀ z ∈ st, I64 z) (base : Int) : I64 (aftZ st base) := sidZ_bd _ _ _ (st_in hz _)
theorem wtoldZ_bd (st : List Int) (hz : ∀ z ∈ st, I64 z) (base : Int) : I64 (wtoldZ st base) := by
  unfold wtoldZ; split
  · exact heldT_bd _
  · exact sidZ_bd _ _ _ (st_in hz _)
theorem wwZ_bd (st : List Int) (hz : ∀ z ∈ st, I64 z) (base : Int) : I64 (wwZ st base) := clampZ_bd _ _ _ (wtoldZ_bd st hz _) (minZ_bd st hz _ _) (maxZ_bd st hz _ _)
/-- Sums on the way, far within 128 bits. -/
def Sm (n : Int) : Prop := -1000000000000000000000 ≤ n ∧ n ≤ 1000000000000000000000
theorem Sm.tot {n : Int} (h : Sm n) : Tot n := by unfold Sm Tot at *; omega
theorem wroom_sm (st : List Int) (hz : ∀ z ∈ st, I64 z) (base : Int) (hb : I64 base) : Sm (wroomZ st base) := by
  have h1 := befZ_bd st hz base
  have h2 := aftZ_bd st hz base
  have h3 := edgZ_bd st 3
  have h4 := edgZ_bd st 1
  unfold wroomZ Sm I64 at *; omega
theorem wover_sm (st : List Int) (hz : ∀ z ∈ st, I64 z) (base : Int) (hb : I64 base) : -500000000000000000000 ≤ woverZ st base ∧ woverZ st base ≤ 500000000000000000000 := by
  have h0 := wwZ_bd st hz base
  have h1 := befZ_bd st hz base
  have h2 := aftZ_bd st hz base
  have h3 := edgZ_bd st 3
  have h4 := edgZ_bd st 1
  unfold woverZ wroomZ I64 at *; omega
theorem wgets_sm (st : List Int) (v : Int) (h : -500000000000000000000 ≤ v ∧ v ≤ 500000000000000000000) : -500000000000000000000 ≤ wgetsZ st v ∧ wgetsZ st v ≤ 500000000000000000000 := by
  unfold wgetsZ; split
  · omega
  · split <;> omega
/-- The equation, part by part. -/
theorem width_is (st : List Int) (base b a e3 e1 lo hi t w g : Int) (hb : befZ st base = b) (ha : aftZ st base = a) (h3 : edgZ st 3 = e3) (h1 : edgZ st 1 = e1) (hlo : minZ st false base = lo) (hhi : maxZ st false base = hi)
    (ht : (if st.getD 9 0 = 0 then heldT (base - (b + e3 + e1 + a)) else sidZ (st.getD 9 0) (st.getD 10 0) base) = t) (hw : clampZ t lo hi = w) (hg : wgetsZ st (base - (b + e3 + e1 + a) - w) = g) :
    wleftZ st base = heldT (g + b) ∧ wwZ st base = w ∧ wrightZ st base = heldT (base - (b + e3 + e1 + a) - w - g + a) := by
  have r : wroomZ st base = base - (b + e3 + e1 + a) := by unfold wroomZ; rw [hb, ha, h3, h1]
  have t' : wtoldZ st base = t := by unfold wtoldZ; rw [r, ht]
  have w' : wwZ st base = w := by unfold wwZ; rw [t', hlo, hhi, hw]
  have v : woverZ st base = base - (b + e3 + e1 + a) - w := by unfold woverZ; rw [r, w']
  refine ⟨?_, w', ?_⟩
  · unfold wleftZ; rw [v, hg, hb]
  · unfold wrightZ; rw [v, hg, ha]
end Go.Proofs.Ytjhmdflagkenbaa
