import Derived.Test.YteaenomfighaoaaAlLaw
/- The gaps of items along a line as a list. No program is named here. -/
namespace Go.Proofs.Yteaenomfighaoaa
open Go.RowKit
set_option linter.unusedVariables false
set_option linter.unusedSimpArgs false

def gapT (f : Int) (l : List Al) (j : Int) (t : Nat) : Int := if t < 2 * l.length then (if t % 2 = 0 then gap1 f l j (t / 2) else gap2 f l j (t / 2)) else 0
/-- Two gaps an item, and one more. -/
def gapL (f : Int) (l : List Al) (j : Int) : List Int := (List.range (2 * l.length + 1)).map (gapT f l j)
theorem gapL_len (f : Int) (l : List Al) (j : Int) : (gapL f l j).length = 2 * l.length + 1 := by simp [gapL]
theorem gapV_len (f : Int) (l : List Al) (j : Int) {N : Nat} (h : 2 * l.length + 1 = N) : (i64s (gapL f l j)).length = N := by rw [i64s_length, gapL_len, h]
theorem gapV_get (f : Int) (l : List Al) (j : Int) {t : Nat} (h : t < 2 * l.length + 1) : (i64s (gapL f l j))[t]? = some (.int .i64 (gapT f l j t)) := by simp [i64s, gapL, h]
theorem gapT_1 (f : Int) (l : List Al) (j : Int) {k : Nat} (h : k < l.length) : gapT f l j (2 * k) = gap1 f l j k := by
  unfold gapT; rw [if_pos (by omega), if_pos (by omega), Nat.mul_div_cancel_left _ (by decide)]
theorem gapT_2 (f : Int) (l : List Al) (j : Int) {k : Nat} (h : k < l.length) : gapT f l j (2 * k + 1) = gap2 f l j k := by
  unfold gapT; rw [if_pos (by omega), if_neg (by omega), show (2 * k + 1) / 2 = k by omega]
theorem gapT_end (f : Int) (l : List Al) (j : Int) {t : Nat} (h : 2 * l.length ≤ t) : gapT f l j t = 0 := by unfold gapT; rw [if_neg (by omega)]
def noneV (N : Nat) : List Value := List.replicate N (.int .i64 0)
theorem noneV_len (N : Nat) : (noneV N).length = N := List.length_replicate
theorem noneV_get {N t : Nat} (h : t < N) : (noneV N)[t]? = some (.int .i64 0) := by simp [noneV, h]
/-- Its first t are told. -/
def gapM (f : Int) (l : List Al) (j : Int) (N t : Nat) : List Value := mixL (i64s (gapL f l j)) (noneV N) t
section
variable {f : Int} {l : List Al} {j : Int} {N : Nat}
theorem gapM_len (h : 2 * l.length + 1 = N) {t : Nat} (ht : t ≤ N) : (gapM f l j N t).length = N := by
  unfold gapM
  rw [mixL_len (by rw [gapV_len f l j h, noneV_len]) (by rw [noneV_len]; exact ht), noneV_len]
theorem gapM_zero : gapM f l j N 0 = noneV N := mixL_zero _ _
theorem gapM_set (h : 2 * l.length + 1 = N) {t : Nat} (ht : t < N) {z : Int} (hz : gapT f l j t = z) : (gapM f l j N t).set t (.int .i64 z) = gapM f l j N (t + 1) := by
  have h1 : (i64s (gapL f l j)).length = (noneV N).length := by rw [gapV_len f l j h, noneV_len]
  have h2 : t < (noneV N).length := by rw [noneV_len]; exact ht
  have h3 := mixL_set h1 h2
  have h4 : (i64s (gapL f l j))[t]'(by omega) = .int .i64 z := by
    have := gapV_get f l j (t := t) (by omega)
    rw [List.getElem?_eq_getElem (by omega)] at this
    injection this with e
    rw [e, hz]
  rw [h4] at h3
  exact h3
theorem gapM_stay (h : 2 * l.length + 1 = N) {t : Nat} (ht : t < N) (hz : gapT f l j t = 0) : gapM f l j N (t + 1) = gapM f l j N t := by
  have h1 : (i64s (gapL f l j)).length = (noneV N).length := by rw [gapV_len f l j h, noneV_len]
  have h2 : t < (noneV N).length := by rw [noneV_len]; exact ht
  refine mixL_same h1 h2 ?_
  have e1 := gapV_get f l j (t := t) (by omega)
  have e2 := noneV_get ht
  rw [List.getElem?_eq_getElem (by omega)] at e1 e2
  injection e1 with e1
  injection e2 with e2
  rw [e1, e2, hz]
theorem gapM_all (h : 2 * l.length + 1 = N) {t : Nat} (ht : t ≤ N) (hz : ∀ k, t ≤ k → k < N → gapT f l j k = 0) : gapM f l j N t = i64s (gapL f l j) := by
  have h1 : (i64s (gapL f l j)).length = (noneV N).length := by rw [gapV_len f l j h, noneV_len]
  have key : ∀ d, t + d ≤ N → gapM f l j N (t + d) = gapM f l j N t := by
    intro d
    induction d with
    | zero => intro _; rfl
    | succ d ih => intro hd; rw [← Nat.add_assoc, gapM_stay h (by omega) (hz _ (by omega) (by omega)), ih (by omega)]
  have h3 := key (N - t) (by omega)
  rw [show t + (N - t) = N by omega] at h3
  rw [← h3]
  unfold gapM
  have := mixL_all h1
  rwa [noneV_len] at this
theorem gapT_none (ha : isAuto f l = false) (h : ¬ (j = 3 ∧ 0 < f ∧ 1 < l.length)) (h' : ¬ (j = 4 ∧ 0 < f)) (t : Nat) : gapT f l j t = 0 := by
  have e := gaps_none ha h h' (t / 2)
  unfold gapT
  rw [e.1, e.2]
  split <;> (try split) <;> rfl
end
theorem ones_part {f : Int} {m : Nat} (h0 : 0 < f) (h1 : f ≤ 1152921504606846976) (hm : m ≤ 1000) : (shareZ f (onesA m)).length = m ∧ ∀ k (h : k < (shareZ f (onesA m)).length), (shareZ f (onesA m))[k] = partA f m k := by
  have F := onesA_facts (by omega : 0 ≤ f) h1 hm
  exact ⟨by rw [F.length, onesA_len], fun k h => F.get k h⟩
end Go.Proofs.Yteaenomfighaoaa
