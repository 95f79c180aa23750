import Derived.Test.YteaenomfighaoaaAlLaw
import Derived.Test.YteaenomfighaoaaCrNum
/- What AlongGaps asks, as numbers. No program is named here. -/
namespace Go.Proofs.Yteaenomfighaoaa
open Go.RowKit
set_option linter.unusedVariables false
set_option linter.unusedSimpArgs false

/-- A bare item of a size. -/
def bareA (z : Int) : Al := ⟨0, 0, false, false, z⟩
/-- Items with no margins, of these sizes. -/
def Sized (us : List Al) (zs : List Int) : Prop := us.map (fun x => (x.b, x.a, x.s)) = zs.map (fun z => ((0 : Int), (0 : Int), z))
theorem Sized.len {us : List Al} {zs : List Int} (h : Sized us zs) : us.length = zs.length := by have := congrArg List.length h; simpa using this
theorem Sized.at_ {us : List Al} {zs : List Int} (h : Sized us zs) {k : Nat} (hu : k < us.length) (hz : k < zs.length) : us[k].b = 0 ∧ us[k].a = 0 ∧ us[k].s = zs[k] := by
  have e : (us.map (fun x => (x.b, x.a, x.s)))[k]? = (zs.map (fun z => ((0 : Int), (0 : Int), z)))[k]? := by rw [h]
  rw [List.getElem?_map, List.getElem?_map, List.getElem?_eq_getElem hu, List.getElem?_eq_getElem hz] at e
  simp only [Option.map_some, Option.some.injEq, Prod.mk.injEq] at e
  exact e
theorem sized_bare : ∀ zs : List Int, Sized (zs.map bareA) zs
  | [] => rfl
  | z :: zs => by have := sized_bare zs; unfold Sized at *; simp only [List.map_cons]; rw [this]; rfl
theorem bare_auto : ∀ zs : List Int, autosA (zs.map bareA) = 0
  | [] => rfl
  | z :: zs => by have := bare_auto zs; unfold autosA at *; simp only [List.map_cons, List.sum_cons]; rw [this]; rfl
theorem sized_need : ∀ (us : List Al) (zs : List Int), Sized us zs → needA us = zs.sum
  | [], [], _ => rfl
  | [], z :: zs, h => by simp [Sized] at h
  | u :: us, [], h => by simp [Sized] at h
  | u :: us, z :: zs, h => by
    unfold Sized at h
    simp only [List.map_cons, List.cons.injEq, Prod.mk.injEq] at h
    have := sized_need us zs h.2
    rw [needA_cons, List.sum_cons, this]; omega
theorem sized_ok {us : List Al} {zs : List Int} (h : Sized us zs) (hz : ∀ z ∈ zs, 0 ≤ z ∧ z < 50) : ∀ x ∈ us, AlOk x := fun x hx => by
  obtain ⟨k, hk, rfl⟩ := List.getElem_of_mem hx
  have hkz : k < zs.length := by rw [← h.len]; exact hk
  obtain ⟨h1, h2, h3⟩ := h.at_ hk hkz
  have := hz _ (List.getElem_mem hkz)
  exact ⟨by omega, by omega, by omega, by omega, by omega, by omega, fun _ => by omega, fun _ => by omega⟩
section
variable {us : List Al} {zs : List Int} {t j : Int} {n : Nat}
/-- One step: what lies between two that follow each other. -/
theorem step_gap (h : Sized us zs) {i : Nat} (hu : i + 1 < us.length) (hz : i < zs.length) : posA t us j (i + 1) - posA t us j i - zs[i] = gap2 t us j i + gap1 t us j (i + 1) := by
  have h1 := h.at_ (show i < us.length by omega) hz
  have h2 := h.at_ hu (by rw [← h.len]; exact hu)
  have := posA_succ (f := t) (j := j) hu
  omega
theorem first_is (h : Sized us zs) (hu : 0 < us.length) : posA t us j 0 = startA t us j + gap1 t us j 0 := by
  have h2 := h.at_ hu (by rw [← h.len]; exact hu)
  have := posA_zero (f := t) (j := j) hu
  omega
theorem last_is (h : Sized us zs) {k : Nat} (hu : us.length = k + 1) (hz : k < zs.length) : posA t us j k + zs[k] = atA t us j (k + 1) - gap2 t us j k := by
  have h1 := h.at_ (show k < us.length by omega) hz
  have := atA_succ t us j (show k < us.length by omega)
  omega
end
/-- Where none is automatic. -/
structure WayF (t j : Int) (zs : List Int) (n : Nat) (P : List Int) : Prop where
  gap : ∀ (i : Nat) (hz : i < zs.length) (h : i < P.length) (h' : i + 1 < P.length), (j < 3 → P[i + 1] - P[i] - zs[i] = 0) ∧ (j = 3 → t / ((n : Int) - 1) ≤ P[i + 1] - P[i] - zs[i] ∧ P[i + 1] - P[i] - zs[i] ≤ t / ((n : Int) - 1) + 1) ∧
    (j = 4 → 2 * (t / (2 * (n : Int))) ≤ P[i + 1] - P[i] - zs[i] ∧ P[i + 1] - P[i] - zs[i] ≤ 2 * (t / (2 * (n : Int))) + 2)
  fst : ∀ h : 0 < P.length, (j = 0 ∨ j = 3 → P[0] = 0) ∧ (j = 2 → P[0] = t / 2)
  lst : ∀ (k : Nat) (h : k < P.length) (hz : k < zs.length), n = k + 1 → (j = 1 → P[k] + zs[k] = t + zs.sum) ∧ (j = 2 → P[k] + zs[k] = t / 2 + zs.sum) ∧ (j = 3 → 1 < n → P[k] + zs[k] = t + zs.sum)
theorem wayF_of {t j : Int} {zs : List Int} {n : Nat} {P : List Int} (hn : zs.length = n) (ht : 0 < t) (ht2 : t ≤ 1152921504606846976) (hn5 : n ≤ 500) (hP : placeA (zs.sum + t) (zs.map bareA) j false = P) : WayF t j zs n P := by
  have S := sized_bare zs
  have ha := bare_auto zs
  have hl : (zs.map bareA).length = n := by rw [List.length_map, hn]
  have hf : freeA (zs.sum + t) (zs.map bareA) = t := by unfold freeA; rw [sized_need _ _ S]; omega
  have hp : P.length = n := by rw [← hP, placeA_len, hl]
  have at_ : ∀ (k : Nat) (h : k < P.length), P[k] = posA t (zs.map bareA) j k := fun k h => by
    have := placeA_at hP (show k < (zs.map bareA).length by omega) h
    rw [hf] at this
    simpa using this
  refine ⟨fun i hz h h' => ?_, fun h => ?_, fun k h hz hk => ?_⟩
  · rw [at_ _ h, at_ _ h', step_gap S (by omega) hz]
    have := way_gap (f := t) (j := j) ht ht2 (show (zs.map bareA).length ≤ 500 by omega) ha (k := i) (by omega)
    rw [hl] at this
    exact this
  · rw [at_ _ h, first_is S (by omega)]
    have := way_ends (f := t) (j := j) ht ht2 (show (zs.map bareA).length ≤ 500 by omega) ha (n := n - 1) (by omega)
    exact ⟨this.1, fun h => (this.2.2.1 h).1⟩
  · rw [at_ _ h, last_is S (by omega) hz]
    have := way_ends (f := t) (j := j) ht ht2 (show (zs.map bareA).length ≤ 500 by omega) ha (n := k) (by omega)
    rw [sized_need _ _ S, hl] at this
    exact ⟨this.2.1, fun h => (this.2.2.1 h).2, fun h h2 => this.2.2.2 h h2⟩
/-- Where some are. -/
structure AutF (t : Int) (us : List Al) (zs : List Int) (m : Nat) (Q : List Int) : Prop where
  gap : 0 < m → ∀ (i : Nat) (hz : i < zs.length) (hu : i < us.length) (hu' : i + 1 < us.length) (h : i < Q.length) (h' : i + 1 < Q.length), us[i + 1].ab = false → us[i].aa = false → Q[i + 1] - Q[i] - zs[i] = 0
  fst : 0 < m → ∀ (hu : 0 < us.length) (h : 0 < Q.length), (us[0].ab = false → Q[0] = 0) ∧ (us[0].ab = true → t / (m : Int) ≤ Q[0] ∧ Q[0] ≤ t / (m : Int) + 1)
theorem autF_of {t j : Int} {us : List Al} {zs : List Int} {n m : Nat} {Q : List Int} (S : Sized us zs) (hn : zs.length = n) (ht : 0 < t) (ht2 : t ≤ 1152921504606846976) (hn5 : n ≤ 500) (hm : m = autosA us) (hQ : placeA (zs.sum + t) us j false = Q) : AutF t us zs m Q := by
  have hl : us.length = n := by rw [S.len, hn]
  have hf : freeA (zs.sum + t) us = t := by unfold freeA; rw [sized_need _ _ S]; omega
  have hq : Q.length = n := by rw [← hQ, placeA_len, hl]
  have at_ : ∀ (k : Nat) (h : k < Q.length), Q[k] = posA t us j k := fun k h => by
    have := placeA_at hQ (show k < us.length by omega) h
    rw [hf] at this
    simpa using this
  refine ⟨fun h0 i hz hu hu' h h' h1 h2 => ?_, fun h0 hu h => ?_⟩
  · rw [at_ _ h, at_ _ h', step_gap S hu' hz]
    have g1 := (auto_gap (f := t) (j := j) ht (by omega) hu').1 h1
    have g2 := (auto_gap (f := t) (j := j) ht (by omega) hu).2 h2
    omega
  · rw [at_ _ h, first_is S hu, auto_start ht (by omega)]
    refine ⟨fun hb => ?_, fun hb => ?_⟩
    · have := (auto_gap (f := t) (j := j) ht (by omega) hu).1 hb
      omega
    · have := (auto_first (f := t) (j := j) ht ht2 (by omega) (by omega) hu hb).2
      rw [← hm] at this
      omega
theorem place_bd {t j : Int} {us : List Al} {zs : List Int} {n : Nat} {Q : List Int} (S : Sized us zs) (hz : ∀ z ∈ zs, 0 ≤ z ∧ z < 50) (hn : zs.length = n) (ht : 0 < t) (ht2 : t ≤ 1024) (hn5 : n ≤ 100) (hQ : placeA (zs.sum + t) us j false = Q) : ∀ (k : Nat) (h : k < Q.length), -2000000000000000 ≤ Q[k] ∧ Q[k] ≤ 2000000000000000 := fun k h => by
  have hl : us.length = n := by rw [S.len, hn]
  have hf : freeA (zs.sum + t) us = t := by unfold freeA; rw [sized_need _ _ S]; omega
  have hq : Q.length = n := by rw [← hQ, placeA_len, hl]
  have := placeA_at hQ (show k < us.length by omega) h
  rw [hf] at this
  have e : Q[k] = posA t us j k := by simpa using this
  obtain ⟨-, -, -, -, -, -, h1, h2⟩ := posA_bd (f := t) (j := j) (sized_ok S hz) (by omega) (by omega) (show k < us.length by omega)
  rw [e]; exact ⟨h1, h2⟩
end Go.Proofs.Yteaenomfighaoaa
