import Derived.Test.YtmlnpphblicghaaZQ
import Derived.Test.YtmlnpphblicghaaRowLeafQ
/- row.set. -/
namespace Go.Proofs.Ytmlnpphblicghaa
open Go Go.RowKit
set_option linter.unusedVariables false
set_option linter.unusedSimpArgs false
set_option maxRecDepth 20000
set_option maxHeartbeats 2000000

/-- A cell of a piece of the call's own written. -/
theorem own_putPc {w : World} {B0 n c g : Nat} {L : List Pc} (h : w.ownsRow B0 56 8 (.slice (some ⟨g, 0, none⟩) n c) n (L.flatMap pcC)) {m j : Nat} (hm : m < L.length) (hj : j < 8) {p : Addr} (hp : p = ⟨g, m * 8 + j, none⟩) (v : Value) (x : Pc) (hx : pcC x = (pcC L[m]).set j v) :
    (w.setCell p v).ownsRow B0 56 8 (.slice (some ⟨g, 0, none⟩) n c) n ((L.set m x).flatMap pcC) ∧ Only [g] w (w.setCell p v) := by
  subst hp
  have h1 := (h.stored (m * 8 + j) v).1
  rw [rec_set pcC_len j hj v L m hm x hx] at h1
  exact ⟨h1, (Only.refl _ w).setCell ⟨g, m * 8 + j, none⟩ (.inl (by simp)) _⟩
theorem Row.unown {w : World} {B0 n c : Nat} {A : Option Addr} {L : List Pc} (h : w.ownsRow B0 56 8 (.slice A n c) n (L.flatMap pcC)) : Row w w.heap.size A (L.flatMap pcC) := row_of_own h
theorem mid_set {f : Pc → Pc} (L0 R : List Pc) (i : Nat) (hi : i < R.length) : (L0 ++ (R.take i).map f ++ R.drop i).set (L0.length + i) (f R[i]) = L0 ++ (R.take (i + 1)).map f ++ R.drop (i + 1) := by
  rw [List.set_append_right _ _ (by simp; omega)]
  rw [List.drop_eq_getElem_cons hi, show L0.length + i - (L0 ++ (R.take i).map f).length = 0 by simp; omega, List.set_cons_zero, List.take_succ_eq_append_getElem hi, List.map_append, List.map_cons, List.map_nil]
  simp only [List.append_assoc, List.cons_append, List.nil_append]
theorem mid_get {f : Pc → Pc} (L0 R : List Pc) (i : Nat) (hi : i < R.length) : ∀ (h : L0.length + i < (L0 ++ (R.take i).map f ++ R.drop i).length), (L0 ++ (R.take i).map f ++ R.drop i)[L0.length + i] = R[i] := fun h => by
  have : (L0 ++ (R.take i).map f ++ R.drop i)[L0.length + i]? = some R[i] := by
    rw [List.getElem?_append_right (by simp; omega), show L0.length + i - (L0 ++ (R.take i).map f).length = 0 by simp; omega]
    simp [hi]
  rw [List.getElem?_eq_getElem h] at this
  exact Option.some.inj this
theorem mid_len {f : Pc → Pc} (L0 R : List Pc) (i : Nat) (hi : i ≤ R.length) : (L0 ++ (R.take i).map f ++ R.drop i).length = L0.length + R.length := by simp; omega
/-- What 'set' is handed: the rest of a row of the call's own. -/
theorem add_at (g q i : Nat) : (⟨g, q, none⟩ : Addr).add i = ⟨g, q + i, none⟩ := by unfold Addr.add; split <;> simp_all
theorem set_any (L0 R : List Pc) (g n c B0 : Nat) (ad : Addr) (cq ln : Nat) (X b : Int) (W : World) (had : ad = ⟨g, L0.length * 8, none⟩) (hO : W.ownsRow B0 56 8 (.slice (some ⟨g, 0, none⟩) n c) n ((L0 ++ R).flatMap pcC))
    (hX : ∀ p ∈ R, -9223372036854775808 ≤ p.x + X ∧ p.x + X < 9223372036854775808) (hh : ∀ p ∈ R, 0 ≤ p.h ∧ p.h ≤ 1073741824) (hb : 0 ≤ b ∧ b ≤ 2305843009213693952) (hl : R.length ≤ 1000000) :
    Calls Try.prog 43 #[.slice (some ad) R.length cq, .int .i64 ln, .int .i64 X, .int .i64 b] W fun e w' => e = .returned (.tuple #[]) ∧ w'.ownsRow B0 56 8 (.slice (some ⟨g, 0, none⟩) n c) n ((L0 ++ R.map (setP ln X b)).flatMap pcC) ∧ Only [g] W w' := by
  have HO0 := Lib.hid hO
  have HX := Lib.hid hX
  have HH := Lib.hid hh
  have HAD := Lib.hid had
  clear hO hX hh had
  go_enter Try.func43, Try.ntmps43
  go_wp2
  go_loopw [12] (fun v12 wr => ∃ i : Nat, v12 = .int .i64 i ∧ i ≤ R.length ∧ Hid (wr.ownsRow B0 56 8 (.slice (some ⟨g, 0, none⟩) n c) n ((L0 ++ (R.take i).map (setP ln X b) ++ R.drop i).flatMap pcC)) ∧ Hid (Only [g] W wr)) (fun v12 _ => R.length - (intOf v12).toNat)
  case atStart => exact ⟨0, rfl, Nat.zero_le _, Lib.hid (by simpa using HO0.out), Lib.hid (Only.refl _ _)⟩
  case round =>
    clear HO0
    obtain ⟨i, rfl, hi, HO, HB⟩ := hrel
    by_cases hlt : i < R.length
    · have hki : (i : Int) < R.length := by omega
      have hml := mid_len (f := setP ln X b) L0 R i hi
      have hmg := mid_get (f := setP ln X b) L0 R i hlt
      have HMS := Lib.hid (mid_set (f := setP ln X b) L0 R i hlt)
      have hpx := HX.out R[i] (List.getElem_mem hlt)
      have hph := HH.out R[i] (List.getElem_mem hlt)
      generalize L0 ++ (R.take i).map (setP ln X b) ++ R.drop i = cur at *
      have hm : L0.length + i < cur.length := by omega
      generalize hx0 : R[i] = x at *
      obtain ⟨xn, xx, xy, xw, xh, xf, xt, xl⟩ := x
      simp only at hpx hph
      have hpa : ad.add (i * 8) = ⟨g, (L0.length + i) * 8, none⟩ := by rw [HAD.out, add_at]; congr 1; omega
      have ce : ∀ j v, j < 8 → (pcC (⟨xn, xx, xy, xw, xh, xf, xt, xl⟩ : Pc))[j]? = some v → wr.cell? ⟨g, (L0.length + i) * 8 + j, none⟩ = some v := fun j v hj hv => by
        rw [HO.out.cellAt _ (by have := HO.out.1; rw [rec_len pcC_len] at this; omega), rec_get pcC_len cur (L0.length + i) hm j hj, hmg]; exact hv
      have fr : ∀ j, wr.frozen? ⟨g, (L0.length + i) * 8 + j, none⟩ = false := fun j => HO.out.frozenAt _
      have c1 := ce 1 _ (by decide) rfl
      have c4 := ce 4 _ (by decide) rfl
      have c2 := ce 2 _ (by decide) rfl
      have c7 := ce 7 _ (by decide) rfl
      have f7 := fr 7
      have f1 := fr 1
      have f2 := fr 2
      clear ce fr
      generalize hq : (L0.length + i) * 8 = q at *
      have UP := Lib.hid (fun w => up_any xh w (by omega) (by omega))
      have hub := upZ_bd xh hph.1
      have HP : Hid (∀ w', w' = ((wr.setCell ⟨g, q + 7, none⟩ (.int .i64 ln)).setCell ⟨g, q + 1, none⟩ (.int .i64 (xx + X))).setCell ⟨g, q + 2, none⟩ (.int .i64 (b - upZ xh)) → w'.ownsRow B0 56 8 (.slice (some ⟨g, 0, none⟩) n c) n ((L0 ++ (R.take (i + 1)).map (setP ln X b) ++ R.drop (i + 1)).flatMap pcC) ∧ Only [g] W w') := Lib.hid (by
        rintro w' rfl
        have hx1 := hmg hm
        obtain ⟨o1, k1⟩ := own_putPc HO.out hm (show 7 < 8 by decide) (p := ⟨g, q + 7, none⟩) (by rw [← hq]) (.int .i64 ln) ⟨xn, xx, xy, xw, xh, xf, xt, ln⟩ (by rw [hx1]; rfl)
        obtain ⟨o2, k2⟩ := own_putPc o1 (m := L0.length + i) (by rw [List.length_set]; exact hm) (show 1 < 8 by decide) (p := ⟨g, q + 1, none⟩) (by rw [← hq]) (.int .i64 (xx + X)) ⟨xn, xx + X, xy, xw, xh, xf, xt, ln⟩ (by rw [List.getElem_set_self]; rfl)
        obtain ⟨o3, k3⟩ := own_putPc o2 (m := L0.length + i) (by rw [List.length_set, List.length_set]; exact hm) (show 2 < 8 by decide) (p := ⟨g, q + 2, none⟩) (by rw [← hq]) (.int .i64 (b - upZ xh)) ⟨xn, xx + X, b - upZ xh, xw, xh, xf, xt, ln⟩ (by rw [List.getElem_set_self]; rfl)
        rw [List.set_set, List.set_set] at o3
        have hms := HMS.out
        simp only [setP] at hms
        rw [hms] at o3
        exact ⟨o3, ((HB.out.then k1).then k2).then k3⟩)
      clear HO HB HMS hmg hm hml
      go_upto_region 6 with fail
      go_wp2_with fail
      refine (UP.out _).mono ?_
      rintro e w' ⟨rfl, rfl⟩
      clear UP
      generalize upZ xh = uu at *
      go_wp2_with fail
      obtain ⟨o1, k1⟩ := HP.out _ rfl
      go_roundw
      case rel => exact ⟨i + 1, by go_num, by omega, Lib.hid o1, Lib.hid k1⟩
      case measure => simp [intOf]; omega
    · have hki : ¬ (i : Int) < R.length := by omega
      have HE : Hid (W = W ∧ wr.ownsRow B0 56 8 (.slice (some ⟨g, 0, none⟩) n c) n ((L0 ++ R.map (setP ln X b)).flatMap pcC)) := Lib.hid (by
        have h := HO.out
        rw [List.take_of_length_le (by omega), List.drop_eq_nil_of_le (by omega), List.append_nil] at h
        exact ⟨rfl, h⟩)
      clear HO
      go_wp2
      exact bodyPost_end (v := .tuple #[]) (results_none (by kernel_rfl) _ _ _) rfl ⟨rfl, by first | exact HE.out.2 | (rw [← List.flatMap_append]; exact HE.out.2), HB.out⟩
end Go.Proofs.Ytmlnpphblicghaa
