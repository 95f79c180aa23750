import Derived.Test.YtpbfdfpedpfemaaGreatDoorTreeGet
import Derived.Test.YtpbfdfpedpfemaaGreatDoorRowDec
/- tree.isFit, isRoot. What decl.Text answers of a declaration is a premise here (UntoldOK). -/
namespace Go.Proofs.YtpbfdfpedpfemaaGreatDoor
open Go Go.RowKit
set_option linter.unusedVariables false
set_option linter.unusedSimpArgs false
set_option maxRecDepth 20000
set_option maxHeartbeats 1000000

def decC (d : Dc) : Value := .agg #[.int .i64 d.p, .int .i64 d.w, .int .i64 d.k, .int .i64 d.n]
def UntoldOK (d : Dc) : Prop := ∀ w, Calls Tryz.prog 71 #[decC d] w fun e w' => e = .returned (.bool (!mayZ d.p d.w d.k d.n)) ∧ Below w.heap.size w w'
theorem indexFunc_any (sv : Value) (l : List Dc) (hU : ∀ d ∈ l, UntoldOK d) (W : World) (h : StyAt W sv l) :
    Calls Tryz.prog 78 #[sv, .func (.func 71) #[] #[]] W fun e w' => ∃ i : Int, e = .returned (.int .i64 i) ∧ decide (0 ≤ i) = l.any (fun d => !mayZ d.p d.w d.k d.n) ∧ Below W.heap.size W w' := by
  obtain ⟨A, c, rfl, hR, hl, -⟩ := h
  have HR := Lib.hid hR
  have HU := Lib.hid hU
  clear hR hU
  go_enter Tryz.func78, Tryz.ntmps78
  go_wp2
  go_loopw [5, 8] (fun v5 v8 wr => ∃ k : Nat, k ≤ l.length ∧ v8 = .int .i64 k ∧ Hid ((l.take k).any (fun d => !mayZ d.p d.w d.k d.n) = false) ∧ Hid (Below W.heap.size W wr)) (fun v5 v8 _ => l.length - (intOf v8).toNat)
  case atStart => exact ⟨0, Nat.zero_le _, rfl, Lib.hid rfl, Lib.hid (Below.refl _ _)⟩
  case round =>
    obtain ⟨k, hk, rfl, ht, hb⟩ := hrel
    by_cases hlt : k < l.length
    · obtain ⟨ad, rfl, hb2, r0, r1, r2, r3⟩ := (HR.out.below hb.out).dec hlt
      have U := Lib.hid (HU.out l[k] (List.getElem_mem hlt) wr)
      unfold decC at U
      have TK := Lib.hid (show (l.take (k + 1)).any (fun d => !mayZ d.p d.w d.k d.n) = ((l.take k).any (fun d => !mayZ d.p d.w d.k d.n) || !mayZ l[k].p l[k].w l[k].k l[k].n) by rw [List.take_succ_eq_append_getElem hlt, List.any_append]; simp)
      have AN := Lib.hid (show (!mayZ l[k].p l[k].w l[k].k l[k].n) = true → l.any (fun d => !mayZ d.p d.w d.k d.n) = true from fun h => List.any_eq_true.2 ⟨l[k], List.getElem_mem hlt, h⟩)
      generalize (!mayZ l[k].p l[k].w l[k].k l[k].n) = u at *
      generalize l[k].p = z0 at *
      generalize l[k].w = z1 at *
      generalize l[k].k = z2 at *
      generalize l[k].n = z3 at *
      go_wp2_with fail
      refine U.out.mono ?_
      rintro e w2 ⟨rfl, hb3⟩
      have B3 := Lib.hid (hb.out.trans (hb3.mono hb.out.size))
      clear hb3 r0 r1 r2 r3
      cases u
      · have TK2 := Lib.hid (show (l.take (k + 1)).any (fun d => !mayZ d.p d.w d.k d.n) = false by rw [TK.out, ht.out]; rfl)
        go_wp2_with fail
        go_roundw
        case rel => exact ⟨k + 1, by omega, by go_num, TK2, B3⟩
        case measure => simp [intOf]; omega
      · have A2 := AN.out rfl
        go_wp2_with fail
        go_ret
        exact ⟨(k : Int), rfl, by rw [A2]; simp, B3.out⟩
    · have hq : k = l.length := by omega
      have A2 : l.any (fun d => !mayZ d.p d.w d.k d.n) = false := by have := ht.out; rw [hq, List.take_length] at this; exact this
      go_wp2_with fail
      go_ret
      exact ⟨-1, rfl, by rw [A2]; decide, hb.out⟩
theorem containsFunc_any (sv : Value) (l : List Dc) (hU : ∀ d ∈ l, UntoldOK d) (W : World) (h : StyAt W sv l) :
    Calls Tryz.prog 70 #[sv, .func (.func 71) #[] #[]] W fun e w' => e = .returned (.bool (l.any (fun d => !mayZ d.p d.w d.k d.n))) ∧ Below W.heap.size W w' := by
  have H := Lib.hid (indexFunc_any sv l hU W h)
  clear h hU
  go_enter Tryz.func70, Tryz.ntmps70
  go_wp2_with fail
  refine H.out.mono ?_
  rintro e w1 ⟨i, rfl, h1, hb⟩
  have E := Lib.hid h1
  have B := Lib.hid hb
  clear h1 hb
  go_wp2
  go_ret
  exact ⟨ret_bool E.out, B.out⟩
theorem not_any (l : List Dc) : (!(l.any fun d => !mayZ d.p d.w d.k d.n)) = l.all fun d => mayZ d.p d.w d.k d.n := by
  induction l with
  | nil => rfl
  | cons d r ih => simp only [List.any_cons, List.all_cons, Bool.not_or, Bool.not_not, ih]
theorem isFit_any (n : Nd) (sv : Value) (hU : n.tx = false → ∀ d ∈ n.sty, UntoldOK d) (W : World) (h : StyAt W sv n.sty) (hd : n.dat.size ≤ 9223372036854775807) :
    Calls Tryz.prog 58 #[.agg (nodeC n sv).toArray] W fun e w' => e = .returned (.bool (fitB n)) ∧ Below W.heap.size W w' := by
  have B0 := Lib.hid ((Below.refl W.heap.size W).alloc (Nat.le_refl _) (.cells (nodeC n sv).toArray 32))
  have P0 := Lib.hid (Whole.mk W 32 (nodeC n sv).toArray)
  have HC := Lib.hid (fun (ht : n.tx = false) => containsFunc_any sv n.sty (hU ht) _ (h.below B0.out))
  obtain ⟨A, c, rfl, -, hl, -⟩ := h
  have F := Lib.hid (show fitB n = if n.tx = true then decide (n.dat.size ≤ 1000) && decide (n.sty.length = 0) else decide (n.dat.size = 0) && n.sty.all fun d => mayZ d.p d.w d.k d.n from rfl)
  rw [← not_any] at F
  generalize fitB n = r at *
  generalize (n.sty.any fun d => !mayZ d.p d.w d.k d.n) = u at *
  clear hU
  go_enter Tryz.func58, Tryz.ntmps58
  go_upto_region 1 with fail
  generalize W.alloc _ = w0 at *
  have c2 : w0.cell? ⟨W.heap.size, 2, none⟩ = some (.bool n.tx) := P0.out.cell 2
  have c3 : w0.cell? ⟨W.heap.size, 3, none⟩ = some (.string n.dat) := P0.out.cell 3
  have c4 : w0.cell? ⟨W.heap.size, 4, none⟩ = some (.slice A n.sty.length c) := P0.out.cell 4
  generalize n.dat = s at *
  generalize n.sty.length = m at *
  cases ht : n.tx
  · rw [ht] at c2 F
    by_cases h0 : s.size = 0
    · have e0 : s = ⟨#[]⟩ := by cases s with | mk d => cases d with | mk l => cases l with | nil => rfl | cons a b => simp [ByteArray.size] at h0
      subst e0
      have E := Lib.hid (show r = !u by rw [F.out, if_neg (by decide)]; rfl)
      clear F
      go_wp2_with fail
      refine (HC.out ht).mono ?_
      rintro e w1 ⟨rfl, hb⟩
      have B1 := Lib.hid (B0.out.trans (hb.mono B0.out.size))
      clear hb
      go_wp2_with fail
      go_ret
      exact ⟨ret_bool E.out.symm, B1.out⟩
    · have E := Lib.hid (show r = false by rw [F.out]; simp [h0])
      have hs : (s.toList == []) = false := by
        rw [beq_eq_false_iff_ne]; intro e; apply h0
        have := congrArg List.length e
        simpa [ByteArray.toList_eq] using this
      clear F
      go_wp2_with fail
      go_ret
      exact ⟨ret_bool E.out.symm, B0.out⟩
  · rw [ht] at c2 F
    by_cases h1 : s.size ≤ 1000
    · have d1 : decide ((s.size : Int) ≤ 1000) = true := by rw [decide_eq_true_eq]; omega
      have E := Lib.hid (show r = decide (m = 0) by rw [F.out]; simp [h1])
      clear F
      go_wp2_with fail
      go_ret
      exact ⟨ret_bool (by rw [E.out, Bool.eq_iff_iff]; simp), B0.out⟩
    · have d1 : decide ((s.size : Int) ≤ 1000) = false := by rw [decide_eq_false_iff_not]; omega
      have E := Lib.hid (show r = false by rw [F.out]; simp [h1])
      clear F
      go_wp2_with fail
      go_ret
      exact ⟨ret_bool E.out.symm, B0.out⟩
theorem isRoot_any (n : Nd) (sv : Value) (hU : n.tx = false → ∀ d ∈ n.sty, UntoldOK d) (W : World) (h : StyAt W sv n.sty) (hd : n.dat.size ≤ 9223372036854775807) :
    Calls Tryz.prog 34 #[.agg (nodeC n sv).toArray] W fun e w' => e = .returned (.bool (rootB n)) ∧ Below W.heap.size W w' := by
  have B0 := Lib.hid ((Below.refl W.heap.size W).alloc (Nat.le_refl _) (.cells (nodeC n sv).toArray 32))
  have P0 := Lib.hid (Whole.mk W 32 (nodeC n sv).toArray)
  have HC := Lib.hid (isFit_any n sv hU _ (h.below B0.out) hd)
  obtain ⟨A, c, rfl, -, hl, -⟩ := h
  have F := Lib.hid (show rootB n = (decide (n.id = 0) && decide (n.par = -1) && !n.tx && fitB n) from rfl)
  clear hU
  go_enter Tryz.func34, Tryz.ntmps34
  go_upto_region 1 with fail
  generalize W.alloc _ = w0 at *
  have c0 : w0.cell? ⟨W.heap.size, 0, none⟩ = some (.int .i64 n.id) := P0.out.cell 0
  have c1 : w0.cell? ⟨W.heap.size, 1, none⟩ = some (.int .i64 n.par) := P0.out.cell 1
  have c2 : w0.cell? ⟨W.heap.size, 2, none⟩ = some (.bool n.tx) := P0.out.cell 2
  have c3 : w0.cell? ⟨W.heap.size, 3, none⟩ = some (.string n.dat) := P0.out.cell 3
  have c4 : w0.cell? ⟨W.heap.size, 4, none⟩ = some (.slice A n.sty.length c) := P0.out.cell 4
  by_cases h0 : n.id = 0
  · by_cases h1 : n.par = -1
    · cases ht : n.tx
      · rw [ht] at c2
        have HC2 := HC.out
        unfold nodeC at HC2
        rw [ht] at HC2
        have HC3 := Lib.hid HC2
        clear HC2
        have E := Lib.hid (show rootB n = fitB n by rw [F.out, h0, h1, ht]; simp)
        have b0 : (n.id == 0) = true := by simp [h0]
        have b1 : (n.par == -1) = true := by simp [h1]
        clear h0 h1 F
        go_wp2_with fail
        refine HC3.out.mono ?_
        rintro e w1 ⟨rfl, hb⟩
        have B1 := Lib.hid (B0.out.trans (hb.mono B0.out.size))
        clear hb
        go_wp2_with fail
        go_ret
        exact ⟨ret_bool E.out.symm, B1.out⟩
      · rw [ht] at c2
        have E := Lib.hid (show rootB n = false by rw [F.out, ht]; simp)
        have b0 : (n.id == 0) = true := by simp [h0]
        have b1 : (n.par == -1) = true := by simp [h1]
        clear h0 h1 F
        go_wp2_with fail
        go_ret
        exact ⟨ret_bool E.out.symm, B0.out⟩
    · have E := Lib.hid (show rootB n = false by rw [F.out]; simp [h1])
      have b0 : (n.id == 0) = true := by simp [h0]
      have b1 : (n.par == -1) = false := by simp [h1]
      clear h0 h1 F
      go_wp2_with fail
      go_ret
      exact ⟨ret_bool E.out.symm, B0.out⟩
  · have E := Lib.hid (show rootB n = false by rw [F.out]; simp [h0])
    have b0 : (n.id == 0) = false := by simp [h0]
    clear h0 F
    go_wp2_with fail
    go_ret
    exact ⟨ret_bool E.out.symm, B0.out⟩
end Go.Proofs.YtpbfdfpedpfemaaGreatDoor
