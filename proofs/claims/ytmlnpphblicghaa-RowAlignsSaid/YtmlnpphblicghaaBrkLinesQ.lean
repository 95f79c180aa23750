import Derived.Test.YtmlnpphblicghaaBrkAppQ
/- brk.Lines answers linesL. -/
namespace Go.Proofs.Ytmlnpphblicghaa
open Go Go.RowKit
set_option linter.unusedVariables false
set_option linter.unusedSimpArgs false
set_option maxRecDepth 20000
set_option maxHeartbeats 4000000

theorem endsS_len : ∀ (l : List Gl) (k : Nat) (s : Int), (endsS l k s).length ≤ l.length + 1
  | [], k, s => by simp [endsS]
  | x :: l, k, s => by
    have := endsS_len l (k + 1) (s + x.adv)
    simp only [endsS]
    split
    · simp
    · split
      · simp only [List.length_cons]; omega
      · simp only [List.length_cons]; omega
/-- What Lines answers: the row of linesL, in a block of its own. -/
def LinePost (a : Int) (g : List Gl) (W : World) (e : Ending) (w' : World) : Prop := ∃ (A : Option Addr) (c : Nat), e = .returned (.slice A (linesL a g).length c) ∧
  w'.ownsRow W.heap.size 28 3 (.slice A (linesL a g).length c) (linesL a g).length ((linesL a g).flatMap spC) ∧ Below W.heap.size W w'
theorem lines_any (g : List Gl) (hg : FineG g) (A : Option Addr) (c : Nat) (a : Int) (ha : I64 a) (W : World) (hR : Row W W.heap.size A (i64s (gCells g))) :
    Calls Try.prog 14 #[.slice A g.length c, .int .i64 a] W (LinePost a g W) := by
  have HR := Lib.hid hR
  have FG := Lib.hid hg
  have hgl := hg.1
  have F0 := Lib.hid (linesI_zero a g)
  clear hR hg
  unfold LinePost
  generalize linesL a g = F at *
  go_enter Try.func14, Try.ntmps14
  go_wp2
  go_loopw [5, 6] (fun v5 v6 wr => ∃ (A1 : Option Addr) (n c1 : Nat) (L : List Sp) (i : Nat), v5 = .slice A1 n c1 ∧ v6 = .int .i64 i ∧ n ≤ i ∧ i ≤ g.length + 1 ∧ Hid (n = L.length) ∧ wr.ownsRow W.heap.size 28 3 (.slice A1 n c1) n (L.flatMap spC) ∧
    Below W.heap.size W wr ∧ Hid (L ++ linesI a g i = F)) (fun _ v6 _ => g.length + 1 - (intOf v6).toNat)
  case atStart => exact ⟨none, 0, 0, [], 0, rfl, rfl, Nat.le_refl _, by omega, Lib.hid rfl, World.ownsRow_nil _ _ _ _, Below.refl _ _, F0⟩
  case round =>
    clear F0
    obtain ⟨A1, n, c1, L, i, rfl, rfl, hni, hi, HN, hO, hB, HS⟩ := hrel
    have HO := Lib.hid hO
    have HB := Lib.hid hB
    have zB := hB.size
    clear hO hB
    by_cases hlt : i < g.length
    · have hii : (i : Int) < g.length := by omega
      have EC := Lib.hid (ends_any g FG.out A c i (by omega) wr ((HR.out.below HB.out).more zB))
      have AP := Lib.hid (fun (Ae : Option Addr) (ce : Nat) (w : World) => app_any g FG.out A c a ha i hlt W.heap.size A1 n c1 L Ae ce w)
      have EL := Lib.hid (endsS_len (g.drop i) i 0)
      have hz := (AInv.start (a := a) FG.out L hlt).zl
      have hq : ∃ q, (endsS (g.drop i) i 0).length = q + 1 := by
        obtain ⟨e, es, he⟩ := endsS_ne (g.drop i) i 0
        exact ⟨es.length, by rw [he]; rfl⟩
      have hzi : i ≤ lastAt (endsS (g.drop i) i 0) := by
        obtain ⟨q, hq⟩ := hq
        obtain ⟨k, k1, _⟩ := endsS_at (g.drop i) i 0 q (by omega)
        rw [lastAt_get _ q hq.symm, k1]; omega
      generalize endsS (g.drop i) i 0 = es at *
      obtain ⟨q, hq⟩ := hq
      have hz1 : ∀ h : q < es.length, lastAt es = (es[q]).1 := fun h => lastAt_get es q hq.symm
      have HZ := Lib.hid hz1
      clear hz1
      have hq5 : q ≤ 4194304 := by have := EL.out; rw [List.length_drop] at this; omega
      generalize lastAt es = z at *
      have HQ := Lib.hid hq
      have EC2 := EC.out
      clear EC EL hq
      go_wp2_with fail
      refine EC2.mono ?_
      rintro o w1 ⟨Ae, ce, rfl, hoe, hbe⟩
      have HOE := Lib.hid hoe
      have HO1 := Lib.hid (own_below HO.out hbe (Nat.le_refl _))
      have HB1 := Lib.hid (HB.out.trans (hbe.mono zB))
      have zB1 := HB1.out.size
      have hcap := owns_nil hoe
      clear EC2 hoe hbe HO HB zB
      have hae := owns_some HOE.out (by have := HQ.out; omega)
      obtain ⟨ge, c3, hv, -, -, hgw⟩ := hae
      injection hv with hA hn' hc'
      subst hA
      clear hn' hc' c3
      obtain ⟨A2, c2, hv, hc1, hc2, -⟩ := hcap
      injection hv with hA hn' hc'
      subst hc'
      clear hA hn' A2
      have KE := Lib.hid (fun w (ho : Only (Value.slice A1 n c1).ownBlock.toList w1 w) => (ho.owns HOE.out (fun b hb hm => owns_ne HOE.out HO1.out (by decide) hb (by simpa using hm)) : w.ownsRow wr.heap.size 70 5 (.slice (some ⟨ge, 0, none⟩) es.length ce) es.length ((leasts es).flatMap enC)))
      have AP2 := AP.out (some ⟨ge, 0, none⟩) ce w1 ((HR.out.below HB1.out).more (Nat.le_refl _)) HO1.out zB1 HN.out hni (fun w ho hn => by
        obtain ⟨ad, e, hb, hc⟩ := row_of_own (KE.out w ho) hn
        injection e with e
        subst e
        exact ⟨_, rfl, hgw, hc⟩) hc1 (by unfold maxLen at hc2; omega) (by have := HQ.out; omega)
      clear AP hc1 hc2
      go_wp2_with fail
      refine AP2.mono ?_
      rintro o w2 ⟨A4, c4, L', rfl, ho4, heq, hln, hon⟩
      have HO4 := Lib.hid ho4
      have HB4 := Lib.hid (HB1.out.trans (hon.below (fun x hx => (HO1.out.lt x (by simpa using hx)).1) zB1))
      have HE := Lib.hid heq
      have hce := (KE.out w2 hon).cellAt (q * 5) (by have := HQ.out; omega)
      rw [show q * 5 = q * 5 + 0 from rfl, rec_get enC_len (leasts es) q (by rw [leasts_length]; have := HQ.out; omega) 0 (by decide)] at hce
      have hla := (leasts_get es q (by have := HQ.out; omega)).1
      rw [← HZ.out (by have := HQ.out; omega)] at hla
      generalize (leasts es)[q]'(by rw [leasts_length]; have := HQ.out; omega) = x at *
      obtain ⟨xa, xs, xl⟩ := x
      simp only at hla
      subst hla
      simp only [enC, List.getElem?_cons_zero, Nat.add_zero] at hce
      rw [HQ.out]
      clear AP2 heq ho4 hon KE HOE HO1 HB1 HZ HQ
      have HS4 := Lib.hid (HE.out.trans HS.out)
      obtain ⟨m, hm⟩ : ∃ m, m = L'.length := ⟨_, rfl⟩
      rw [← hm] at HO4 hln ⊢
      have HM := Lib.hid hm
      clear HE HS hm
      go_wp2
      go_roundw
      case rel => exact ⟨A4, m, c4, L', xa + 1, rfl, by go_num, hln, by omega, HM, HO4.out, HB4.out, HS4⟩
      case measure => simp [intOf]; omega
    · have hii : ¬ (i : Int) < g.length := by omega
      have HL : Hid (L = F) := Lib.hid (by have := HS.out; rwa [linesI_end a g i (by omega), List.append_nil] at this)
      clear HS
      go_wp2
      go_ret
      rw [← HL.out, ← HN.out]
      exact ⟨A1, c1, rfl, HO.out, HB.out⟩
end Go.Proofs.Ytmlnpphblicghaa
