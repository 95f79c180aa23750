import Derived.Test.YtmlnpphblicghaaBrkLinesQ
import Derived.Test.YtmlnpphblicghaaWideNumQ
/- quoinref9.Lines, Least, Most. -/
namespace Go.Proofs.Ytmlnpphblicghaa
open Go Go.RowKit
set_option linter.unusedVariables false
set_option linter.unusedSimpArgs false
set_option maxRecDepth 20000
set_option maxHeartbeats 4000000

def lastZ (b : Option (Nat × Int)) : Int := match b with | none => -1 | some p => p.1
def atZw (b : Option (Nat × Int)) : Int := match b with | none => 0 | some p => p.2
theorem rlines_any (g : List Gl) (hg : FineG g) (A : Option Addr) (c : Nat) (a : Int) (W : World) (hR : Row W W.heap.size A (i64s (gCells g))) :
    Calls Try.prog 20 #[.slice A g.length c, .int .i64 a] W (LinePost a g W) := by
  have HR := Lib.hid hR
  have FG := Lib.hid hg
  have hgl := hg.1
  have F0 := Lib.hid (linesI_zero a g)
  clear hR hg
  unfold LinePost
  generalize linesL a g = F at *
  go_enter Try.func20, Try.ntmps20
  go_wp2
  go_loopw [5, 6] (fun v5 v6 wr => ∃ (A1 : Option Addr) (n c1 : Nat) (L : List Sp) (i : Nat), v5 = .slice A1 n c1 ∧ v6 = .int .i64 i ∧ n ≤ i ∧ i ≤ g.length + 1 ∧ Hid (n = L.length) ∧ wr.ownsRow W.heap.size 28 3 (.slice A1 n c1) n (L.flatMap spC) ∧
    Below W.heap.size W wr ∧ Hid (L ++ linesI a g i = F)) (fun _ v6 _ => g.length + 1 - (intOf v6).toNat)
  case atStart => exact ⟨none, 0, 0, [], 0, rfl, rfl, Nat.le_refl _, by omega, Lib.hid rfl, World.ownsRow_nil _ _ _ _, Below.refl _ _, F0⟩
  case round =>
    clear F0
    obtain ⟨A1, n, c1, L, i, rfl, rfl, hni, hi, HN, hO, hB, HS⟩ := hrel
    have HO := Lib.hid hO
    have HB := Lib.hid hB
    have zB := hB.size
    clear hO hB
    by_cases hlt : i < g.length
    · have hii : (i : Int) < g.length := by omega
      have hst := linesI_step a g i hlt
      have hla := lineAt a g i
      have ht1 := hla.le
      have ht2 := hla.len hlt
      have E0 : Hid (endL a (g.drop i) i 0 none = endL a (g.drop i) i 0 none) := Lib.hid rfl
      generalize hp : endL a (g.drop i) i 0 none = p at *
      have E1 := Lib.hid hp
      obtain ⟨t, v⟩ := p
      simp only at hst ht1 ht2
      have HST := Lib.hid hst
      clear hst hla hp E0
      have hRg := (HR.out.below HB.out).gl hlt
      obtain ⟨ad, rfl, hab, -⟩ := hRg
      have RG := Lib.hid (fun q (hq : q < g.length) => (HR.out.below HB.out).gl hq)
      go_upto_block 2 with fail
      go_cut [7, 9] (fun v7 v9 wx => v7 = .int .i64 t ∧ v9 = .int .i64 v ∧ wx = wr)
      case first =>
        go_wp2_with fail
        go_loopw [7, 8, 9, 10] (fun v7 v8 v9 v10 wx => ∃ (b : Option (Nat × Int)) (k : Nat) (w : Int), v7 = .int .i64 (lastZ b) ∧ v8 = .int .i64 w ∧ v9 = .int .i64 (atZw b) ∧ v10 = .int .i64 k ∧ k ≤ g.length ∧ BdS w k ∧ wx = wr ∧ Hid (endL a (g.drop k) k w b = (t, v))) (fun _ _ _ v10 _ => g.length - (intOf v10).toNat)
        case atStart => exact ⟨none, i, 0, rfl, rfl, rfl, rfl, by omega, by unfold BdS; omega, rfl, E1⟩
        case round =>
          clear E1
          obtain ⟨b, k, w, rfl, rfl, rfl, rfl, hk, hbw, rfl, HE⟩ := hrel
          have HBW := Lib.hid hbw
          clear hbw
          by_cases hkl : k < g.length
          · have hki : (k : Int) < g.length := by omega
            have hke : ((k : Int) == g.length) = false := by rw [beq_eq_false_iff_ne]; omega
            obtain ⟨ad', hA, hab, r0, r1, r2, r3⟩ := RG.out k hkl
            injection hA with hA
            subst hA
            have hE := HE.out
            rw [List.drop_eq_getElem_cons hkl] at hE
            have HB2 := Lib.hid (FG.out.bd k hkl HBW.out)
            have HI := Lib.hid (FG.out.at_ k hkl)
            clear HE r1 r2
            generalize hgk : g[k] = x at *
            clear hgk
            obtain ⟨xk, xr, xa, xv⟩ := x
            simp only at r0 r3 HB2 HI
            simp only [endL] at hE
            have hbb := HB2.out
            have hw0 : -9223372036854775808 ≤ w + xv ∧ w + xv < 9223372036854775808 := by obtain ⟨q1, q2⟩ := hbb; omega
            clear hbb
            by_cases h4 : xk = 4
            · subst h4
              rw [if_pos rfl] at hE
              have HE := Lib.hid hE
              clear hE HB2 HI r3 hw0
              cases b with
              | none =>
                simp only [pickE, Prod.mk.injEq] at HE
                obtain ⟨h1, h2⟩ := HE.out
                have H1 := Lib.hid h1
                have H2 := Lib.hid h2
                clear h1 h2 HE
                simp only [lastZ, atZw]
                go_wp2_with fail
                go_meet
                exact ⟨by rw [← H1.out], by rw [← H2.out], by first | rfl | trivial⟩
              | some p =>
                obtain ⟨pt, pv⟩ := p
                have hp0 : ¬ (pt : Int) < 0 := by omega
                simp only [lastZ, atZw]
                simp only [pickE] at HE
                by_cases hwa : w ≤ a
                · rw [if_pos hwa] at HE
                  obtain ⟨h1, h2⟩ := Prod.mk.inj HE.out
                  have H1 := Lib.hid h1
                  have H2 := Lib.hid h2
                  clear h1 h2 HE
                  go_wp2_with fail
                  go_meet
                  exact ⟨by rw [← H1.out], by rw [← H2.out], by first | rfl | trivial⟩
                · rw [if_neg hwa] at HE
                  obtain ⟨h1, h2⟩ := Prod.mk.inj HE.out
                  have H1 := Lib.hid h1
                  have H2 := Lib.hid h2
                  clear h1 h2 HE
                  go_wp2_with fail
                  go_meet
                  exact ⟨by rw [← H1.out], by rw [← H2.out], by first | rfl | trivial⟩
            · have e4 : (xk == 4) = false := by simpa using h4
              rw [if_neg h4] at hE
              by_cases h2 : xk = 2
              · subst h2
                rw [if_pos rfl] at hE
                have HE := Lib.hid hE
                clear hE HI
                cases b with
                | none =>
                  simp only [pickE] at HE
                  simp only [lastZ, atZw]
                  go_wp2_with fail
                  go_roundw
                  case rel => exact ⟨some (k, w), k + 1, w + xv, rfl, by go_num, rfl, by go_num, by omega, HB2.out, by first | rfl | trivial, HE⟩
                  case measure => simp [intOf]; omega
                | some p =>
                  obtain ⟨pt, pv⟩ := p
                  have hp0 : ¬ (pt : Int) < 0 := by omega
                  simp only [lastZ, atZw]
                  simp only [pickE] at HE
                  by_cases hwa : w ≤ a
                  · rw [if_pos hwa] at HE
                    go_wp2_with fail
                    go_roundw
                    case rel => exact ⟨some (k, w), k + 1, w + xv, rfl, by go_num, rfl, by go_num, by omega, HB2.out, by first | rfl | trivial, HE⟩
                    case measure => simp [intOf]; omega
                  · rw [if_neg hwa] at HE
                    go_wp2_with fail
                    go_roundw
                    case rel => exact ⟨some (pt, pv), k + 1, w + xv, rfl, by go_num, rfl, by go_num, by omega, HB2.out, by first | rfl | trivial, HE⟩
                    case measure => simp [intOf]; omega
              · have e2 : (xk == 2) = false := by simpa using h2
                rw [if_neg h2] at hE
                have HE := Lib.hid hE
                clear hE HI
                go_wp2_with fail
                go_roundw
                case rel => exact ⟨b, k + 1, w + xv, rfl, by go_num, rfl, by go_num, by omega, HB2.out, by first | rfl | trivial, HE⟩
                case measure => simp [intOf]; omega
          · have hke : k = g.length := by omega
            subst hke
            have hE := HE.out
            rw [List.drop_length] at hE
            simp only [endL] at hE
            have HE := Lib.hid hE
            clear hE
            cases b with
            | none =>
              simp only [pickE, Prod.mk.injEq] at HE
              obtain ⟨h1, h2⟩ := HE.out
              have H1 := Lib.hid h1
              have H2 := Lib.hid h2
              clear h1 h2 HE
              simp only [lastZ, atZw]
              go_wp2_with fail
              go_meet
              exact ⟨by rw [← H1.out], by rw [← H2.out], by first | rfl | trivial⟩
            | some p =>
              obtain ⟨pt, pv⟩ := p
              have hp0 : ¬ (pt : Int) < 0 := by omega
              simp only [lastZ, atZw]
              simp only [pickE] at HE
              by_cases hwa : w ≤ a
              · rw [if_pos hwa] at HE
                obtain ⟨h1, h2⟩ := Prod.mk.inj HE.out
                have H1 := Lib.hid h1
                have H2 := Lib.hid h2
                clear h1 h2 HE
                go_wp2_with fail
                go_meet
                exact ⟨by rw [← H1.out], by rw [← H2.out], by first | rfl | trivial⟩
              · rw [if_neg hwa] at HE
                obtain ⟨h1, h2⟩ := Prod.mk.inj HE.out
                have H1 := Lib.hid h1
                have H2 := Lib.hid h2
                clear h1 h2 HE
                go_wp2_with fail
                go_meet
                exact ⟨by rw [← H1.out], by rw [← H2.out], by first | rfl | trivial⟩
      case rest =>
        obtain ⟨rfl, rfl, rfl⟩ := hcut
        clear E1 RG
        go_upto_region 14 with (at_builtin; refine wpList_new rfl (.tmp 66) (.tmp 71) _ rfl W.heap.size 28 3 24 (.agg #[.int .i64 0, .int .i64 0, .int .i64 0]) Try.underlying25 sp_info rfl (by decide) _ _ _ _ rfl HO.out rfl ⟨by omega, by unfold maxLen; omega, zB⟩ rfl (by simp [Value.oneCell']) ?_; intro A2 c2 w2 own2 hb2; have O2 := Lib.hid own2; have B2 := Lib.hid (HB.out.trans hb2); clear own2 hb2 HO HB)
        go_wp2
        go_roundw
        case rel => exact ⟨A2, n + 1, c2, L ++ [⟨i, t, v⟩], t + 1, rfl, by go_num, by omega, by omega, Lib.hid (by simp [HN.out]), by simpa [List.flatMap_append, spC] using O2.out, B2.out, Lib.hid (by have := HS.out; rw [HST.out] at this; simpa using this)⟩
        case measure => simp [intOf]; omega
    · have hii : ¬ (i : Int) < g.length := by omega
      have HL : Hid (L = F) := Lib.hid (by have := HS.out; rwa [linesI_end a g i (by omega), List.append_nil] at this)
      clear HS
      go_wp2
      go_ret
      rw [← HL.out, ← HN.out]
      exact ⟨A1, c1, rfl, HO.out, HB.out⟩
end Go.Proofs.Ytmlnpphblicghaa
