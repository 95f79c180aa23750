import Derived.Test.YtncaichachipkaaTotHeldQ
import Derived.Test.YtncaichachipkaaTotAboveQ
import Derived.Test.YtncaichachipkaaZQ
import Derived.Test.YtncaichachipkaaWideNumQ
/- brk.widest, Least, Most. -/
namespace Go.Proofs.Ytncaichachipkaa
open Go Go.RowKit
set_option linter.unusedVariables false
set_option linter.unusedSimpArgs false
set_option maxRecDepth 20000
set_option maxHeartbeats 4000000

/-- The widest row till here lies (a sum) at W's end. -/
structure MSt (W w : World) (m : Int) : Prop where
  tot : Whole w W.heap.size 58 [.int .i64 (tH m), .int .u64 (tL m)]
  low : Below W.heap.size W w
section
variable {W w w' : World} {m : Int}
theorem MSt.size (h : MSt W w m) : W.heap.size < w.heap.size := h.tot.size
theorem MSt.behind (h : MSt W w m) (hb : Below w.heap.size w w') : MSt W w' m := ⟨h.tot.under hb h.tot.size, h.low.trans (hb.mono (by have := h.size; omega))⟩
theorem MSt.setTot (h : MSt W w m) (t : Int) : MSt W ((w.setCell ⟨W.heap.size, 0, none⟩ (.int .i64 (tH t))).setCell ⟨W.heap.size, 1, none⟩ (.int .u64 (tL t))) t :=
  ⟨(h.tot.put 0 _).put 1 _, (h.low.setCell (by simp) _).setCell (by simp) _⟩
/-- .. and the row that goes on in block g. -/
structure RoSt (W w : World) (m : Int) (g : Nat) (r : Int) : Prop where
  st : MSt W w m
  row : Whole w g 58 [.int .i64 (tH r), .int .u64 (tL r)]
  far : W.heap.size < g
variable {g : Nat} {r : Int}
theorem RoSt.behind (h : RoSt W w m g r) (hb : Below w.heap.size w w') : RoSt W w' m g r := ⟨h.st.behind hb, h.row.under hb h.row.size, h.far⟩
theorem RoSt.setRow (h : RoSt W w m g r) (t : Int) : RoSt W ((w.setCell ⟨g, 0, none⟩ (.int .i64 (tH t))).setCell ⟨g, 1, none⟩ (.int .u64 (tL t))) m g t := by
  have hf := h.far
  exact ⟨⟨(h.st.tot.other (p := ⟨g, 0, none⟩) (by show W.heap.size ≠ g; omega) _).other (p := ⟨g, 1, none⟩) (by show W.heap.size ≠ g; omega) _, (h.st.low.setCell (p := ⟨g, 0, none⟩) (by show W.heap.size ≤ g; omega) _).setCell (p := ⟨g, 1, none⟩) (by show W.heap.size ≤ g; omega) _⟩, (h.row.put 0 _).put 1 _, hf⟩
theorem RoSt.cells (h : RoSt W w m g r) : w.cell? ⟨g, 0, none⟩ = some (.int .i64 (tH r)) ∧ w.cell? ⟨g, 1, none⟩ = some (.int .u64 (tL r)) ∧ w.frozen? ⟨g, 0, none⟩ = false ∧ w.frozen? ⟨g, 1, none⟩ = false := ⟨h.row.cell 0, h.row.cell 1, h.row.free 0, h.row.free 1⟩
theorem MSt.cells (h : MSt W w m) : w.cell? ⟨W.heap.size, 0, none⟩ = some (.int .i64 (tH m)) ∧ w.cell? ⟨W.heap.size, 1, none⟩ = some (.int .u64 (tL m)) ∧ w.frozen? ⟨W.heap.size, 0, none⟩ = false ∧ w.frozen? ⟨W.heap.size, 1, none⟩ = false := ⟨h.tot.cell 0, h.tot.cell 1, h.tot.free 0, h.tot.free 1⟩
end
def optM (f : Bool) (m : Int) : Option Int := if f then some m else none
theorem maxO_optM (f : Bool) (m r : Int) : maxO (optM f m) r = if f = false ∨ m < r then r else m := by cases f <;> simp [optM, maxO]
theorem widest_any (ks : List Int) (hks : ks.length ≤ 1000) (g : List Gl) (hg : FineG g) (A : Option Addr) (c : Nat) (K : Option Addr) (kc : Nat) (W : World) (hR : Row W W.heap.size A (i64s (gCells g))) (hK : Row W W.heap.size K (i64s ks)) :
    Calls Try.prog 31 #[.slice A g.length c, .slice K ks.length kc] W fun e w' => e = .returned (.int .i64 (widZ ks g)) ∧ Below W.heap.size W w' := by
  have HR := Lib.hid hR
  have FG := Lib.hid hg
  have hgl := hg.1
  have CT := Lib.hid (fun (w : World) (hb : Below W.heap.size W w) (v : Int) => contains_any ks K kc v w ((hK.below hb).more hb.size) (by omega))
  have F0 : Hid (widL ks (g.drop 0) none (optM false 0) = widL ks g none none) := Lib.hid rfl
  unfold widZ
  clear hR hg hK
  generalize widL ks g none none = F at *
  have S0 : Hid (MSt W (W.alloc (.cells #[.int .i64 0, .int .u64 0] 58)) 0) := Lib.hid ⟨Whole.mk W 58 #[.int .i64 0, .int .u64 0], (Below.refl _ W).alloc (Nat.le_refl _) _⟩
  go_enter Try.func31, Try.ntmps31
  go_wp2
  generalize W.alloc (.cells #[.int .i64 0, .int .u64 0] 58) = W1 at *
  go_loopw [6, 7] (fun v6 v7 wr => ∃ (f : Bool) (i : Nat) (m : Int), v6 = .bool f ∧ v7 = .int .i64 i ∧ i ≤ g.length + 1 ∧ BdS m 4194304 ∧ (f = false → m = 0) ∧ MSt W wr m ∧ Hid (widL ks (g.drop i) none (optM f m) = F)) (fun _ v7 _ => g.length + 1 - (intOf v7).toNat)
  case atStart => exact ⟨false, 0, 0, rfl, rfl, by omega, by unfold BdS; omega, fun _ => rfl, S0.out, F0⟩
  case round =>
    clear S0 F0
    obtain ⟨f, i, m, rfl, rfl, hi, hbm, hf0, hS, HF⟩ := hrel
    have HS := Lib.hid hS
    have HF0 := Lib.hid hf0
    have HBM := Lib.hid hbm
    clear hS hf0 hbm
    by_cases hlt : i < g.length
    · have hii : (i : Int) < g.length := by omega
      obtain ⟨ad, rfl, hab, r0, r1, r2, r3⟩ := (HR.out.below HS.out.low).gl hlt
      have HSK := Lib.hid (widL_skip ks g i (optM f m) hlt)
      have HOP := Lib.hid (widL_open ks g i (optM f m) hlt)
      have CT1 := Lib.hid (CT.out wr HS.out.low g[i].kind)
      generalize g[i].kind = k0 at *
      clear r1 r2 r3
      cases hk : ks.contains k0
      · rw [hk] at CT1
        have HW := Lib.hid ((HOP.out hk).symm.trans HF.out)
        clear HSK HOP HF hk
        go_wp2_with fail
        refine CT1.out.mono ?_
        rintro o w' ⟨rfl, rfl⟩
        clear CT1 r0
        go_upto_block 2 with fail
        have S1 : Hid (RoSt W (w'.alloc (.cells #[.int .i64 0, .int .u64 0] 58)) m w'.heap.size 0) := Lib.hid ⟨HS.out.behind ((Below.refl _ _).alloc (Nat.le_refl _) _), Whole.mk w' 58 #[.int .i64 0, .int .u64 0], HS.out.size⟩
        clear HS
        generalize w'.alloc (.cells #[.int .i64 0, .int .u64 0] 58) = w1 at *
        generalize w'.heap.size = gr at *
        go_cut [7] (fun v7 wx => ∃ (q : Nat) (r : Int), v7 = .int .i64 q ∧ i ≤ q ∧ q ≤ g.length ∧ BdS r q ∧ RoSt W wx m gr r ∧ Hid (widL ks (g.drop (q + 1)) none (some (maxO (optM f m) r)) = F))
        case first =>
          go_wp2_with fail
          go_loopw [7] (fun v7 wx => ∃ (q : Nat) (r : Int), v7 = .int .i64 q ∧ i ≤ q ∧ q ≤ g.length ∧ BdS r q ∧ RoSt W wx m gr r ∧ Hid (widL ks (g.drop q) (some r) (optM f m) = F)) (fun v7 _ => g.length - (intOf v7).toNat)
          case atStart => exact ⟨i, 0, rfl, Nat.le_refl _, by omega, by unfold BdS; omega, S1.out, HW⟩
          case round =>
            clear S1 HW
            obtain ⟨q, r, rfl, hiq, hq, hbr, hS, HW⟩ := hrel
            have HS := Lib.hid hS
            have HBR := Lib.hid hbr
            clear hS hbr
            by_cases hql : q < g.length
            · have hqi : (q : Int) < g.length := by omega
              obtain ⟨ad', hA, hab, r0, r1, r2, r3⟩ := (HR.out.below HS.out.st.low).gl hql
              injection hA with hA
              subst hA
              have HSH := Lib.hid (widL_shut ks g q (optM f m) r hql)
              have HAD := Lib.hid (widL_add ks g q (optM f m) r hql)
              have CT1 := Lib.hid (CT.out _ HS.out.st.low g[q].kind)
              have PL := Lib.hid (fun w => plus_any r g[q].adv (HBR.out.tot (by omega)) (FG.out.at_ q hql) w)
              have HB2 := Lib.hid (FG.out.bd q hql HBR.out)
              generalize g[q].kind = k1 at *
              generalize g[q].adv = v at *
              simp only [totV] at PL
              cases hk : ks.contains k1
              · rw [hk] at CT1
                have HW2 := Lib.hid ((HAD.out hk).symm.trans HW.out)
                clear HSH HAD HW hk r1 r2
                go_wp2_with fail
                refine CT1.out.mono ?_
                rintro o w2 ⟨rfl, rfl⟩
                clear CT1
                go_upto_region 10 with fail
                have zT := HS.out.row.size
                have zM := HS.out.st.size
                have Y := Lib.hid (fun t : Later w2.heap.size w2 => HS.out.behind t.h)
                have y1 : ∀ t : Later w2.heap.size w2, t.w.cell? ⟨gr, 0, none⟩ = some (.int .i64 (tH r)) := fun t => (Y.out t).cells.1
                have y2 : ∀ t : Later w2.heap.size w2, t.w.cell? ⟨gr, 1, none⟩ = some (.int .u64 (tL r)) := fun t => (Y.out t).cells.2.1
                have y3 : ∀ t : Later w2.heap.size w2, t.w.cell? ⟨(ad.add (q * 4)).block, (ad.add (q * 4)).off + 3, none⟩ = some (.int .i64 v) := fun t => (t.h.cell (p := ⟨(ad.add (q * 4)).block, (ad.add (q * 4)).off + 3, none⟩) (by simp only [add_block]; omega)).trans r3
                refine region_lane [] [0, 1, 2, 3, 4, 5, 6] [7] (by kernel_rfl) (by kernel_rfl) (fun _ _ _ _ _ h => h) ?_
                simp only [pick, List.map_nil]
                refine wpQuiet_nil ⟨rfl, ?_⟩
                simp only [List.map_cons, List.map_nil, List.getD_cons_zero, List.getD_cons_succ, List.drop_succ_cons, List.drop_zero]
                refine laneO_run 6 (by kernel_rfl) ?_
                simp only [List.take_succ_cons, List.take_zero, List.drop_succ_cons, List.drop_zero]
                repeat (go_big_quiet_step (fail))
                refine wpQuiet_nil ?_
                refine laneO_call (v := totV (r + v)) (by kernel_rfl) (by rfl) (fun C hC h0 => ?_) ?_
                focus (go_big_quiet_op; exact ⟨_, fun w hw => (PL.out w).mono fun e w' ⟨he, hb⟩ => ⟨he, hC _ _ hw hb⟩, rfl⟩)
                simp only [Act.put, List.setIfInBounds_toArray, List.set_cons_zero, List.set_cons_succ]
                refine laneO_end0 rfl rfl fun w1 hb0 => ?_
                have S3 := Lib.hid (HS.out.behind hb0)
                clear hb0 y1 y2 y3 Y HS zT zM PL r3 r0
                obtain ⟨d0, d1, f0, f1⟩ := S3.out.cells
                go_wp2_with fail
                have S4 := Lib.hid (S3.out.setRow (r + v))
                clear S3 d0 d1 f0 f1
                go_roundw
                case rel => exact ⟨q + 1, r + v, by go_num, by omega, by omega, HB2.out, S4.out, HW2⟩
                case measure => simp [intOf]; omega
              · rw [hk] at CT1
                have HW2 := Lib.hid ((HSH.out hk).symm.trans HW.out)
                clear HSH HAD HW hk r1 r2 r3 PL HB2
                go_wp2_with fail
                refine CT1.out.mono ?_
                rintro o w2 ⟨rfl, rfl⟩
                clear CT1 r0
                go_wp2_with fail
                go_meet
                exact ⟨q, r, rfl, hiq, by omega, HBR.out, HS.out, HW2.out⟩
            · have hqe : q = g.length := by omega
              subst hqe
              have hqi : ¬ (g.length : Int) < g.length := by omega
              have HW2 := Lib.hid ((widL_last ks g g.length (optM f m) r (Nat.le_refl _)).symm.trans HW.out)
              clear HW
              go_wp2_with fail
              go_meet
              exact ⟨g.length, r, rfl, by omega, Nat.le_refl _, HBR.out, HS.out, HW2.out⟩
        case rest =>
          obtain ⟨q, r, rfl, hiq, hq, hbr, hS, HW2⟩ := hcut
          have HS := Lib.hid hS
          clear hS S1 HW
          rw [maxO_optM] at HW2
          obtain ⟨d0, d1, -, -⟩ := HS.out.cells
          obtain ⟨e0, e1, f0, f1⟩ := HS.out.st.cells
          have AB := Lib.hid (fun w => above_any r m w)
          simp only [totV] at AB
          have hbr4 : BdS r 4194304 := by obtain ⟨h1, h2⟩ := hbr; unfold BdS; omega
          cases f with
          | false =>
            rw [if_pos (.inl rfl)] at HW2
            clear AB HF0 HBM
            go_wp2_with fail
            have S5 := Lib.hid (HS.out.st.setTot r)
            clear HS d0 d1 e0 e1 f0 f1
            go_roundw
            case rel => exact ⟨true, q + 1, r, rfl, by go_num, by omega, hbr4, fun h => (by cases h), S5.out, HW2⟩
            case measure => simp [intOf]; omega
          | true =>
            by_cases hmr : m < r
            · rw [if_pos (.inr hmr)] at HW2
              have hd : decide (m < r) = true := by simpa using hmr
              clear HF0 HBM
              go_wp2_with fail
              refine (AB.out _).mono ?_
              rintro o w3 ⟨rfl, hb3⟩
              have HS3 := Lib.hid (HS.out.behind hb3)
              clear HS d0 d1 e0 e1 f0 f1 hb3 AB hmr
              obtain ⟨d0, d1, -, -⟩ := HS3.out.cells
              obtain ⟨e0, e1, f0, f1⟩ := HS3.out.st.cells
              go_wp2_with fail
              have S5 := Lib.hid (HS3.out.st.setTot r)
              clear HS3 d0 d1 e0 e1 f0 f1
              go_roundw
              case rel => exact ⟨true, q + 1, r, rfl, by go_num, by omega, hbr4, fun h => (by cases h), S5.out, HW2⟩
              case measure => simp [intOf]; omega
            · rw [if_neg (by simp [hmr])] at HW2
              have hd : decide (m < r) = false := by simpa using hmr
              go_wp2_with fail
              refine (AB.out _).mono ?_
              rintro o w3 ⟨rfl, hb3⟩
              have HS3 := Lib.hid (HS.out.behind hb3)
              clear HS d0 d1 e0 e1 f0 f1 hb3 AB hmr
              go_wp2_with fail
              go_roundw
              case rel => exact ⟨true, q + 1, m, rfl, by go_num, by omega, HBM.out, fun h => (by cases h), HS3.out.st, HW2⟩
              case measure => simp [intOf]; omega
      · rw [hk] at CT1
        have HW := Lib.hid ((HSK.out hk).symm.trans HF.out)
        clear HSK HOP HF hk
        go_wp2_with fail
        refine CT1.out.mono ?_
        rintro o w' ⟨rfl, rfl⟩
        clear CT1 r0
        go_wp2_with fail
        go_roundw
        case rel => exact ⟨f, i + 1, m, rfl, by go_num, by omega, HBM.out, HF0.out, HS.out, HW⟩
        case measure => simp [intOf]; omega
    · have hii : ¬ (i : Int) < g.length := by omega
      have HW := Lib.hid ((widL_out ks g i (optM f m) (by omega)).symm.trans HF.out)
      have hm : (optM f m).getD 0 = m := by
        cases f with
        | false => rw [HF0.out rfl]; rfl
        | true => rfl
      have HM := Lib.hid hm
      have HE := Lib.hid (fun w => held_any m (by obtain ⟨h1, h2⟩ := HBM.out; unfold I64; omega) w)
      simp only [totV] at HE
      obtain ⟨e0, e1, -, -⟩ := HS.out.cells
      clear hm HF
      go_wp2_with fail
      refine (HE.out _).mono ?_
      rintro o w3 ⟨rfl, hb3⟩
      have HS3 := Lib.hid (HS.out.behind hb3)
      clear HS e0 e1 hb3 HE
      go_wp2
      go_ret
      exact ⟨ret_int (by rw [← HW.out, HM.out]), HS3.out.low⟩
theorem least_any (g : List Gl) (hg : FineG g) (A : Option Addr) (c : Nat) (W : World) (hR : Row W W.heap.size A (i64s (gCells g))) :
    Calls Try.prog 26 #[.slice A g.length c] W fun e w' => e = .returned (.int .i64 (widZ [2, 4] g)) ∧ Below W.heap.size W w' := by
  have hB := (Below.refl W.heap.size W).alloc (Nat.le_refl _) (.cells #[.int .i64 2, .int .i64 4] 3)
  have WI := Lib.hid (widest_any [2, 4] (by decide) g hg A c (some ⟨W.heap.size, 0, none⟩) 2 (W.alloc (.cells #[.int .i64 2, .int .i64 4] 3)) ((hR.below hB).more hB.size) (by simpa [i64s] using row_new W #[.int .i64 2, .int .i64 4] 3))
  have HB := Lib.hid hB
  clear hR hB
  go_enter Try.func26, Try.ntmps26
  go_wp2_with fail
  refine WI.out.mono ?_
  rintro o w3 ⟨rfl, hb⟩
  have HB2 := Lib.hid (HB.out.trans (hb.mono (by simp)))
  clear hb
  go_wp2
  go_ret
  exact ⟨rfl, HB2.out⟩
theorem most_any (g : List Gl) (hg : FineG g) (A : Option Addr) (c : Nat) (W : World) (hR : Row W W.heap.size A (i64s (gCells g))) :
    Calls Try.prog 28 #[.slice A g.length c] W fun e w' => e = .returned (.int .i64 (widZ [4] g)) ∧ Below W.heap.size W w' := by
  have hB := (Below.refl W.heap.size W).alloc (Nat.le_refl _) (.cells #[.int .i64 4] 3)
  have WI := Lib.hid (widest_any [4] (by decide) g hg A c (some ⟨W.heap.size, 0, none⟩) 1 (W.alloc (.cells #[.int .i64 4] 3)) ((hR.below hB).more hB.size) (by simpa [i64s] using row_new W #[.int .i64 4] 3))
  have HB := Lib.hid hB
  clear hR hB
  go_enter Try.func28, Try.ntmps28
  go_wp2_with fail
  refine WI.out.mono ?_
  rintro o w3 ⟨rfl, hb⟩
  have HB2 := Lib.hid (HB.out.trans (hb.mono (by simp)))
  clear hb
  go_wp2
  go_ret
  exact ⟨rfl, HB2.out⟩
end Go.Proofs.Ytncaichachipkaa
