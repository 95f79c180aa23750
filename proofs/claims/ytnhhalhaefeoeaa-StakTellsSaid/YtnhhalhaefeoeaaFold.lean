import Derived.Test.YtnhhalhaefeoeaaFoldNum
import Derived.Test.YtnhhalhaefeoeaaRecRow
import Derived.Test.YtnhhalhaefeoeaaExactSum
import Derived.Lib.MinMax
/- fold.Of, fold.Value, fold.Join. -/
namespace Go.Proofs.Ytnhhalhaefeoeaa
open Go Go.RowKit
set_option linter.unusedVariables false
set_option linter.unusedSimpArgs false
set_option maxRecDepth 20000
set_option maxHeartbeats 4000000

def fdC (f : Fd) : List Value := [.int .i64 f.p, .int .i64 f.q]
abbrev fdV (f : Fd) : Value := .agg #[.int .i64 f.p, .int .i64 f.q]
theorem fdC_len (f : Fd) : (fdC f).length = 2 := rfl
theorem fdC_one (f : Fd) : ∀ v ∈ fdC f, v.oneCell' = true := by simp [fdC, Value.oneCell']
def fdV0 : Value := .agg #[.int .i64 0, .int .i64 0]
theorem fd_info : (Try.prog.info? 25).map (fun i => (i.zero, i.size, i.bytes)) = some (some fdV0, 2, 16) := by kernel_rfl
theorem fd_flat : FlatT Try.prog 25 2 := ⟨⟨_, Try.underlying25, rfl⟩, by kernel_rfl⟩
theorem Row.fd {w : World} {B : Nat} {A : Option Addr} {l : List Fd} (h : Row w B A (l.flatMap fdC)) {i : Nat} (hi : i < l.length) :
    ∃ ad, A = some ad ∧ ad.block < B ∧ w.cell? (ad.add (i * 2)) = some (.int .i64 l[i].p) ∧ w.cell? ⟨(ad.add (i * 2)).block, (ad.add (i * 2)).off + 1, none⟩ = some (.int .i64 l[i].q) := by
  obtain ⟨ad, e, hb, h0, h1⟩ := h.rc fdC_len (by decide) hi
  exact ⟨ad, e, hb, h0 _ rfl, h1 1 _ (by decide) rfl⟩
theorem fval_any (f : Fd) (hp : I64 f.p) (hq : I64 f.q) (h : I64 (f.p + f.q)) (W : World) : Calls Try.prog 23 #[fdV f] W fun e w' => e = .returned (.int .i64 (f.p + f.q)) ∧ Below W.heap.size W w' := by
  obtain ⟨p, q⟩ := f
  simp only at hp hq h
  have OF := Lib.hid (fun A c w (hR : Row w w.heap.size A (i64s [p, q])) => of_any [p, q] (by intro z hz; simp at hz; rcases hz with rfl | rfl <;> assumption) (by simp) A c w hR)
  have HD := Lib.hid (fun w => held_any (p + q) h w)
  clear hp hq h
  have B0 := Lib.hid (((Below.refl W.heap.size W).alloc (Nat.le_refl _) (.cells #[.int .i64 p, .int .i64 q] 25)).alloc (by simp) (.cells #[.int .i64 p, .int .i64 q] 2))
  have R0 := Lib.hid (row_new (W.alloc (.cells #[.int .i64 p, .int .i64 q] 25)) #[.int .i64 p, .int .i64 q] 2)
  go_enter Try.func23, Try.ntmps23
  go_wp2_with fail
  refine (OF.out _ _ _ (by simpa [i64s] using R0.out)).mono ?_
  rintro e w1 ⟨rfl, hb⟩
  have B1 := Lib.hid (B0.out.trans (hb.mono (by simp; omega)))
  clear hb B0 R0
  rw [show [p, q].sum = p + q by simp]
  go_wp2_with fail
  refine (HD.out _).mono ?_
  rintro e w2 ⟨rfl, hb⟩
  have B2 := Lib.hid (B1.out.trans (hb.mono B1.out.size))
  clear hb B1
  go_wp2_with fail
  go_ret
  exact ⟨rfl, B2.out⟩
theorem fjoin_any (l : List Fd) (A : Option Addr) (c : Nat) (W : World) (hR : Row W W.heap.size A (l.flatMap fdC)) (hl : l.length ≤ 1000) :
    Calls Try.prog 18 #[.slice A l.length c] W fun e w' => e = .returned (fdV (foldF l)) ∧ Below W.heap.size W w' := by
  have HR := Lib.hid hR
  clear hR
  have B0 := Lib.hid (((Below.refl W.heap.size W).alloc (Nat.le_refl _) (.cells #[.int .i64 0, .int .i64 0] 25)).alloc (by simp) (.cells #[.int .i64 0, .int .i64 0] 25))
  have D0 : Hid (Whole ((W.alloc (.cells #[.int .i64 0, .int .i64 0] 25)).alloc (.cells #[.int .i64 0, .int .i64 0] 25)) W.heap.size 25 [.int .i64 0, .int .i64 0]) :=
    Lib.hid ((Whole.mk W 25 #[.int .i64 0, .int .i64 0]).made _)
  have S0 : Hid (Whole ((W.alloc (.cells #[.int .i64 0, .int .i64 0] 25)).alloc (.cells #[.int .i64 0, .int .i64 0] 25)) (W.heap.size + 1) 25 [.int .i64 0, .int .i64 0]) :=
    Lib.hid (by have h := Whole.mk (W.alloc (.cells #[.int .i64 0, .int .i64 0] 25)) 25 #[.int .i64 0, .int .i64 0]; simpa using h)
  go_enter Try.func18, Try.ntmps18
  go_upto_region 3 with fail
  generalize (W.alloc _).alloc _ = w1 at *
  go_loopw [8] (fun v8 wr => ∃ k : Nat, k ≤ l.length ∧ v8 = .int .i64 k ∧ Hid (Whole wr W.heap.size 25 [.int .i64 0, .int .i64 0]) ∧ Hid (Whole wr (W.heap.size + 1) 25 (fdC (foldF (l.take k)))) ∧ Hid (Below W.heap.size W wr)) (fun v8 _ => l.length - (intOf v8).toNat)
  case atStart => exact ⟨0, Nat.zero_le _, rfl, D0, S0, B0⟩
  case round =>
    clear D0 S0 B0
    obtain ⟨k, hk, rfl, D, S, B⟩ := hrel
    by_cases hlt : k < l.length
    · have hki : (k : Int) < l.length := by omega
      obtain ⟨ad, rfl, hb, r0, r1⟩ := (HR.out.below B.out).fd hlt
      have HE := Lib.hid (foldF_take l k hlt)
      have hz := S.out.size
      have c0 : wr.cell? ⟨W.heap.size + 1, 0, none⟩ = some (.int .i64 (foldF (l.take k)).p) := S.out.cell 0
      have c1 : wr.cell? ⟨W.heap.size + 1, 1, none⟩ = some (.int .i64 (foldF (l.take k)).q) := S.out.cell 1
      have f0 := S.out.free 0
      have f1 := S.out.free 1
      generalize foldF (l.take k) = a at *
      obtain ⟨ap, aq⟩ := a
      generalize l[k] = f at *
      obtain ⟨fp, fq⟩ := f
      simp only at c0 c1 r0 r1
      have D1 := Lib.hid (D.out.made (.cells #[.int .i64 fp, .int .i64 fq] 25))
      have S1 := Lib.hid (S.out.made (.cells #[.int .i64 fp, .int .i64 fq] 25))
      have B1 := Lib.hid (B.out.alloc (by omega) (.cells #[.int .i64 fp, .int .i64 fq] 25))
      have F1 := Lib.hid (Whole.mk wr 25 #[.int .i64 fp, .int .i64 fq])
      go_upto_region 5 with fail
      generalize wr.alloc _ = w2 at *
      have hne : wr.heap.size ≠ W.heap.size + 1 := by omega
      generalize wr.heap.size = g at *
      clear c0 c1 f0 f1 r0 r1
      have c0 := S1.out.cell 0
      have c1 := S1.out.cell 1
      have f0 := S1.out.free 0
      have f1 := S1.out.free 1
      have d0 := F1.out.cell 0
      have d1 := F1.out.cell 1
      simp only [List.getElem?_cons_zero, List.getElem?_cons_succ, fdC] at c0 c1 d0 d1
      have S2 := Lib.hid ((S1.out.put 0 (.int .i64 (max ap fp))).put 1 (.int .i64 (min aq fq)))
      have D2 := Lib.hid ((D1.out.other (p := ⟨W.heap.size + 1, 0, none⟩) (by simp) (.int .i64 (max ap fp))).other (p := ⟨W.heap.size + 1, 1, none⟩) (by simp) (.int .i64 (min aq fq)))
      have B2 := Lib.hid ((B1.out.setCell (p := ⟨W.heap.size + 1, 0, none⟩) (by simp) (.int .i64 (max ap fp))).setCell (p := ⟨W.heap.size + 1, 1, none⟩) (by simp) (.int .i64 (min aq fq)))
      clear S1 D1 B1 F1
      go_wp2_with fail
      go_roundw
      case rel => exact ⟨k + 1, by omega, by go_num, D2, Lib.hid (by rw [HE.out]; exact S2.out), B2⟩
      case measure => simp [intOf]; omega
    · have hq : k = l.length := by omega
      have hki : ¬ (k : Int) < l.length := by omega
      have HE := Lib.hid (show foldF (l.take k) = foldF l by rw [hq, List.take_length])
      rw [HE.out] at S
      clear HE
      obtain ⟨a, ha⟩ : ∃ a, foldF l = a := ⟨_, rfl⟩
      rw [ha] at S
      have HA := Lib.hid ha
      clear ha
      obtain ⟨p, q⟩ := a
      have c0 : wr.cell? ⟨W.heap.size + 1, 0, none⟩ = some (.int .i64 p) := S.out.cell 0
      have c1 : wr.cell? ⟨W.heap.size + 1, 1, none⟩ = some (.int .i64 q) := S.out.cell 1
      have e0 := D.out.cell 0
      have e1 := D.out.cell 1
      have g0 := D.out.free 0
      have g1 := D.out.free 1
      simp only [List.getElem?_cons_zero, List.getElem?_cons_succ] at e0 e1
      have R := Lib.hid ((D.out.put 0 (.int .i64 p)).put 1 (.int .i64 q))
      have B3 := Lib.hid ((B.out.setCell (p := ⟨W.heap.size, 0, none⟩) (by simp) (.int .i64 p)).setCell (p := ⟨W.heap.size, 1, none⟩) (by simp) (.int .i64 q))
      clear S D B
      go_wp2_with fail
      exact cells_end (n := 2) fd_flat rfl W.heap.size rfl (fdC ⟨p, q⟩) rfl 25 R.out rfl ⟨by rw [HA.out]; rfl, B3.out⟩
end Go.Proofs.Ytnhhalhaefeoeaa
