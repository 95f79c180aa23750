import Derived.Test.YtncaichachipkaaTotalQ
import Derived.Test.YtncaichachipkaaZQ
/- exact.Of. -/
namespace Go.Proofs.Ytncaichachipkaa
open Go Go.RowKit
set_option linter.unusedVariables false
set_option linter.unusedSimpArgs false
set_option maxRecDepth 20000
set_option maxHeartbeats 4000000

theorem osum_bd (zs : List Int) (hz : ∀ z ∈ zs, I64 z) : -9223372036854775808 * (zs.length : Int) ≤ zs.sum ∧ zs.sum ≤ 9223372036854775807 * (zs.length : Int) := by
  induction zs with
  | nil => simp
  | cons z zs ih =>
    obtain ⟨a, b⟩ := ih fun x hx => hz x (List.mem_cons_of_mem _ hx)
    obtain ⟨c, d⟩ := hz z List.mem_cons_self
    rw [List.sum_cons, List.length_cons]
    omega
theorem tot_sum (zs : List Int) (hz : ∀ z ∈ zs, I64 z) (hl : zs.length ≤ 1000) : Tot zs.sum := by
  obtain ⟨a, b⟩ := osum_bd zs hz
  unfold Tot; omega
theorem of_any (zs : List Int) (hz : ∀ z ∈ zs, I64 z) (hl : zs.length ≤ 1000) (A : Option Addr) (c : Nat) (W : World) (hR : Row W W.heap.size A (i64s zs)) :
    Calls Try.prog 17 #[.slice A zs.length c] W fun e w' => e = .returned (totV zs.sum) ∧ Below W.heap.size W w' := by
  have HZ := Lib.hid hz
  have HR := Lib.hid hR
  clear hz hR
  have B0 := Lib.hid (((Below.refl W.heap.size W).alloc (Nat.le_refl _) (.cells #[.int .i64 0, .int .u64 0] 58)).alloc (by simp) (.cells #[.int .i64 0, .int .u64 0] 58))
  have D0 : Hid (Whole ((W.alloc (.cells #[.int .i64 0, .int .u64 0] 58)).alloc (.cells #[.int .i64 0, .int .u64 0] 58)) W.heap.size 58 [.int .i64 0, .int .u64 0]) :=
    Lib.hid ((Whole.mk W 58 #[.int .i64 0, .int .u64 0]).made _)
  have S0 : Hid (Whole ((W.alloc (.cells #[.int .i64 0, .int .u64 0] 58)).alloc (.cells #[.int .i64 0, .int .u64 0] 58)) (W.heap.size + 1) 58 [.int .i64 0, .int .u64 0]) :=
    Lib.hid (by have h := Whole.mk (W.alloc (.cells #[.int .i64 0, .int .u64 0] 58)) 58 #[.int .i64 0, .int .u64 0]; simpa using h)
  go_enter Try.func17, Try.ntmps17
  go_upto_region 3 with fail
  generalize (W.alloc _).alloc _ = w1 at *
  go_loopw [8] (fun v8 wr => ∃ k : Nat, k ≤ zs.length ∧ v8 = .int .i64 k ∧ Hid (Whole wr W.heap.size 58 [.int .i64 0, .int .u64 0]) ∧ Hid (Whole wr (W.heap.size + 1) 58 [.int .i64 (tH (zs.take k).sum), .int .u64 (tL (zs.take k).sum)]) ∧ Hid (Below W.heap.size W wr)) (fun v8 _ => zs.length - (intOf v8).toNat)
  case atStart => exact ⟨0, Nat.zero_le _, rfl, D0, by rw [List.take_zero, List.sum_nil]; exact S0, B0⟩
  case round =>
    clear D0 S0 B0
    obtain ⟨k, hk, rfl, D, S, B⟩ := hrel
    have c0 := S.out.cell 0
    have c1 := S.out.cell 1
    simp only [List.getElem?_cons_zero, List.getElem?_cons_succ] at c0 c1
    by_cases hlt : k < zs.length
    · obtain ⟨ad, rfl, hb, hc⟩ := (HR.out.below B.out).int hlt
      have hT : Tot (zs.take k).sum := tot_sum _ (fun z hz => HZ.out z (List.mem_of_mem_take hz)) (by rw [List.length_take]; omega)
      have hI : I64 zs[k] := HZ.out _ (List.getElem_mem hlt)
      have P := Lib.hid (fun w => plus_any (zs.take k).sum zs[k] hT hI w)
      have E : (zs.take (k + 1)).sum = (zs.take k).sum + zs[k] := by rw [List.take_succ_eq_append_getElem hlt, List.sum_append, List.sum_singleton]
      have HE := Lib.hid E
      clear E hT hI
      generalize zs[k] = z at *
      go_wp2_with fail
      refine (P.out _).mono ?_
      rintro e w2 ⟨rfl, hb2⟩
      have zs0 := D.out.size
      have zs1 := S.out.size
      have D2 := Lib.hid ((D.out.under hb2 (by omega)).other (g := W.heap.size) (p := ⟨W.heap.size + 1, 0, none⟩) (by simp) (.int .i64 (tH ((zs.take k).sum + z))))
      have B2 := Lib.hid (B.out.trans (hb2.mono (by omega)))
      have S2 := Lib.hid (S.out.under hb2 (by omega))
      have f0 := S2.out.free 0
      have f1 := S2.out.free 1
      have e0 := S2.out.cell 0
      have e1 := S2.out.cell 1
      simp only [List.getElem?_cons_zero, List.getElem?_cons_succ] at e0 e1
      have S3 := Lib.hid ((S2.out.put 0 (.int .i64 (tH ((zs.take k).sum + z)))).put 1 (.int .u64 (tL ((zs.take k).sum + z))))
      have D3 := Lib.hid (D2.out.other (p := ⟨W.heap.size + 1, 1, none⟩) (by simp) (.int .u64 (tL ((zs.take k).sum + z))))
      have B3 := Lib.hid ((B2.out.setCell (p := ⟨W.heap.size + 1, 0, none⟩) (by simp) (.int .i64 (tH ((zs.take k).sum + z)))).setCell (p := ⟨W.heap.size + 1, 1, none⟩) (by simp) (.int .u64 (tL ((zs.take k).sum + z))))
      clear hb2 B2 D2 S2
      go_wp2_with fail
      go_roundw
      case rel => exact ⟨k + 1, by omega, by go_num, D3, by rw [HE.out]; exact S3, B3⟩
      case measure => simp [intOf]; omega
    · have hq : k = zs.length := by omega
      have E := Lib.hid (show (zs.take k).sum = zs.sum by rw [hq, List.take_length])
      have g0 := D.out.free 0
      have g1 := D.out.free 1
      have zD := D.out.size
      have R := Lib.hid ((D.out.put 0 (.int .i64 (tH zs.sum))).put 1 (.int .u64 (tL zs.sum)))
      have B3 := Lib.hid ((B.out.setCell (p := ⟨W.heap.size, 0, none⟩) (by simp) (.int .i64 (tH zs.sum))).setCell (p := ⟨W.heap.size, 1, none⟩) (by simp) (.int .u64 (tL zs.sum)))
      rw [E.out] at c0 c1
      have e0 := D.out.cell 0
      have e1 := D.out.cell 1
      simp only [List.getElem?_cons_zero, List.getElem?_cons_succ] at e0 e1
      simp only [List.set_cons_zero, List.set_cons_succ] at R
      go_wp2_with fail
      exact cells_end (n := 2) ⟨⟨_, Try.underlying58, rfl⟩, by kernel_rfl⟩ rfl W.heap.size rfl [.int .i64 (tH zs.sum), .int .u64 (tL zs.sum)] rfl 58 R.out rfl ⟨rfl, B3.out⟩
end Go.Proofs.Ytncaichachipkaa
