import Derived.Test.YtmkmealgoafgdaaCollAwake
import Derived.Test.YtmkmealgoafgdaaCollTells
import Derived.Lib.MinMax
/- CollAlike answers true. -/
namespace Go.Proofs.Ytmkmealgoafgdaa
open Go Go.RowKit
set_option linter.unusedVariables false
set_option linter.unusedSimpArgs false
set_option maxRecDepth 20000
set_option maxHeartbeats 8000000

theorem collAlike_any (n0 w0 inner : Int) (W : World) :
    Calls Try.prog 3 #[.int .i64 n0, .int .i64 w0, .int .i64 inner] W fun e w' => e = .returned (.bool true) ∧ Below W.heap.size W w' := by
  have HA := Lib.hid (fun w => cawake_any w)
  have a0 : bits .and .i64 n0 63 = n0 % 64 := and_mask_i64 n0 6 (by decide)
  have a1 : bits .and .i64 w0 255 = w0 % 256 := and_mask_i64 w0 8 (by decide)
  have a2 : bits .and .i64 inner 4095 = inner % 4096 := and_mask_i64 inner 12 (by decide)
  obtain ⟨N, hN, hN6⟩ : ∃ N : Nat, n0 % 64 = N ∧ N < 64 := ⟨(n0 % 64).toNat, by omega, by omega⟩
  obtain ⟨v, hv, hv0, hv1⟩ : ∃ v : Int, w0 % 256 = v ∧ 0 ≤ v ∧ v < 256 := ⟨w0 % 256, rfl, by omega, by omega⟩
  obtain ⟨u, hu, hu0, hu1⟩ : ∃ u : Int, inner % 4096 = u ∧ 0 ≤ u ∧ u < 4096 := ⟨inner % 4096, rfl, by omega, by omega⟩
  rw [hN] at a0
  rw [hv] at a1
  rw [hu] at a2
  clear hN hv hu
  obtain ⟨w, hw, hw1, hw2⟩ : ∃ w : Int, v + 1 = w ∧ 1 ≤ w ∧ w ≤ 256 := ⟨v + 1, rfl, by omega, by omega⟩
  have hdv : 0 ≤ u / w ∧ u / w ≤ u := by
    refine ⟨Int.ediv_nonneg hu0 (by omega), ?_⟩
    exact Int.ediv_le_self _ hu0
  obtain ⟨P, hP, hP1, hP2⟩ : ∃ P : Nat, max (u / w) 1 = (P : Int) ∧ 1 ≤ P ∧ P ≤ 4096 := ⟨(max (u / w) 1).toNat, by omega, by omega, by omega⟩
  have AL := Lib.hid (linesZ_alike u w hw1 hu0 P N hP.symm)
  have L1 := Lib.hid (fun (A : Option Addr) (c : Nat) (hc : (List.replicate N w).length ≤ c) w1 (hR : Row w1 w1.heap.size A (i64s (List.replicate N w))) => lines_any (List.replicate N w) (by simp; omega) (fun z hz => by rw [List.eq_of_mem_replicate hz]; unfold I64; omega) u (by unfold I64; omega) true A c hc w1 hR)
  have htd : u.tdiv w = u / w := Int.tdiv_eq_ediv_of_nonneg hu0
  have hw0 : (w == 0) = false := by rw [beq_eq_false_iff_ne]; omega
  go_enter Try.func3, Try.ntmps3
  go_upto_region 2 with fail
  try rw [a0, a1, a2]
  try rw [hw]
  clear a0 a1 a2 hw
  go_wp2_with fail
  go_loopw [7, 8] (fun v7 v8 wr => ∃ (A1 : Option Addr) (c1 k : Nat), v7 = .slice A1 k c1 ∧ v8 = .int .i64 k ∧ k ≤ N ∧ Hid (wr.ownsRow W.heap.size 2 1 (.slice A1 k c1) k (i64s (List.replicate k w))) ∧ Hid (Below W.heap.size W wr)) (fun _ v8 _ => N - (intOf v8).toNat)
  case atStart => exact ⟨none, 0, 0, rfl, rfl, Nat.zero_le _, Lib.hid ⟨rfl, .inl ⟨rfl, rfl⟩⟩, Lib.hid (Below.refl _ _)⟩
  case round =>
    obtain ⟨A1, c1, k, rfl, rfl, hk, O, B⟩ := hrel
    by_cases hlt : k < N
    · have hltz : (k : Int) < N := by omega
      have S1 := B.out.size
      go_upto_region 5 with (at_builtin; refine wpList_pushOne rfl (.tmp 24) (.tmp 26) _ rfl W.heap.size 2 1 8 (.int .i64 0) Try.underlying22 i64c_info rfl (by decide) k (.slice A1 k c1) _ rfl (own_below O.out ((Below.refl _ wr).alloc (Nat.le_refl _) (.cells #[.int .i64 w] 2)) (Nat.le_refl _)) (by simp; omega) wr.heap.size [.int .i64 w] rfl (Whole.mk wr 2 #[.int .i64 w]) rfl (by simp [Value.oneCell']) (by unfold maxLen; omega) (by omega) ?_; intro A5 c5 w5 h5 ho5 hk5)
      have O5 : Hid (w5.ownsRow W.heap.size 2 1 (.slice A5 (k + 1) c5) (k + 1) (i64s (List.replicate (k + 1) w))) := Lib.hid (by
        rw [List.replicate_succ']
        have e : i64s (List.replicate k w ++ [w]) = i64s (List.replicate k w) ++ [.int .i64 w] := by simp [i64s]
        rw [e]; exact h5)
      have B5 := Lib.hid (own_push (own_below O.out ((Below.refl _ wr).alloc (Nat.le_refl _) (.cells #[.int .i64 w] 2)) (Nat.le_refl _)) (B.out.alloc S1 _) (by simp; omega) ho5)
      clear h5 ho5 hk5 O B
      go_wp2_with fail
      go_roundw
      case rel => exact ⟨A5, c5, k + 1, rfl, by go_num, by omega, O5, B5⟩
      case measure => simp [intOf] <;> omega
    · obtain rfl : k = N := by omega
      have hltz : ¬ (k : Int) < k := by omega
      have hcap := own_cap O.out
      have R0 := Lib.hid (row_of_own O.out)
      have hsr := B.out.size
      have M1 := Lib.hid (L1.out A1 c1 (by simpa using hcap) wr R0.out)
      rw [List.length_replicate] at M1
      clear O R0 L1
      have hdv2 : -9223372036854775808 ≤ u / w ∧ u / w ≤ 9223372036854775807 := by omega
      go_upto_region 8 with fail
      try rw [hP]
      clear hdv hdv2 hP htd
      go_wp2_with fail
      refine M1.out.mono ?_
      rintro e w2 ⟨A2, c2, rfl, o2, hb2⟩
      have B2 := Lib.hid (B.out.trans (hb2.mono hsr))
      have hs2 := B2.out.size
      rw [AL.out] at o2 ⊢
      have R2 := Lib.hid (row_of_own o2)
      obtain ⟨C, hC⟩ : ∃ C, (k + P - 1) / P = C := ⟨_, rfl⟩
      have hCz : ((k : Int) + (P : Int) - 1).tdiv (P : Int) = (C : Int) := by
        rw [Int.tdiv_eq_ediv_of_nonneg (by omega), ← hC, Int.natCast_ediv]
        congr 1
        omega
      have hCk : C * P ≤ k + P - 1 := by rw [← hC]; exact Nat.div_mul_le_self _ _
      have hCk2 : C ≤ k := by
        rcases Nat.lt_or_ge k C with h | h
        · have h1 := Nat.mul_le_mul_right P (show k + 1 ≤ C from h)
          rw [Nat.succ_mul] at h1
          have h2 := Nat.mul_le_mul_left k hP1
          omega
        · exact h
      rw [hC] at R2 ⊢
      rw [List.length_map, List.length_range]
      have HC := Lib.hid hC
      clear o2 hb2 M1 B AL hC hsr
      have hPz : ((P : Int) == 0) = false := by rw [beq_eq_false_iff_ne]; omega
      go_wp2_with fail
      clear hCz hPz
      have hs3 := B2.out.size
      go_loopw [11] (fun v11 wr => ∃ i : Nat, v11 = .int .i64 i ∧ i ≤ C ∧ Hid (Below w2.heap.size w2 wr)) (fun v11 _ => C - (intOf v11).toNat)
      case atStart => exact ⟨0, rfl, Nat.zero_le _, Lib.hid (Below.refl _ _)⟩
      case round =>
        obtain ⟨i, rfl, hi, B3⟩ := hrel
        by_cases hlt : i < C
        · have hltz : (i : Int) < C := by omega
          obtain ⟨ad, ea, hba, ca0, ca1⟩ := Row.pair (R2.out.below B3.out) (k := i) (by simpa using hlt)
          subst ea
          rw [List.getElem_map, List.getElem_range] at ca0 ca1
          simp only at ca0 ca1
          obtain ⟨x, hx⟩ : ∃ x, i * P = x := ⟨_, rfl⟩
          obtain ⟨y, hy⟩ : ∃ y, min (x + P) k = y := ⟨_, rfl⟩
          have hxb : x + P ≤ k + P := by
            have h1 := Nat.mul_le_mul_right P (show i + 1 ≤ C from hlt)
            rw [Nat.succ_mul] at h1
            omega
          rw [hx] at ca0 ca1
          rw [hy] at ca1
          have hxz : (i : Int) * (P : Int) = (x : Int) := by rw [← hx]; push_cast; rfl
          have hyz : min ((x : Int) + (P : Int)) (k : Int) = (y : Int) := by omega
          clear hx hy
          go_wp2_with (rw [pair_eq]; simp only [Result.andThen_ok])
          go_roundw
          case rel => exact ⟨i + 1, by go_num, by omega, B3⟩
          case measure => simp [intOf] <;> omega
        · have hltz : ¬ (i : Int) < C := by omega
          have B8 := Lib.hid (B2.out.trans (B3.out.mono hs3))
          have hs8 := B8.out.size
          clear B3 B2 R2
          go_wp2_with fail
          refine (HA.out _).mono ?_
          rintro e w6 ⟨rfl, hb6⟩
          have B9 := Lib.hid (B8.out.trans (hb6.mono hs8))
          clear hb6 B8
          go_wp2_with fail
          go_ret
          exact ⟨rfl, B9.out⟩
end Go.Proofs.Ytmkmealgoafgdaa
