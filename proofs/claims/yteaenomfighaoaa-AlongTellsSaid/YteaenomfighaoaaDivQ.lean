import Derived.Test.YteaenomfighaoaaShelf
import Derived.Test.YteaenomfighaoaaZQ
import Derived.WalkKit
import Derived.WalkLawsBesides
import Derived.WalkSpells
import Derived.Below
import Derived.Lib.Hide
import Derived.Outline
import Derived.BigQuiet
import Derived.RegionTactic
import Derived.Deep.QuietTactic
import Derived.Deep.DeepCutAuto
namespace Go.Proofs.Yteaenomfighaoaa
open Go.RowKit
set_option linter.unusedVariables false
set_option linter.unusedSimpArgs false

theorem ret_u64s {a b c d : Int} (h : a = b) (h' : c = d) : Ending.returned (.tuple #[.int .u64 a, .int .u64 c]) = .returned (.tuple #[.int .u64 b, .int .u64 d]) := by rw [h, h']
theorem wrap_in (a : Int) (h0 : 0 ≤ a) (h : a < 18446744073709551616) : IntKind.u64.wrap a = a := by rw [IntKind.wrap_u64]; omega
theorem div_le_self (l y : Int) (h0 : 0 ≤ l) (hy : 0 ≤ y) : 0 ≤ l / y ∧ l / y ≤ l := ⟨Int.ediv_nonneg h0 hy, Int.ediv_le_self _ h0⟩
theorem div_zero_hi (l y : Int) (hl0 : 0 ≤ l) (hl : l < 18446744073709551616) (hy : y < 18446744073709551616) (h0 : 0 < y) (w : World) :
    Calls Try.prog 41 #[.int .u64 0, .int .u64 l, .int .u64 y] w fun e w' => e = .returned (.tuple #[.int .u64 (l / y), .int .u64 (l % y)]) ∧ ∃ n, w' = w.drewN n := by
  have HQ := Lib.hid (div_le_self l y hl0 (by omega))
  go_enter Try.func41, Try.ntmps41
  go_wp2
  go_quiet (fail)
  go_wp2
  go_ret2
  exact ⟨ret_u64s rfl rfl, _, rfl⟩

theorem and_low (a : Int) (h0 : 0 ≤ a) (ha : a < 18446744073709551616) : bits .and .u64 a 4294967295 = a % 4294967296 := by
  obtain ⟨a, rfl⟩ := Int.eq_ofNat_of_zero_le h0
  rw [Mul64.maskN a (by omega)]
  omega
theorem or_high (a b : Int) (z : Nat) (h0 : 0 ≤ a) (hb0 : 0 ≤ b) (hb : b < 2 ^ z) (h : a * 2 ^ z + b < 18446744073709551616) : bits .or .u64 (a * 2 ^ z) b = a * 2 ^ z + b := by
  obtain ⟨a, rfl⟩ := Int.eq_ofNat_of_zero_le h0
  obtain ⟨b, rfl⟩ := Int.eq_ofNat_of_zero_le hb0
  have e : ((a : Int) * 2 ^ z) = ((a * 2 ^ z : Nat) : Int) := by simp
  have hb' : b < 2 ^ z := by
    have : ((2 ^ z : Nat) : Int) = 2 ^ z := by simp
    omega
  rw [e] at h ⊢
  rw [bits_or_u64_nat _ _ (by omega) (by omega), Nat.mul_comm, ← Nat.two_pow_add_eq_or_of_lt hb']
  simp
theorem dig_q (u y1 : Int) (h0 : 0 ≤ u) (hu : u < 18446744073709551616) (hy : 0 ≤ y1) : IntKind.u64.wrap (u.tdiv y1) = u / y1 := by
  have := div_le_self u y1 h0 hy
  rw [Int.tdiv_eq_ediv_of_nonneg h0, wrap_in _ (by omega) (by omega)]
theorem dig_q' (u y1 : Int) (h0 : 0 ≤ u) (hu : u < 18446744073709551616) (hy : 0 ≤ y1) : IntKind.u64.wrap (u / y1) = u / y1 := by
  have := div_le_self u y1 h0 hy
  rw [wrap_in _ (by omega) (by omega)]
theorem dig_p (u y1 : Int) (h0 : 0 ≤ u) (hu : u < 18446744073709551616) (hy : 0 < y1) : IntKind.u64.wrap (u / y1 * y1) = u / y1 * y1 := by
  have h := Int.mul_ediv_add_emod u y1
  have h1 := Int.emod_nonneg u (Int.ne_of_gt hy)
  rw [Int.mul_comm] at h
  have := Int.mul_nonneg (div_le_self u y1 h0 (by omega)).1 (Int.le_of_lt hy)
  rw [wrap_in _ (by omega) (by omega)]
theorem dig_r (u y1 : Int) (h0 : 0 ≤ u) (hu : u < 18446744073709551616) (hy : 0 < y1) : IntKind.u64.wrap (u - u / y1 * y1) = u % y1 := by
  have h := Int.mul_ediv_add_emod u y1
  have h1 := Int.emod_nonneg u (Int.ne_of_gt hy)
  rw [Int.mul_comm] at h
  have := Int.mul_nonneg (div_le_self u y1 h0 (by omega)).1 (Int.le_of_lt hy)
  rw [wrap_in _ (by omega) (by omega)]
  omega

theorem digit_key {u d y1 y0 Q q r : Int} (TI : Hid (∀ q r : Int, q * y1 + r = u → (4294967296 * r + d < q * y0 ↔ Q < q)))
    (BI : Hid (∀ q r : Int, q * y1 + r = u → q ≤ 4294967296 → 4294967296 ≤ r → 0 ≤ y0 → y0 < 4294967296 → q ≤ Q))
    (he : Hid (q * y1 + r = u)) (h1 : Q ≤ q) (h2 : q ≤ 4294967297) (y0a : 0 ≤ y0) (y0b : y0 < 4294967296) (hQ0 : 0 ≤ Q) (hQ : Q < 4294967296) :
    (4294967296 ≤ q ∧ 4294967296 ≤ r + y1 ∧ Q < q ∧ q ≤ Q + 1 ∧ decide (4294967296 ≤ q) = true ∧ decide (4294967296 ≤ r + y1) = true) ∨
    (4294967296 ≤ q ∧ r + y1 < 4294967296 ∧ Q < q ∧ 0 ≤ q ∧ 0 ≤ q ∧ 0 ≤ q) ∨
    (q < 4294967296 ∧ q * y0 ≤ 18446744073709551615 ∧ 0 ≤ q * y0 ∧ 4294967296 * r + d < q * y0 ∧ 4294967296 ≤ r + y1 ∧ Q < q ∧ q ≤ Q + 1 ∧ decide (4294967296 ≤ q) = false ∧ decide (4294967296 * r + d < q * y0) = true ∧ decide (4294967296 ≤ r + y1) = true) ∨
    (q < 4294967296 ∧ q * y0 ≤ 18446744073709551615 ∧ 0 ≤ q * y0 ∧ 4294967296 * r + d < q * y0 ∧ r + y1 < 4294967296 ∧ Q < q) ∨
    (q < 4294967296 ∧ q * y0 ≤ 18446744073709551615 ∧ 0 ≤ q * y0 ∧ q * y0 ≤ 4294967296 * r + d ∧ q ≤ Q ∧ decide (4294967296 ≤ q) = false ∧ decide (4294967296 * r + d < q * y0) = false) := by
  have ti := TI.out q r he.out
  have he' : (q - 1) * y1 + (r + y1) = u := by rw [Int.sub_mul]; have := he.out; omega
  have bi := BI.out (q - 1) (r + y1) he' (by omega)
  by_cases hge : 4294967296 ≤ q
  · by_cases hb : 4294967296 ≤ r + y1
    · have := bi hb y0a y0b
      exact .inl ⟨hge, hb, by omega, by omega, by simp [hge], by simp [hb]⟩
    · exact .inr (.inl ⟨hge, by omega, by omega, by omega, by omega, by omega⟩)
  · have hp := Int.mul_le_mul_of_nonneg_right (show q ≤ 4294967295 by omega) y0a
    have hp0 : 0 ≤ q * y0 := Int.mul_nonneg (by omega) y0a
    by_cases hgt : Q < q
    · have ht := ti.2 hgt
      by_cases hb : 4294967296 ≤ r + y1
      · have := bi hb y0a y0b
        exact .inr (.inr (.inl ⟨by omega, by omega, hp0, ht, hb, by omega, by omega, by simp; omega, by simp [ht], by simp [hb]⟩))
      · exact .inr (.inr (.inr (.inl ⟨by omega, by omega, hp0, ht, by omega, hgt⟩)))
    · have ht : ¬ (4294967296 * r + d < q * y0) := fun h => hgt (ti.1 h)
      exact .inr (.inr (.inr (.inr ⟨by omega, by omega, hp0, by omega, by omega, by simp; omega, by simp; omega⟩)))
set_option maxHeartbeats 1000000 in
set_option maxRecDepth 100000 in
theorem div_any (h l y : Int) (hh : 0 < h) (hl0 : 0 ≤ l) (hl : l < 18446744073709551616) (hy : y < 18446744073709551616) (h0 : h < y) (w : World) (A R : Int)
    (HA : Hid (A = (h * 18446744073709551616 + l) / y)) (HR : Hid (R = (h * 18446744073709551616 + l) % y)) :
    Calls Try.prog 41 #[.int .u64 h, .int .u64 l, .int .u64 y] w fun e w' => e = .returned (.tuple #[.int .u64 A, .int .u64 R]) ∧ w' = w := by
  obtain ⟨z, hz0, hbz, hV1, hV2, hSB⟩ := DivNum.shift_of y (by omega) hy
  have HZ := Lib.hid (fun W => Try.bits_LeadingZeros64 y W (by omega) (by omega))
  have hSp : (0 : Int) < 2 ^ z := Int.pow_pos (by omega)
  have hBp : (0 : Int) < 2 ^ (64 - z) := Int.pow_pos (by omega)
  obtain ⟨n1, n2, n3, n4⟩ := DivNum.norm h l y (2 ^ z) (2 ^ (64 - z)) hSB hSp hBp h0 hl0 hl
  have hhS : 0 ≤ h * 2 ^ z := Int.mul_nonneg (by omega) (by omega)
  have E1 := Lib.hid (wrap_in (y * 2 ^ z) (by omega) hV2)
  have E2 := Lib.hid (wrap_in (h * 2 ^ z) (by omega) (by omega))
  have E3 := Lib.hid (IntKind.wrap_u64 (l * 2 ^ z))
  have E5 := Lib.hid (or_high h (l / 2 ^ (64 - z)) z (by omega) n4 n3 (by omega))
  have E6 := Lib.hid (and_low (y * 2 ^ z) (by omega) hV2)
  have E7 := Lib.hid (and_low (l * 2 ^ z % 18446744073709551616) (Int.emod_nonneg _ (by omega)) (Int.emod_lt_of_pos _ (by omega)))
  have hp : 2147483648 ≤ IntKind.u64.wrap (y * 2 ^ z) / 4294967296 := by rw [E1.out]; omega
  have hyh : decide (y ≤ h) = false := by simpa using h0
  have HSH := Lib.hid (DivNum.shifted (h * 18446744073709551616 + l) y (2 ^ z) hSp)
  have HN1 := Lib.hid n1
  have HBL := Lib.hid hbz
  clear hSB n1 hbz n3 n4 hhS hBp
  go_enter Try.func41, Try.ntmps41
  go_wp2_with (go_at_call 42; refine (HZ.out _).mono ?_; rintro e w' ⟨rfl, rfl⟩; rw [HBL.out, show (64 : Int) - ((64 - z : Nat) : Int) = (z : Int) by omega])
  simp only [E2.out, E3.out, E5.out, E6.out, E7.out]
  clear hp E1 E2 E3 E5 E6 E7 HBL HZ
  have HSH' := HSH.out
  rw [HN1.out] at HSH'
  clear HN1 HSH
  have bU := Int.emod_lt_of_pos (l * 2 ^ z) (show (0 : Int) < 18446744073709551616 by omega)
  have bU0 := Int.emod_nonneg (l * 2 ^ z) (show (18446744073709551616 : Int) ≠ 0 by omega)
  have bu0 : 0 ≤ h * 2 ^ z + l / 2 ^ (64 - z) := by
    have := Int.mul_nonneg (show 0 ≤ h by omega) (Int.le_of_lt hSp)
    have := Int.ediv_nonneg hl0 (show (0 : Int) ≤ 2 ^ (64 - z) from Int.le_of_lt (Int.pow_pos (by omega)))
    omega
  rw [← HA.out, ← HR.out] at HSH'
  have HSH := Lib.hid HSH'
  clear HSH'
  generalize h * 2 ^ z + l / 2 ^ (64 - z) = u at *
  generalize l * 2 ^ z % 18446744073709551616 = U at *
  generalize y * 2 ^ z = V at *
  have hu : u < 18446744073709551616 := by omega
  simp only [dig_q u _ bu0 hu (show 0 ≤ V / 4294967296 by omega), dig_p u _ bu0 hu (show 0 < V / 4294967296 by omega), dig_r u _ bu0 hu (show 0 < V / 4294967296 by omega)]
  obtain ⟨y1, hy1⟩ : ∃ y1, V / 4294967296 = y1 := ⟨_, rfl⟩
  obtain ⟨y0, hy0⟩ : ∃ y0, V % 4294967296 = y0 := ⟨_, rfl⟩
  obtain ⟨d1, hd1⟩ : ∃ d1, U / 4294967296 = d1 := ⟨_, rfl⟩
  obtain ⟨d0, hd0⟩ : ∃ d0, U % 4294967296 = d0 := ⟨_, rfl⟩
  simp only [hy1, hy0, hd1, hd0]
  have by1 : 2147483648 ≤ y1 := by omega
  have by1' : y1 < 4294967296 := by omega
  have by0 : y0 < 4294967296 := by omega
  have by00 : 0 ≤ y0 := by omega
  have bd1 : d1 < 4294967296 := by omega
  have bd10 : 0 ≤ d1 := by omega
  have bd0 : d0 < 4294967296 := by omega
  have bd00 : 0 ≤ d0 := by omega
  have HV := Lib.hid (show V = y1 * 4294967296 + y0 by omega)
  have HU := Lib.hid (show U = d1 * 4294967296 + d0 by omega)
  clear hy1 hy0 hd1 hd0
  -- the first digit
  have hVp : 0 < y1 * 4294967296 + y0 := by omega
  have huV : u < y1 * 4294967296 + y0 := by rw [← HV.out]; exact n2
  obtain ⟨Q, hQ⟩ : ∃ Q, (u * 4294967296 + d1) / (y1 * 4294967296 + y0) = Q := ⟨_, rfl⟩
  obtain ⟨q0, hq0⟩ : ∃ q0, u / y1 = q0 := ⟨_, rfl⟩
  obtain ⟨r0, hr0⟩ : ∃ r0, u % y1 = r0 := ⟨_, rfl⟩
  have g1 := DivNum.guess_ge u d1 y1 y0 (by omega) by00 bu0 bd10 bd1
  have g2 := DivNum.guess_le u y1 y0 by1 by0 huV
  have g3 := DivNum.digit_lt u d1 y1 y0 huV bu0 bd1
  have g4 := DivNum.digit_nn u d1 y1 y0 hVp bu0 bd10
  have ti := fun q r h => DivNum.test_iff u d1 y1 y0 q r h hVp
  have bi := fun q r h => DivNum.break_ok u d1 y1 y0 q r h hVp bd10
  have hdm := Int.mul_ediv_add_emod u y1
  have hml := Int.emod_lt_of_pos u (show 0 < y1 by omega)
  have hml0 := Int.emod_nonneg u (show y1 ≠ 0 by omega)
  rw [Int.mul_comm] at hdm
  simp only [hQ, hq0, hr0] at g1 g2 g3 g4 ti bi hdm hml hml0 ⊢
  -- what is left, and the second digit's guess
  obtain ⟨R1, hR1⟩ : ∃ R1, (u * 4294967296 + d1) % V = R1 := ⟨_, rfl⟩
  have r10 : 0 ≤ R1 := by rw [← hR1]; exact Int.emod_nonneg _ (by omega)
  have r11 : R1 < V := by rw [← hR1]; exact Int.emod_lt_of_pos _ (by omega)
  have r12 : R1 < 18446744073709551616 := by omega
  have hVQ : V * Q + R1 = u * 4294967296 + d1 := by
    have h := Int.mul_ediv_add_emod (u * 4294967296 + d1) V
    rw [hR1, HV.out, hQ, ← HV.out] at h
    exact h
  have RW := Lib.hid (show IntKind.u64.wrap (IntKind.u64.wrap (IntKind.u64.wrap (u * 4294967296) + d1) - IntKind.u64.wrap (Q * V)) = R1 by
    simp only [IntKind.wrap_u64]
    exact DivNum.rest_wrap u d1 V Q R1 hVQ r10 r12)
  obtain ⟨Q2, hQ2⟩ : ∃ Q, (R1 * 4294967296 + d0) / (y1 * 4294967296 + y0) = Q := ⟨_, rfl⟩
  obtain ⟨q0', hq0'⟩ : ∃ q0, R1 / y1 = q0 := ⟨_, rfl⟩
  obtain ⟨r0', hr0'⟩ : ∃ r0, R1 % y1 = r0 := ⟨_, rfl⟩
  have r13 : R1 < y1 * 4294967296 + y0 := by rw [← HV.out]; exact r11
  have g1' := DivNum.guess_ge R1 d0 y1 y0 (by omega) by00 r10 bd00 bd0
  have g2' := DivNum.guess_le R1 y1 y0 by1 by0 r13
  have g3' := DivNum.digit_lt R1 d0 y1 y0 r13 r10 bd0
  have g4' := DivNum.digit_nn R1 d0 y1 y0 hVp r10 bd00
  have ti' := fun q r h => DivNum.test_iff R1 d0 y1 y0 q r h hVp
  have bi' := fun q r h => DivNum.break_ok R1 d0 y1 y0 q r h hVp bd00
  have hdm' := Int.mul_ediv_add_emod R1 y1
  have hml' := Int.emod_lt_of_pos R1 (show 0 < y1 by omega)
  have hml0' := Int.emod_nonneg R1 (show y1 ≠ 0 by omega)
  rw [Int.mul_comm] at hdm'
  have P2 := dig_p R1 y1 r10 r12 (by omega)
  have P3 := dig_r R1 y1 r10 r12 (by omega)
  rw [hq0'] at P2
  rw [hq0', hr0'] at P3
  have P2 := Lib.hid P2
  have P3 := Lib.hid P3
  simp only [hQ2, hq0', hr0'] at g1' g2' g3' g4' ti' bi' hdm' hml' hml0'
  obtain ⟨R2, hR2⟩ : ∃ R2, (R1 * 4294967296 + d0) % V = R2 := ⟨_, rfl⟩
  have hVQ2 : V * Q2 + R2 = R1 * 4294967296 + d0 := by
    have h := Int.mul_ediv_add_emod (R1 * 4294967296 + d0) V
    rw [hR2, HV.out, hQ2, ← HV.out] at h
    exact h
  have s10 : 0 ≤ R2 := by rw [← hR2]; exact Int.emod_nonneg _ (by omega)
  have s11 : R2 < V := by rw [← hR2]; exact Int.emod_lt_of_pos _ (by omega)
  have RW2 := Lib.hid (show IntKind.u64.wrap (IntKind.u64.wrap (IntKind.u64.wrap (R1 * 4294967296) + d0) - IntKind.u64.wrap (Q2 * V)) = R2 by
    simp only [IntKind.wrap_u64]
    exact DivNum.rest_wrap R1 d0 V Q2 R2 hVQ2 s10 (by omega))
  have hAQ : Q * 4294967296 + Q2 = A ∧ R2 / 2 ^ z = R := by
    have hd := DivNum.two_digits u d1 d0 V (by omega)
    have e : (u * 4294967296 + d1) * 4294967296 + d0 = u * 18446744073709551616 + U := by rw [HU.out]; omega
    rw [e, hR1, hR2, HSH.out.1] at hd
    have hq : (u * 4294967296 + d1) / V = Q := by rw [HV.out]; exact hQ
    have hq2 : (R1 * 4294967296 + d0) / V = Q2 := by rw [HV.out]; exact hQ2
    rw [hq, hq2] at hd
    refine ⟨hd.1.symm, ?_⟩
    rw [← hd.2]
    exact HSH.out.2
  have HAQ := Lib.hid hAQ
  have TI := Lib.hid ti
  have BI := Lib.hid bi
  have TI2 := Lib.hid ti'
  have BI2 := Lib.hid bi'
  have HDM2 := Lib.hid hdm'
  have Hq0' := Lib.hid hq0'
  have Hr0' := Lib.hid hr0'
  clear hVQ hVQ2 hR1 hR2 hQ2 hq0' hr0' hdm' ti' bi' hAQ HA HR HSH HU
  have HDM := Lib.hid hdm
  have HQ := Lib.hid hQ
  clear hdm hq0 hr0 hQ ti bi
  go_loop [15, 16] (fun q r => ∃ qn rn : Int, q = .int .u64 qn ∧ r = .int .u64 rn ∧ Hid (qn * y1 + rn = u) ∧ Q ≤ qn ∧ qn ≤ 4294967297 ∧ 0 ≤ rn ∧ rn < 4294967296) (fun q _ => (intOf q).toNat)
  case atStart => exact ⟨q0, r0, rfl, rfl, HDM, g1, g2, by omega, by omega⟩
  case round =>
    obtain ⟨qn, rn, rfl, rfl, he, hq1, hq2, hr0, hr⟩ := hrel
    have key := digit_key TI BI he hq1 hq2 by00 by0 g4 g3
    have he' : Hid ((qn - 1) * y1 + (rn + y1) = u) := Lib.hid (by rw [Int.sub_mul]; have := he.out; omega)
    clear TI BI
    rcases key with ⟨c1, c2, c3, c4, c5, c6⟩ | ⟨c1, c2, c3, c4, c5, c6⟩ | ⟨c1, c2, c3, c4, c5, c6, c7, c8, c9, c10⟩ | ⟨c1, c2, c3, c4, c5, c6⟩ | ⟨c1, c2, c3, c4, c5, c6, c7⟩
    all_goals go_wp2
    any_goals (go_round; (case rel => exact ⟨qn - 1, rn + y1, rfl, rfl, he', by omega, by omega, by omega, by omega⟩); (case measure => simp [intOf]; omega))

    iterate 2 ((obtain rfl : qn = Q + 1 := (by omega)); rotate_left)
    obtain rfl : Q = qn := by omega
    all_goals clear he he' c1 c2 c3
    all_goals try simp only [Int.add_sub_cancel]
    all_goals simp only [RW.out, dig_q R1 _ r10 r12 (show 0 ≤ y1 by omega), dig_q' R1 _ r10 r12 (show 0 ≤ y1 by omega), Hq0'.out, P2.out, P3.out]
    all_goals clear RW P2 P3 Hq0' Hr0'
    all_goals
      go_loop [18, 16] (fun q r => ∃ qn rn : Int, q = .int .u64 qn ∧ r = .int .u64 rn ∧ Hid (qn * y1 + rn = R1) ∧ Q2 ≤ qn ∧ qn ≤ 4294967297 ∧ 0 ≤ rn ∧ rn < 4294967296) (fun q _ => (intOf q).toNat)
      case atStart => exact ⟨q0', r0', rfl, rfl, HDM2, g1', g2', by omega, by omega⟩
      case round =>
        obtain ⟨qn, rn, rfl, rfl, he, hq1, hq2, hr0, hr⟩ := hrel
        have key := digit_key TI2 BI2 he hq1 hq2 by00 by0 g4' g3'
        have he' : Hid ((qn - 1) * y1 + (rn + y1) = R1) := Lib.hid (by rw [Int.sub_mul]; have := he.out; omega)
        clear TI2 BI2
        rcases key with ⟨c1, c2, c3, c4, c5, c6⟩ | ⟨c1, c2, c3, c4, c5, c6⟩ | ⟨c1, c2, c3, c4, c5, c6, c7, c8, c9, c10⟩ | ⟨c1, c2, c3, c4, c5, c6⟩ | ⟨c1, c2, c3, c4, c5, c6, c7⟩
        · have hq : qn - 1 = Q2 := by omega
          go_wp2
          go_ret2
          exact ⟨ret_u64s (by rw [← HAQ.out.1, ← hq]) (by rw [← HAQ.out.2, ← RW2.out, ← hq]), rfl⟩
        · go_wp2
          go_round
          case rel => exact ⟨qn - 1, rn + y1, rfl, rfl, he', by omega, by omega, by omega, by omega⟩
          case measure => simp [intOf]; omega
        · have hq : qn - 1 = Q2 := by omega
          go_wp2
          go_ret2
          exact ⟨ret_u64s (by rw [← HAQ.out.1, ← hq]) (by rw [← HAQ.out.2, ← RW2.out, ← hq]), rfl⟩
        · go_wp2
          go_round
          case rel => exact ⟨qn - 1, rn + y1, rfl, rfl, he', by omega, by omega, by omega, by omega⟩
          case measure => simp [intOf]; omega
        · obtain rfl : Q2 = qn := by omega
          go_wp2
          go_ret2
          exact ⟨ret_u64s HAQ.out.1 (by rw [← HAQ.out.2, ← RW2.out]), rfl⟩
end Go.Proofs.Yteaenomfighaoaa
