import Derived.Test.YtbhdpfacfgldiaaGreatDoorRefParseQ
/- quoinlaw4.One: some text of at most 64 bytes. -/
namespace Go.Proofs.YtbhdpfacfgldiaaGreatDoor
open Go Go.RowKit
set_option linter.unusedVariables false
set_option linter.unusedSimpArgs false
set_option maxRecDepth 20000
set_option maxHeartbeats 8000000

theorem mask_nat (x : Int) (j : Nat) (hj : j ≤ 62) : ∃ k : Nat, bits .and .i64 x ((2 ^ j - 1 : Nat) : Int) = (k : Int) ∧ k < 2 ^ j := by
  rw [and_mask_i64 x j hj]
  have h0 : (0 : Int) < ((2 ^ j : Nat) : Int) := by have : 0 < 2 ^ j := Nat.pos_of_ne_zero (by simp); omega
  have := Int.emod_nonneg x (Int.ne_of_gt h0)
  have := Int.emod_lt_of_pos x h0
  exact ⟨(x % ((2 ^ j : Nat) : Int)).toNat, by omega, by omega⟩
theorem mask_mod (x : Int) (m : Nat) (hm : 0 < m) : ∃ k : Nat, (bits .and .i64 x 255).tmod (m : Int) = (k : Int) ∧ k < m := by
  have : bits .and .i64 x 255 = x % 256 := and_mask_i64 x 8 (by decide)
  rw [this, Int.tmod_eq_emod_of_nonneg (by omega)]
  have := Int.emod_nonneg (x % 256) (show (m : Int) ≠ 0 by omega)
  have := Int.emod_lt_of_pos (x % 256) (show (0 : Int) < m by omega)
  exact ⟨(x % 256 % m).toNat, by omega, by omega⟩
theorem lit_cell (w : World) (cs : List ByteArray) (b : Nat) (hb : ∀ s ∈ cs, s.size ≤ b) (k : Nat) (hk : k < cs.length) :
    ∃ s : ByteArray, (w.alloc (.cells (strs cs).toArray 9)).cell? ⟨w.heap.size, k, none⟩ = some (.string s) ∧ s.size ≤ b := by
  refine ⟨cs[k], ?_, hb _ (List.getElem_mem hk)⟩
  rw [(Whole.mk w 9 (strs cs).toArray).cell k]
  simp [strs, hk]
theorem names_small : ∀ s ∈ namesS, s.size ≤ 16 := by decide
def SmallStr (v : Value) : Prop := ∃ s : ByteArray, v = .string s ∧ s.size ≤ 16

theorem one_0 (n : Int) (p : Nat) (hp : (bits .and .i64 n 255).tmod 33 + 1 = (p : Int)) (hp1 : 1 ≤ p) (hp2 : p ≤ 33) (hG : p = 1 ∨ (8 ≤ p ∧ p ≤ 11) ∨ (12 ≤ p ∧ p ≤ 19) ∨ p = 31) (W : World) : Calls Tryz.prog 47 #[.int .i64 n] W fun e w' => ∃ s : ByteArray, e = .returned (.string s) ∧ s.size ≤ 64 ∧ Below W.heap.size W w' := by
  have HG := Lib.hid hG
  clear hG
  obtain ⟨k6, hk6, lk6⟩ : ∃ k : Nat, bits .and .i64 (n / 256) 7 = (k : Int) ∧ k < 8 := mask_nat _ 3 (by decide)
  obtain ⟨k7, hk7, lk7⟩ : ∃ k : Nat, bits .and .i64 (n / 2048) 7 = (k : Int) ∧ k < 8 := mask_nat _ 3 (by decide)
  obtain ⟨k1, hk1, lk1⟩ : ∃ k : Nat, bits .and .i64 (n / 16384) 1 = (k : Int) ∧ k < 2 := mask_nat _ 1 (by decide)
  obtain ⟨k3, hk3, lk3⟩ : ∃ k : Nat, bits .and .i64 (n / 16384) 3 = (k : Int) ∧ k < 4 := mask_nat _ 2 (by decide)
  obtain ⟨k8, hk8, lk8⟩ : ∃ k : Nat, bits .and .i64 (n / 16384) 7 = (k : Int) ∧ k < 8 := mask_nat _ 3 (by decide)
  obtain ⟨m5, hm5, lm5⟩ : ∃ k : Nat, (bits .and .i64 (n / 16384) 255).tmod 5 = (k : Int) ∧ k < 5 := mask_mod _ 5 (by decide)
  obtain ⟨m3, hm3, lm3⟩ : ∃ k : Nat, (bits .and .i64 (n / 16384) 255).tmod 3 = (k : Int) ∧ k < 3 := mask_mod _ 3 (by decide)
  obtain ⟨k9, hk9, lk9⟩ : ∃ k : Nat, bits .and .i64 (n / 536870912) 7 = (k : Int) ∧ k < 8 := mask_nat _ 3 (by decide)
  obtain ⟨m2, hm2, lm2⟩ : ∃ k : Nat, (bits .and .i64 (n / 4294967296) 255).tmod 3 = (k : Int) ∧ k < 3 := mask_mod _ 3 (by decide)
  go_enter Tryz.func47, Tryz.ntmps47
  go_upto_if 17 with (go_at_call 63; refine (rnames_any _).mono ?_; rintro e w1 ⟨A, rfl, hrow, hb⟩; have R1 := Lib.hid hrow; have B1 := Lib.hid hb; clear hrow hb)
  go_cut [5] (fun v wx => SmallStr v ∧ wx = w1)
  case first =>
    by_cases h33 : p < 33
    · obtain ⟨ad, ead, hb, hc⟩ := R1.out.get (k := p) (by rw [strs_length]; exact h33)
      injection ead with ead
      subst ead
      have HSM := Lib.hid (names_small namesS[p] (List.getElem_mem h33))
      simp only [strs, List.getElem_map] at hc
      generalize namesS[p] = nm at *
      go_wp2_with fail
      go_meet
      case rel => exact ⟨⟨nm, rfl, by have := HSM.out; omega⟩, rfl⟩
    · go_wp2_with fail
      go_meet
      case rel => exact ⟨⟨_, rfl, by decide⟩, rfl⟩
  case rest =>
    obtain ⟨⟨nm, rfl, hnm⟩, rfl⟩ := hcut
    have HNM := Lib.hid hnm
    clear hnm
    have BW := Lib.hid B1.out
    clear R1 B1
    generalize wc = w1 at *

    go_upto_region 6 with fail
    go_cut [6] (fun v wx => SmallStr v ∧ Below w1.heap.size w1 wx)
    case first =>
      obtain ⟨sp, cp, bp⟩ : ∃ s : ByteArray, (w1.alloc (.cells #[.string ⟨#[48]⟩, .string ⟨#[49, 48, 112, 120]⟩, .string ⟨#[49, 46, 53, 112, 120]⟩, .string ⟨#[54, 52, 112, 120]⟩, .string ⟨#[49, 48, 48, 112, 120]⟩, .string ⟨#[48, 46, 48, 49, 54, 112, 120]⟩, .string ⟨#[51, 51, 46, 51, 51, 51, 112, 120]⟩, .string ⟨#[50, 48, 48, 112, 120]⟩] 9)).cell? ⟨w1.heap.size, k6, none⟩ = some (.string s) ∧ s.size ≤ 16 := lit_cell w1 [⟨#[48]⟩, ⟨#[49, 48, 112, 120]⟩, ⟨#[49, 46, 53, 112, 120]⟩, ⟨#[54, 52, 112, 120]⟩, ⟨#[49, 48, 48, 112, 120]⟩, ⟨#[48, 46, 48, 49, 54, 112, 120]⟩, ⟨#[51, 51, 46, 51, 51, 51, 112, 120]⟩, ⟨#[50, 48, 48, 112, 120]⟩] 16 (by decide) k6 (by simp; omega)
      have Bp := Lib.hid bp
      clear bp
      go_wp2_with fail
      go_meet
      case rel => exact ⟨⟨sp, rfl, by have := Bp.out; omega⟩, (Below.refl _ _).alloc (Nat.le_refl _) _⟩
    case rest =>
      obtain ⟨⟨s6, rfl, h6⟩, b6⟩ := hcut
      have B6 := Lib.hid h6
      have BX := Lib.hid (BW.out.trans (b6.mono BW.out.size))
      clear h6 b6 BW
      generalize wc = w2 at *
      go_upto_region 7 with fail
      go_cut [7] (fun v wx => SmallStr v ∧ Below w2.heap.size w2 wx)
      case first =>
        obtain ⟨sq, cq, bq⟩ : ∃ s : ByteArray, (w2.alloc (.cells #[.string s6, .string s6, .string s6, .string ⟨#[53, 48, 37]⟩, .string ⟨#[49, 48, 48, 37]⟩, .string ⟨#[51, 51, 46, 51, 51, 37]⟩, .string ⟨#[97, 117, 116, 111]⟩, .string ⟨#[110, 111, 110, 101]⟩] 9)).cell? ⟨w2.heap.size, k7, none⟩ = some (.string s) ∧ s.size ≤ 16 := lit_cell w2 [s6, s6, s6, ⟨#[53, 48, 37]⟩, ⟨#[49, 48, 48, 37]⟩, ⟨#[51, 51, 46, 51, 51, 37]⟩, ⟨#[97, 117, 116, 111]⟩, ⟨#[110, 111, 110, 101]⟩] 16 (by simp only [List.mem_cons, List.not_mem_nil, or_false]; rintro s (rfl | rfl | rfl | rfl | rfl | rfl | rfl | rfl) <;> first | exact B6.out | decide) k7 (by simp; omega)
        have Bq := Lib.hid bq
        clear bq
        go_wp2_with fail
        go_meet
        case rel => exact ⟨⟨sq, rfl, by have := Bq.out; omega⟩, (Below.refl _ _).alloc (Nat.le_refl _) _⟩
      case rest =>
        obtain ⟨⟨s7, rfl, h7⟩, b7⟩ := hcut
        have B7 := Lib.hid h7
        have BY := Lib.hid (BX.out.trans (b7.mono BX.out.size))
        clear b7 BX
        generalize wc = w3 at *
        go_upto_block 0 with fail
        go_cut [3, 8] (fun _ v wx => (∃ s : ByteArray, v = .string s ∧ s.size ≤ 20) ∧ Below w3.heap.size w3 wx)
        case first =>
          rcases HG.out with rfl | ⟨hlo, hhi⟩ | ⟨hlo, hhi⟩ | rfl
          · obtain ⟨sa, ca, ba⟩ : ∃ s : ByteArray, (w3.alloc (.cells #[.string ⟨#[98, 108, 111, 99, 107]⟩, .string ⟨#[105, 110, 108, 105, 110, 101]⟩, .string ⟨#[102, 108, 101, 120]⟩, .string ⟨#[110, 111, 110, 101]⟩, .string ⟨#[98, 108, 111, 99, 107]⟩, .string ⟨#[102, 108, 101, 120]⟩, .string ⟨#[98, 108, 111, 99, 107]⟩, .string ⟨#[105, 110, 108, 105, 110, 101]⟩] 9)).cell? ⟨w3.heap.size, k8, none⟩ = some (.string s) ∧ s.size ≤ 16 := lit_cell w3 [⟨#[98, 108, 111, 99, 107]⟩, ⟨#[105, 110, 108, 105, 110, 101]⟩, ⟨#[102, 108, 101, 120]⟩, ⟨#[110, 111, 110, 101]⟩, ⟨#[98, 108, 111, 99, 107]⟩, ⟨#[102, 108, 101, 120]⟩, ⟨#[98, 108, 111, 99, 107]⟩, ⟨#[105, 110, 108, 105, 110, 101]⟩] 16 (by decide) k8 (by simp; omega)
            have Ba := Lib.hid ba
            clear ba
            go_wp2_with fail
            go_meet
            case rel => exact ⟨⟨sa, rfl, by have := Ba.out; omega⟩, (Below.refl _ _).alloc (Nat.le_refl _) _⟩
          · have n1 : ((p : Int) == 1) = false := by simp; omega
            have n20 : ((p : Int) == 20) = false := by simp; omega
            have n21 : ((p : Int) == 21) = false := by simp; omega
            have n23 : ((p : Int) == 23) = false := by simp; omega
            have n24 : ((p : Int) == 24) = false := by simp; omega
            have n25 : ((p : Int) == 25) = false := by simp; omega
            have n26 : ((p : Int) == 26) = false := by simp; omega
            have n27 : ((p : Int) == 27) = false := by simp; omega
            have n28 : ((p : Int) == 28) = false := by simp; omega
            have n29 : ((p : Int) == 29) = false := by simp; omega
            have n30 : ((p : Int) == 30) = false := by simp; omega
            have n31 : ((p : Int) == 31) = false := by simp; omega
            have n32 : ((p : Int) == 32) = false := by simp; omega
            have g8 : (8 : Int) ≤ p := by omega
            have g12 : ¬ (12 : Int) ≤ p := by omega
            have g11 : (p : Int) ≤ 11 := by omega
            have g19 : (p : Int) ≤ 19 := by omega
            obtain ⟨sb, cb, bb⟩ : ∃ s : ByteArray, (w3.alloc (.cells #[.string ⟨#[]⟩, .string ⟨#[45]⟩] 9)).cell? ⟨w3.heap.size, k1, none⟩ = some (.string s) ∧ s.size ≤ 4 := lit_cell w3 [⟨#[]⟩, ⟨#[45]⟩] 4 (by decide) k1 (by simp; omega)
            have Bb := Lib.hid bb
            go_wp2_with fail
            go_meet
            case rel => exact ⟨⟨sb ++ s7, rfl, by rw [ByteArray.size_append]; have := Bb.out; have := B7.out; omega⟩, (Below.refl _ _).alloc (Nat.le_refl _) _⟩
          · have n1 : ((p : Int) == 1) = false := by simp; omega
            have n20 : ((p : Int) == 20) = false := by simp; omega
            have n21 : ((p : Int) == 21) = false := by simp; omega
            have n23 : ((p : Int) == 23) = false := by simp; omega
            have n24 : ((p : Int) == 24) = false := by simp; omega
            have n25 : ((p : Int) == 25) = false := by simp; omega
            have n26 : ((p : Int) == 26) = false := by simp; omega
            have n27 : ((p : Int) == 27) = false := by simp; omega
            have n28 : ((p : Int) == 28) = false := by simp; omega
            have n29 : ((p : Int) == 29) = false := by simp; omega
            have n30 : ((p : Int) == 30) = false := by simp; omega
            have n31 : ((p : Int) == 31) = false := by simp; omega
            have n32 : ((p : Int) == 32) = false := by simp; omega
            have g8 : (8 : Int) ≤ p := by omega
            have g12 : (12 : Int) ≤ p := by omega
            have g11 : ¬ (p : Int) ≤ 11 := by omega
            have g19 : (p : Int) ≤ 19 := by omega
            go_wp2_with fail
            go_meet
            case rel => exact ⟨⟨s6, rfl, by have := B6.out; omega⟩, Below.refl _ _⟩
          · skip
            go_wp2_with fail
            go_meet
            case rel => exact ⟨⟨s6, rfl, by have := B6.out; omega⟩, Below.refl _ _⟩
        case rest =>
          clear h7
          obtain ⟨⟨s8, rfl, h8⟩, b8⟩ := hcut
          have B8 := Lib.hid h8
          have BZ := Lib.hid (BY.out.trans (b8.mono BY.out.size))
          clear h8 b8 BY
          generalize wc = w4 at *
          go_upto_if 175 with fail
          go_cut [8] (fun v wx => (∃ s : ByteArray, v = .string s ∧ s.size ≤ 20) ∧ Below w4.heap.size w4 wx)
          case first =>
            obtain ⟨sr, cr, br⟩ : ∃ s : ByteArray, (w4.alloc (.cells #[.string ⟨#[45, 49, 112, 120]⟩, .string ⟨#[49, 46, 50, 51, 52, 53, 112, 120]⟩, .string ⟨#[49, 48, 49]⟩, .string ⟨#[97, 117, 116, 111]⟩, .string ⟨#[120]⟩, .string ⟨#[53]⟩, .string ⟨#[49, 48, 48, 48, 48, 48, 112, 120]⟩, .string ⟨#[49, 46, 37]⟩] 9)).cell? ⟨w4.heap.size, k9, none⟩ = some (.string s) ∧ s.size ≤ 16 := lit_cell w4 [⟨#[45, 49, 112, 120]⟩, ⟨#[49, 46, 50, 51, 52, 53, 112, 120]⟩, ⟨#[49, 48, 49]⟩, ⟨#[97, 117, 116, 111]⟩, ⟨#[120]⟩, ⟨#[53]⟩, ⟨#[49, 48, 48, 48, 48, 48, 112, 120]⟩, ⟨#[49, 46, 37]⟩] 16 (by decide) k9 (by simp; omega)
            have Br := Lib.hid br
            clear br
            go_wp2_with fail
            all_goals (go_meet; case rel => first
              | exact ⟨⟨sr, rfl, by have := Br.out; omega⟩, (Below.refl _ _).alloc (Nat.le_refl _) _⟩
              | exact ⟨⟨s8, rfl, B8.out⟩, Below.refl _ _⟩)
          case rest =>
            obtain ⟨⟨s9, rfl, h9⟩, b9⟩ := hcut
            have B9 := Lib.hid (BZ.out.trans (b9.mono BZ.out.size))
            clear b9 BZ
            have hnm := HNM.out
            generalize wc = w5 at *
            obtain ⟨st, ct, bt⟩ : ∃ s : ByteArray, (w5.alloc (.cells #[.string ⟨#[58]⟩, .string ⟨#[58, 32]⟩, .string ⟨#[32, 58, 32]⟩] 9)).cell? ⟨w5.heap.size, m2, none⟩ = some (.string s) ∧ s.size ≤ 16 := lit_cell w5 [⟨#[58]⟩, ⟨#[58, 32]⟩, ⟨#[32, 58, 32]⟩] 16 (by decide) m2 (by simp; omega)
            have Bt := Lib.hid bt
            have hcc : (nm ++ st).size ≤ 32 := by rw [ByteArray.size_append]; omega
            go_wp2_with fail
            go_ret
            exact ⟨_, rfl, by rw [ByteArray.size_append]; omega, B9.out.alloc B9.out.size _⟩
theorem one_1 (n : Int) (p : Nat) (hp : (bits .and .i64 n 255).tmod 33 + 1 = (p : Int)) (hp1 : 1 ≤ p) (hp2 : p ≤ 33) (hG : p = 20 ∨ p = 21 ∨ p = 23 ∨ p = 24) (W : World) : Calls Tryz.prog 47 #[.int .i64 n] W fun e w' => ∃ s : ByteArray, e = .returned (.string s) ∧ s.size ≤ 64 ∧ Below W.heap.size W w' := by
  have HG := Lib.hid hG
  clear hG
  obtain ⟨k6, hk6, lk6⟩ : ∃ k : Nat, bits .and .i64 (n / 256) 7 = (k : Int) ∧ k < 8 := mask_nat _ 3 (by decide)
  obtain ⟨k7, hk7, lk7⟩ : ∃ k : Nat, bits .and .i64 (n / 2048) 7 = (k : Int) ∧ k < 8 := mask_nat _ 3 (by decide)
  obtain ⟨k1, hk1, lk1⟩ : ∃ k : Nat, bits .and .i64 (n / 16384) 1 = (k : Int) ∧ k < 2 := mask_nat _ 1 (by decide)
  obtain ⟨k3, hk3, lk3⟩ : ∃ k : Nat, bits .and .i64 (n / 16384) 3 = (k : Int) ∧ k < 4 := mask_nat _ 2 (by decide)
  obtain ⟨k8, hk8, lk8⟩ : ∃ k : Nat, bits .and .i64 (n / 16384) 7 = (k : Int) ∧ k < 8 := mask_nat _ 3 (by decide)
  obtain ⟨m5, hm5, lm5⟩ : ∃ k : Nat, (bits .and .i64 (n / 16384) 255).tmod 5 = (k : Int) ∧ k < 5 := mask_mod _ 5 (by decide)
  obtain ⟨m3, hm3, lm3⟩ : ∃ k : Nat, (bits .and .i64 (n / 16384) 255).tmod 3 = (k : Int) ∧ k < 3 := mask_mod _ 3 (by decide)
  obtain ⟨k9, hk9, lk9⟩ : ∃ k : Nat, bits .and .i64 (n / 536870912) 7 = (k : Int) ∧ k < 8 := mask_nat _ 3 (by decide)
  obtain ⟨m2, hm2, lm2⟩ : ∃ k : Nat, (bits .and .i64 (n / 4294967296) 255).tmod 3 = (k : Int) ∧ k < 3 := mask_mod _ 3 (by decide)
  go_enter Tryz.func47, Tryz.ntmps47
  go_upto_if 17 with (go_at_call 63; refine (rnames_any _).mono ?_; rintro e w1 ⟨A, rfl, hrow, hb⟩; have R1 := Lib.hid hrow; have B1 := Lib.hid hb; clear hrow hb)
  go_cut [5] (fun v wx => SmallStr v ∧ wx = w1)
  case first =>
    by_cases h33 : p < 33
    · obtain ⟨ad, ead, hb, hc⟩ := R1.out.get (k := p) (by rw [strs_length]; exact h33)
      injection ead with ead
      subst ead
      have HSM := Lib.hid (names_small namesS[p] (List.getElem_mem h33))
      simp only [strs, List.getElem_map] at hc
      generalize namesS[p] = nm at *
      go_wp2_with fail
      go_meet
      case rel => exact ⟨⟨nm, rfl, by have := HSM.out; omega⟩, rfl⟩
    · go_wp2_with fail
      go_meet
      case rel => exact ⟨⟨_, rfl, by decide⟩, rfl⟩
  case rest =>
    obtain ⟨⟨nm, rfl, hnm⟩, rfl⟩ := hcut
    have HNM := Lib.hid hnm
    clear hnm
    have BW := Lib.hid B1.out
    clear R1 B1
    generalize wc = w1 at *

    go_upto_region 6 with fail
    go_cut [6] (fun v wx => SmallStr v ∧ Below w1.heap.size w1 wx)
    case first =>
      obtain ⟨sp, cp, bp⟩ : ∃ s : ByteArray, (w1.alloc (.cells #[.string ⟨#[48]⟩, .string ⟨#[49, 48, 112, 120]⟩, .string ⟨#[49, 46, 53, 112, 120]⟩, .string ⟨#[54, 52, 112, 120]⟩, .string ⟨#[49, 48, 48, 112, 120]⟩, .string ⟨#[48, 46, 48, 49, 54, 112, 120]⟩, .string ⟨#[51, 51, 46, 51, 51, 51, 112, 120]⟩, .string ⟨#[50, 48, 48, 112, 120]⟩] 9)).cell? ⟨w1.heap.size, k6, none⟩ = some (.string s) ∧ s.size ≤ 16 := lit_cell w1 [⟨#[48]⟩, ⟨#[49, 48, 112, 120]⟩, ⟨#[49, 46, 53, 112, 120]⟩, ⟨#[54, 52, 112, 120]⟩, ⟨#[49, 48, 48, 112, 120]⟩, ⟨#[48, 46, 48, 49, 54, 112, 120]⟩, ⟨#[51, 51, 46, 51, 51, 51, 112, 120]⟩, ⟨#[50, 48, 48, 112, 120]⟩] 16 (by decide) k6 (by simp; omega)
      have Bp := Lib.hid bp
      clear bp
      go_wp2_with fail
      go_meet
      case rel => exact ⟨⟨sp, rfl, by have := Bp.out; omega⟩, (Below.refl _ _).alloc (Nat.le_refl _) _⟩
    case rest =>
      obtain ⟨⟨s6, rfl, h6⟩, b6⟩ := hcut
      have B6 := Lib.hid h6
      have BX := Lib.hid (BW.out.trans (b6.mono BW.out.size))
      clear h6 b6 BW
      generalize wc = w2 at *
      go_upto_region 7 with fail
      go_cut [7] (fun v wx => SmallStr v ∧ Below w2.heap.size w2 wx)
      case first =>
        obtain ⟨sq, cq, bq⟩ : ∃ s : ByteArray, (w2.alloc (.cells #[.string s6, .string s6, .string s6, .string ⟨#[53, 48, 37]⟩, .string ⟨#[49, 48, 48, 37]⟩, .string ⟨#[51, 51, 46, 51, 51, 37]⟩, .string ⟨#[97, 117, 116, 111]⟩, .string ⟨#[110, 111, 110, 101]⟩] 9)).cell? ⟨w2.heap.size, k7, none⟩ = some (.string s) ∧ s.size ≤ 16 := lit_cell w2 [s6, s6, s6, ⟨#[53, 48, 37]⟩, ⟨#[49, 48, 48, 37]⟩, ⟨#[51, 51, 46, 51, 51, 37]⟩, ⟨#[97, 117, 116, 111]⟩, ⟨#[110, 111, 110, 101]⟩] 16 (by simp only [List.mem_cons, List.not_mem_nil, or_false]; rintro s (rfl | rfl | rfl | rfl | rfl | rfl | rfl | rfl) <;> first | exact B6.out | decide) k7 (by simp; omega)
        have Bq := Lib.hid bq
        clear bq
        go_wp2_with fail
        go_meet
        case rel => exact ⟨⟨sq, rfl, by have := Bq.out; omega⟩, (Below.refl _ _).alloc (Nat.le_refl _) _⟩
      case rest =>
        obtain ⟨⟨s7, rfl, h7⟩, b7⟩ := hcut
        have B7 := Lib.hid h7
        have BY := Lib.hid (BX.out.trans (b7.mono BX.out.size))
        clear b7 BX
        generalize wc = w3 at *
        go_upto_block 0 with fail
        go_cut [3, 8] (fun _ v wx => (∃ s : ByteArray, v = .string s ∧ s.size ≤ 20) ∧ Below w3.heap.size w3 wx)
        case first =>
          rcases HG.out with rfl | rfl | rfl | rfl
          · obtain ⟨sc, cc, bc⟩ : ∃ s : ByteArray, (w3.alloc (.cells #[.string ⟨#[114, 111, 119]⟩, .string ⟨#[114, 111, 119, 45, 114, 101, 118, 101, 114, 115, 101]⟩, .string ⟨#[99, 111, 108, 117, 109, 110]⟩, .string ⟨#[99, 111, 108, 117, 109, 110, 45, 114, 101, 118, 101, 114, 115, 101]⟩] 9)).cell? ⟨w3.heap.size, k3, none⟩ = some (.string s) ∧ s.size ≤ 16 := lit_cell w3 [⟨#[114, 111, 119]⟩, ⟨#[114, 111, 119, 45, 114, 101, 118, 101, 114, 115, 101]⟩, ⟨#[99, 111, 108, 117, 109, 110]⟩, ⟨#[99, 111, 108, 117, 109, 110, 45, 114, 101, 118, 101, 114, 115, 101]⟩] 16 (by decide) k3 (by simp; omega)
            have Bc := Lib.hid bc
            clear bc
            go_wp2_with fail
            go_meet
            case rel => exact ⟨⟨sc, rfl, by have := Bc.out; omega⟩, (Below.refl _ _).alloc (Nat.le_refl _) _⟩
          · obtain ⟨sd, cd, bd⟩ : ∃ s : ByteArray, (w3.alloc (.cells #[.string ⟨#[110, 111, 119, 114, 97, 112]⟩, .string ⟨#[119, 114, 97, 112]⟩, .string ⟨#[119, 114, 97, 112, 45, 114, 101, 118, 101, 114, 115, 101]⟩, .string ⟨#[119, 114, 97, 112]⟩] 9)).cell? ⟨w3.heap.size, k3, none⟩ = some (.string s) ∧ s.size ≤ 16 := lit_cell w3 [⟨#[110, 111, 119, 114, 97, 112]⟩, ⟨#[119, 114, 97, 112]⟩, ⟨#[119, 114, 97, 112, 45, 114, 101, 118, 101, 114, 115, 101]⟩, ⟨#[119, 114, 97, 112]⟩] 16 (by decide) k3 (by simp; omega)
            have Bd := Lib.hid bd
            clear bd
            go_wp2_with fail
            go_meet
            case rel => exact ⟨⟨sd, rfl, by have := Bd.out; omega⟩, (Below.refl _ _).alloc (Nat.le_refl _) _⟩
          · obtain ⟨se, ce, be⟩ : ∃ s : ByteArray, (w3.alloc (.cells #[.string ⟨#[48]⟩, .string ⟨#[49]⟩, .string ⟨#[50]⟩, .string ⟨#[55]⟩] 9)).cell? ⟨w3.heap.size, k3, none⟩ = some (.string s) ∧ s.size ≤ 16 := lit_cell w3 [⟨#[48]⟩, ⟨#[49]⟩, ⟨#[50]⟩, ⟨#[55]⟩] 16 (by decide) k3 (by simp; omega)
            have Be := Lib.hid be
            clear be
            go_wp2_with fail
            go_meet
            case rel => exact ⟨⟨se, rfl, by have := Be.out; omega⟩, (Below.refl _ _).alloc (Nat.le_refl _) _⟩
          · obtain ⟨se, ce, be⟩ : ∃ s : ByteArray, (w3.alloc (.cells #[.string ⟨#[48]⟩, .string ⟨#[49]⟩, .string ⟨#[50]⟩, .string ⟨#[55]⟩] 9)).cell? ⟨w3.heap.size, k3, none⟩ = some (.string s) ∧ s.size ≤ 16 := lit_cell w3 [⟨#[48]⟩, ⟨#[49]⟩, ⟨#[50]⟩, ⟨#[55]⟩] 16 (by decide) k3 (by simp; omega)
            have Be := Lib.hid be
            clear be
            go_wp2_with fail
            go_meet
            case rel => exact ⟨⟨se, rfl, by have := Be.out; omega⟩, (Below.refl _ _).alloc (Nat.le_refl _) _⟩
        case rest =>
          clear h7
          obtain ⟨⟨s8, rfl, h8⟩, b8⟩ := hcut
          have B8 := Lib.hid h8
          have BZ := Lib.hid (BY.out.trans (b8.mono BY.out.size))
          clear h8 b8 BY
          generalize wc = w4 at *
          go_upto_if 175 with fail
          go_cut [8] (fun v wx => (∃ s : ByteArray, v = .string s ∧ s.size ≤ 20) ∧ Below w4.heap.size w4 wx)
          case first =>
            obtain ⟨sr, cr, br⟩ : ∃ s : ByteArray, (w4.alloc (.cells #[.string ⟨#[45, 49, 112, 120]⟩, .string ⟨#[49, 46, 50, 51, 52, 53, 112, 120]⟩, .string ⟨#[49, 48, 49]⟩, .string ⟨#[97, 117, 116, 111]⟩, .string ⟨#[120]⟩, .string ⟨#[53]⟩, .string ⟨#[49, 48, 48, 48, 48, 48, 112, 120]⟩, .string ⟨#[49, 46, 37]⟩] 9)).cell? ⟨w4.heap.size, k9, none⟩ = some (.string s) ∧ s.size ≤ 16 := lit_cell w4 [⟨#[45, 49, 112, 120]⟩, ⟨#[49, 46, 50, 51, 52, 53, 112, 120]⟩, ⟨#[49, 48, 49]⟩, ⟨#[97, 117, 116, 111]⟩, ⟨#[120]⟩, ⟨#[53]⟩, ⟨#[49, 48, 48, 48, 48, 48, 112, 120]⟩, ⟨#[49, 46, 37]⟩] 16 (by decide) k9 (by simp; omega)
            have Br := Lib.hid br
            clear br
            go_wp2_with fail
            all_goals (go_meet; case rel => first
              | exact ⟨⟨sr, rfl, by have := Br.out; omega⟩, (Below.refl _ _).alloc (Nat.le_refl _) _⟩
              | exact ⟨⟨s8, rfl, B8.out⟩, Below.refl _ _⟩)
          case rest =>
            obtain ⟨⟨s9, rfl, h9⟩, b9⟩ := hcut
            have B9 := Lib.hid (BZ.out.trans (b9.mono BZ.out.size))
            clear b9 BZ
            have hnm := HNM.out
            generalize wc = w5 at *
            obtain ⟨st, ct, bt⟩ : ∃ s : ByteArray, (w5.alloc (.cells #[.string ⟨#[58]⟩, .string ⟨#[58, 32]⟩, .string ⟨#[32, 58, 32]⟩] 9)).cell? ⟨w5.heap.size, m2, none⟩ = some (.string s) ∧ s.size ≤ 16 := lit_cell w5 [⟨#[58]⟩, ⟨#[58, 32]⟩, ⟨#[32, 58, 32]⟩] 16 (by decide) m2 (by simp; omega)
            have Bt := Lib.hid bt
            have hcc : (nm ++ st).size ≤ 32 := by rw [ByteArray.size_append]; omega
            go_wp2_with fail
            go_ret
            exact ⟨_, rfl, by rw [ByteArray.size_append]; omega, B9.out.alloc B9.out.size _⟩
theorem one_2 (n : Int) (p : Nat) (hp : (bits .and .i64 n 255).tmod 33 + 1 = (p : Int)) (hp1 : 1 ≤ p) (hp2 : p ≤ 33) (hG : p = 25 ∨ p = 26 ∨ p = 27) (W : World) : Calls Tryz.prog 47 #[.int .i64 n] W fun e w' => ∃ s : ByteArray, e = .returned (.string s) ∧ s.size ≤ 64 ∧ Below W.heap.size W w' := by
  have HG := Lib.hid hG
  clear hG
  obtain ⟨k6, hk6, lk6⟩ : ∃ k : Nat, bits .and .i64 (n / 256) 7 = (k : Int) ∧ k < 8 := mask_nat _ 3 (by decide)
  obtain ⟨k7, hk7, lk7⟩ : ∃ k : Nat, bits .and .i64 (n / 2048) 7 = (k : Int) ∧ k < 8 := mask_nat _ 3 (by decide)
  obtain ⟨k1, hk1, lk1⟩ : ∃ k : Nat, bits .and .i64 (n / 16384) 1 = (k : Int) ∧ k < 2 := mask_nat _ 1 (by decide)
  obtain ⟨k3, hk3, lk3⟩ : ∃ k : Nat, bits .and .i64 (n / 16384) 3 = (k : Int) ∧ k < 4 := mask_nat _ 2 (by decide)
  obtain ⟨k8, hk8, lk8⟩ : ∃ k : Nat, bits .and .i64 (n / 16384) 7 = (k : Int) ∧ k < 8 := mask_nat _ 3 (by decide)
  obtain ⟨m5, hm5, lm5⟩ : ∃ k : Nat, (bits .and .i64 (n / 16384) 255).tmod 5 = (k : Int) ∧ k < 5 := mask_mod _ 5 (by decide)
  obtain ⟨m3, hm3, lm3⟩ : ∃ k : Nat, (bits .and .i64 (n / 16384) 255).tmod 3 = (k : Int) ∧ k < 3 := mask_mod _ 3 (by decide)
  obtain ⟨k9, hk9, lk9⟩ : ∃ k : Nat, bits .and .i64 (n / 536870912) 7 = (k : Int) ∧ k < 8 := mask_nat _ 3 (by decide)
  obtain ⟨m2, hm2, lm2⟩ : ∃ k : Nat, (bits .and .i64 (n / 4294967296) 255).tmod 3 = (k : Int) ∧ k < 3 := mask_mod _ 3 (by decide)
  go_enter Tryz.func47, Tryz.ntmps47
  go_upto_if 17 with (go_at_call 63; refine (rnames_any _).mono ?_; rintro e w1 ⟨A, rfl, hrow, hb⟩; have R1 := Lib.hid hrow; have B1 := Lib.hid hb; clear hrow hb)
  go_cut [5] (fun v wx => SmallStr v ∧ wx = w1)
  case first =>
    by_cases h33 : p < 33
    · obtain ⟨ad, ead, hb, hc⟩ := R1.out.get (k := p) (by rw [strs_length]; exact h33)
      injection ead with ead
      subst ead
      have HSM := Lib.hid (names_small namesS[p] (List.getElem_mem h33))
      simp only [strs, List.getElem_map] at hc
      generalize namesS[p] = nm at *
      go_wp2_with fail
      go_meet
      case rel => exact ⟨⟨nm, rfl, by have := HSM.out; omega⟩, rfl⟩
    · go_wp2_with fail
      go_meet
      case rel => exact ⟨⟨_, rfl, by decide⟩, rfl⟩
  case rest =>
    obtain ⟨⟨nm, rfl, hnm⟩, rfl⟩ := hcut
    have HNM := Lib.hid hnm
    clear hnm
    have BW := Lib.hid B1.out
    clear R1 B1
    generalize wc = w1 at *

    go_upto_region 6 with fail
    go_cut [6] (fun v wx => SmallStr v ∧ Below w1.heap.size w1 wx)
    case first =>
      obtain ⟨sp, cp, bp⟩ : ∃ s : ByteArray, (w1.alloc (.cells #[.string ⟨#[48]⟩, .string ⟨#[49, 48, 112, 120]⟩, .string ⟨#[49, 46, 53, 112, 120]⟩, .string ⟨#[54, 52, 112, 120]⟩, .string ⟨#[49, 48, 48, 112, 120]⟩, .string ⟨#[48, 46, 48, 49, 54, 112, 120]⟩, .string ⟨#[51, 51, 46, 51, 51, 51, 112, 120]⟩, .string ⟨#[50, 48, 48, 112, 120]⟩] 9)).cell? ⟨w1.heap.size, k6, none⟩ = some (.string s) ∧ s.size ≤ 16 := lit_cell w1 [⟨#[48]⟩, ⟨#[49, 48, 112, 120]⟩, ⟨#[49, 46, 53, 112, 120]⟩, ⟨#[54, 52, 112, 120]⟩, ⟨#[49, 48, 48, 112, 120]⟩, ⟨#[48, 46, 48, 49, 54, 112, 120]⟩, ⟨#[51, 51, 46, 51, 51, 51, 112, 120]⟩, ⟨#[50, 48, 48, 112, 120]⟩] 16 (by decide) k6 (by simp; omega)
      have Bp := Lib.hid bp
      clear bp
      go_wp2_with fail
      go_meet
      case rel => exact ⟨⟨sp, rfl, by have := Bp.out; omega⟩, (Below.refl _ _).alloc (Nat.le_refl _) _⟩
    case rest =>
      obtain ⟨⟨s6, rfl, h6⟩, b6⟩ := hcut
      have B6 := Lib.hid h6
      have BX := Lib.hid (BW.out.trans (b6.mono BW.out.size))
      clear h6 b6 BW
      generalize wc = w2 at *
      go_upto_region 7 with fail
      go_cut [7] (fun v wx => SmallStr v ∧ Below w2.heap.size w2 wx)
      case first =>
        obtain ⟨sq, cq, bq⟩ : ∃ s : ByteArray, (w2.alloc (.cells #[.string s6, .string s6, .string s6, .string ⟨#[53, 48, 37]⟩, .string ⟨#[49, 48, 48, 37]⟩, .string ⟨#[51, 51, 46, 51, 51, 37]⟩, .string ⟨#[97, 117, 116, 111]⟩, .string ⟨#[110, 111, 110, 101]⟩] 9)).cell? ⟨w2.heap.size, k7, none⟩ = some (.string s) ∧ s.size ≤ 16 := lit_cell w2 [s6, s6, s6, ⟨#[53, 48, 37]⟩, ⟨#[49, 48, 48, 37]⟩, ⟨#[51, 51, 46, 51, 51, 37]⟩, ⟨#[97, 117, 116, 111]⟩, ⟨#[110, 111, 110, 101]⟩] 16 (by simp only [List.mem_cons, List.not_mem_nil, or_false]; rintro s (rfl | rfl | rfl | rfl | rfl | rfl | rfl | rfl) <;> first | exact B6.out | decide) k7 (by simp; omega)
        have Bq := Lib.hid bq
        clear bq
        go_wp2_with fail
        go_meet
        case rel => exact ⟨⟨sq, rfl, by have := Bq.out; omega⟩, (Below.refl _ _).alloc (Nat.le_refl _) _⟩
      case rest =>
        obtain ⟨⟨s7, rfl, h7⟩, b7⟩ := hcut
        have B7 := Lib.hid h7
        have BY := Lib.hid (BX.out.trans (b7.mono BX.out.size))
        clear b7 BX
        generalize wc = w3 at *
        go_upto_block 0 with fail
        go_cut [3, 8] (fun _ v wx => (∃ s : ByteArray, v = .string s ∧ s.size ≤ 20) ∧ Below w3.heap.size w3 wx)
        case first =>
          rcases HG.out with rfl | rfl | rfl
          · obtain ⟨sf, cf, bf⟩ : ∃ s : ByteArray, (w3.alloc (.cells #[.string ⟨#[48]⟩, .string ⟨#[49]⟩, .string ⟨#[45, 49]⟩, .string ⟨#[49, 48, 48, 48]⟩] 9)).cell? ⟨w3.heap.size, k3, none⟩ = some (.string s) ∧ s.size ≤ 16 := lit_cell w3 [⟨#[48]⟩, ⟨#[49]⟩, ⟨#[45, 49]⟩, ⟨#[49, 48, 48, 48]⟩] 16 (by decide) k3 (by simp; omega)
            have Bf := Lib.hid bf
            clear bf
            go_wp2_with fail
            go_meet
            case rel => exact ⟨⟨sf, rfl, by have := Bf.out; omega⟩, (Below.refl _ _).alloc (Nat.le_refl _) _⟩
          · obtain ⟨sg, cg, bg⟩ : ∃ s : ByteArray, (w3.alloc (.cells #[.string ⟨#[115, 116, 97, 114, 116]⟩, .string ⟨#[101, 110, 100]⟩, .string ⟨#[99, 101, 110, 116, 101, 114]⟩, .string ⟨#[98, 101, 116, 119, 101, 101, 110]⟩, .string ⟨#[97, 114, 111, 117, 110, 100]⟩] 9)).cell? ⟨w3.heap.size, m5, none⟩ = some (.string s) ∧ s.size ≤ 16 := lit_cell w3 [⟨#[115, 116, 97, 114, 116]⟩, ⟨#[101, 110, 100]⟩, ⟨#[99, 101, 110, 116, 101, 114]⟩, ⟨#[98, 101, 116, 119, 101, 101, 110]⟩, ⟨#[97, 114, 111, 117, 110, 100]⟩] 16 (by decide) m5 (by simp; omega)
            have Bg := Lib.hid bg
            clear bg
            go_wp2_with fail
            go_meet
            case rel => exact ⟨⟨sg, rfl, by have := Bg.out; omega⟩, (Below.refl _ _).alloc (Nat.le_refl _) _⟩
          · obtain ⟨sh, ch, bh⟩ : ∃ s : ByteArray, (w3.alloc (.cells #[.string ⟨#[115, 116, 97, 114, 116]⟩, .string ⟨#[101, 110, 100]⟩, .string ⟨#[99, 101, 110, 116, 101, 114]⟩, .string ⟨#[115, 116, 114, 101, 116, 99, 104]⟩] 9)).cell? ⟨w3.heap.size, k3, none⟩ = some (.string s) ∧ s.size ≤ 16 := lit_cell w3 [⟨#[115, 116, 97, 114, 116]⟩, ⟨#[101, 110, 100]⟩, ⟨#[99, 101, 110, 116, 101, 114]⟩, ⟨#[115, 116, 114, 101, 116, 99, 104]⟩] 16 (by decide) k3 (by simp; omega)
            have Bh := Lib.hid bh
            clear bh
            go_wp2_with fail
            go_meet
            case rel => exact ⟨⟨sh, rfl, by have := Bh.out; omega⟩, (Below.refl _ _).alloc (Nat.le_refl _) _⟩
        case rest =>
          clear h7
          obtain ⟨⟨s8, rfl, h8⟩, b8⟩ := hcut
          have B8 := Lib.hid h8
          have BZ := Lib.hid (BY.out.trans (b8.mono BY.out.size))
          clear h8 b8 BY
          generalize wc = w4 at *
          go_upto_if 175 with fail
          go_cut [8] (fun v wx => (∃ s : ByteArray, v = .string s ∧ s.size ≤ 20) ∧ Below w4.heap.size w4 wx)
          case first =>
            obtain ⟨sr, cr, br⟩ : ∃ s : ByteArray, (w4.alloc (.cells #[.string ⟨#[45, 49, 112, 120]⟩, .string ⟨#[49, 46, 50, 51, 52, 53, 112, 120]⟩, .string ⟨#[49, 48, 49]⟩, .string ⟨#[97, 117, 116, 111]⟩, .string ⟨#[120]⟩, .string ⟨#[53]⟩, .string ⟨#[49, 48, 48, 48, 48, 48, 112, 120]⟩, .string ⟨#[49, 46, 37]⟩] 9)).cell? ⟨w4.heap.size, k9, none⟩ = some (.string s) ∧ s.size ≤ 16 := lit_cell w4 [⟨#[45, 49, 112, 120]⟩, ⟨#[49, 46, 50, 51, 52, 53, 112, 120]⟩, ⟨#[49, 48, 49]⟩, ⟨#[97, 117, 116, 111]⟩, ⟨#[120]⟩, ⟨#[53]⟩, ⟨#[49, 48, 48, 48, 48, 48, 112, 120]⟩, ⟨#[49, 46, 37]⟩] 16 (by decide) k9 (by simp; omega)
            have Br := Lib.hid br
            clear br
            go_wp2_with fail
            all_goals (go_meet; case rel => first
              | exact ⟨⟨sr, rfl, by have := Br.out; omega⟩, (Below.refl _ _).alloc (Nat.le_refl _) _⟩
              | exact ⟨⟨s8, rfl, B8.out⟩, Below.refl _ _⟩)
          case rest =>
            obtain ⟨⟨s9, rfl, h9⟩, b9⟩ := hcut
            have B9 := Lib.hid (BZ.out.trans (b9.mono BZ.out.size))
            clear b9 BZ
            have hnm := HNM.out
            generalize wc = w5 at *
            obtain ⟨st, ct, bt⟩ : ∃ s : ByteArray, (w5.alloc (.cells #[.string ⟨#[58]⟩, .string ⟨#[58, 32]⟩, .string ⟨#[32, 58, 32]⟩] 9)).cell? ⟨w5.heap.size, m2, none⟩ = some (.string s) ∧ s.size ≤ 16 := lit_cell w5 [⟨#[58]⟩, ⟨#[58, 32]⟩, ⟨#[32, 58, 32]⟩] 16 (by decide) m2 (by simp; omega)
            have Bt := Lib.hid bt
            have hcc : (nm ++ st).size ≤ 32 := by rw [ByteArray.size_append]; omega
            go_wp2_with fail
            go_ret
            exact ⟨_, rfl, by rw [ByteArray.size_append]; omega, B9.out.alloc B9.out.size _⟩
theorem one_3 (n : Int) (p : Nat) (hp : (bits .and .i64 n 255).tmod 33 + 1 = (p : Int)) (hp1 : 1 ≤ p) (hp2 : p ≤ 33) (hG : p = 28 ∨ p = 29 ∨ p = 30) (W : World) : Calls Tryz.prog 47 #[.int .i64 n] W fun e w' => ∃ s : ByteArray, e = .returned (.string s) ∧ s.size ≤ 64 ∧ Below W.heap.size W w' := by
  have HG := Lib.hid hG
  clear hG
  obtain ⟨k6, hk6, lk6⟩ : ∃ k : Nat, bits .and .i64 (n / 256) 7 = (k : Int) ∧ k < 8 := mask_nat _ 3 (by decide)
  obtain ⟨k7, hk7, lk7⟩ : ∃ k : Nat, bits .and .i64 (n / 2048) 7 = (k : Int) ∧ k < 8 := mask_nat _ 3 (by decide)
  obtain ⟨k1, hk1, lk1⟩ : ∃ k : Nat, bits .and .i64 (n / 16384) 1 = (k : Int) ∧ k < 2 := mask_nat _ 1 (by decide)
  obtain ⟨k3, hk3, lk3⟩ : ∃ k : Nat, bits .and .i64 (n / 16384) 3 = (k : Int) ∧ k < 4 := mask_nat _ 2 (by decide)
  obtain ⟨k8, hk8, lk8⟩ : ∃ k : Nat, bits .and .i64 (n / 16384) 7 = (k : Int) ∧ k < 8 := mask_nat _ 3 (by decide)
  obtain ⟨m5, hm5, lm5⟩ : ∃ k : Nat, (bits .and .i64 (n / 16384) 255).tmod 5 = (k : Int) ∧ k < 5 := mask_mod _ 5 (by decide)
  obtain ⟨m3, hm3, lm3⟩ : ∃ k : Nat, (bits .and .i64 (n / 16384) 255).tmod 3 = (k : Int) ∧ k < 3 := mask_mod _ 3 (by decide)
  obtain ⟨k9, hk9, lk9⟩ : ∃ k : Nat, bits .and .i64 (n / 536870912) 7 = (k : Int) ∧ k < 8 := mask_nat _ 3 (by decide)
  obtain ⟨m2, hm2, lm2⟩ : ∃ k : Nat, (bits .and .i64 (n / 4294967296) 255).tmod 3 = (k : Int) ∧ k < 3 := mask_mod _ 3 (by decide)
  go_enter Tryz.func47, Tryz.ntmps47
  go_upto_if 17 with (go_at_call 63; refine (rnames_any _).mono ?_; rintro e w1 ⟨A, rfl, hrow, hb⟩; have R1 := Lib.hid hrow; have B1 := Lib.hid hb; clear hrow hb)
  go_cut [5] (fun v wx => SmallStr v ∧ wx = w1)
  case first =>
    by_cases h33 : p < 33
    · obtain ⟨ad, ead, hb, hc⟩ := R1.out.get (k := p) (by rw [strs_length]; exact h33)
      injection ead with ead
      subst ead
      have HSM := Lib.hid (names_small namesS[p] (List.getElem_mem h33))
      simp only [strs, List.getElem_map] at hc
      generalize namesS[p] = nm at *
      go_wp2_with fail
      go_meet
      case rel => exact ⟨⟨nm, rfl, by have := HSM.out; omega⟩, rfl⟩
    · go_wp2_with fail
      go_meet
      case rel => exact ⟨⟨_, rfl, by decide⟩, rfl⟩
  case rest =>
    obtain ⟨⟨nm, rfl, hnm⟩, rfl⟩ := hcut
    have HNM := Lib.hid hnm
    clear hnm
    have BW := Lib.hid B1.out
    clear R1 B1
    generalize wc = w1 at *

    go_upto_region 6 with fail
    go_cut [6] (fun v wx => SmallStr v ∧ Below w1.heap.size w1 wx)
    case first =>
      obtain ⟨sp, cp, bp⟩ : ∃ s : ByteArray, (w1.alloc (.cells #[.string ⟨#[48]⟩, .string ⟨#[49, 48, 112, 120]⟩, .string ⟨#[49, 46, 53, 112, 120]⟩, .string ⟨#[54, 52, 112, 120]⟩, .string ⟨#[49, 48, 48, 112, 120]⟩, .string ⟨#[48, 46, 48, 49, 54, 112, 120]⟩, .string ⟨#[51, 51, 46, 51, 51, 51, 112, 120]⟩, .string ⟨#[50, 48, 48, 112, 120]⟩] 9)).cell? ⟨w1.heap.size, k6, none⟩ = some (.string s) ∧ s.size ≤ 16 := lit_cell w1 [⟨#[48]⟩, ⟨#[49, 48, 112, 120]⟩, ⟨#[49, 46, 53, 112, 120]⟩, ⟨#[54, 52, 112, 120]⟩, ⟨#[49, 48, 48, 112, 120]⟩, ⟨#[48, 46, 48, 49, 54, 112, 120]⟩, ⟨#[51, 51, 46, 51, 51, 51, 112, 120]⟩, ⟨#[50, 48, 48, 112, 120]⟩] 16 (by decide) k6 (by simp; omega)
      have Bp := Lib.hid bp
      clear bp
      go_wp2_with fail
      go_meet
      case rel => exact ⟨⟨sp, rfl, by have := Bp.out; omega⟩, (Below.refl _ _).alloc (Nat.le_refl _) _⟩
    case rest =>
      obtain ⟨⟨s6, rfl, h6⟩, b6⟩ := hcut
      have B6 := Lib.hid h6
      have BX := Lib.hid (BW.out.trans (b6.mono BW.out.size))
      clear h6 b6 BW
      generalize wc = w2 at *
      go_upto_region 7 with fail
      go_cut [7] (fun v wx => SmallStr v ∧ Below w2.heap.size w2 wx)
      case first =>
        obtain ⟨sq, cq, bq⟩ : ∃ s : ByteArray, (w2.alloc (.cells #[.string s6, .string s6, .string s6, .string ⟨#[53, 48, 37]⟩, .string ⟨#[49, 48, 48, 37]⟩, .string ⟨#[51, 51, 46, 51, 51, 37]⟩, .string ⟨#[97, 117, 116, 111]⟩, .string ⟨#[110, 111, 110, 101]⟩] 9)).cell? ⟨w2.heap.size, k7, none⟩ = some (.string s) ∧ s.size ≤ 16 := lit_cell w2 [s6, s6, s6, ⟨#[53, 48, 37]⟩, ⟨#[49, 48, 48, 37]⟩, ⟨#[51, 51, 46, 51, 51, 37]⟩, ⟨#[97, 117, 116, 111]⟩, ⟨#[110, 111, 110, 101]⟩] 16 (by simp only [List.mem_cons, List.not_mem_nil, or_false]; rintro s (rfl | rfl | rfl | rfl | rfl | rfl | rfl | rfl) <;> first | exact B6.out | decide) k7 (by simp; omega)
        have Bq := Lib.hid bq
        clear bq
        go_wp2_with fail
        go_meet
        case rel => exact ⟨⟨sq, rfl, by have := Bq.out; omega⟩, (Below.refl _ _).alloc (Nat.le_refl _) _⟩
      case rest =>
        obtain ⟨⟨s7, rfl, h7⟩, b7⟩ := hcut
        have B7 := Lib.hid h7
        have BY := Lib.hid (BX.out.trans (b7.mono BX.out.size))
        clear b7 BX
        generalize wc = w3 at *
        go_upto_block 0 with fail
        go_cut [3, 8] (fun _ v wx => (∃ s : ByteArray, v = .string s ∧ s.size ≤ 20) ∧ Below w3.heap.size w3 wx)
        case first =>
          rcases HG.out with rfl | rfl | rfl
          · obtain ⟨si, ci, bi⟩ : ∃ s : ByteArray, (w3.alloc (.cells #[.string ⟨#[97, 117, 116, 111]⟩, .string ⟨#[115, 116, 97, 114, 116]⟩, .string ⟨#[101, 110, 100]⟩, .string ⟨#[99, 101, 110, 116, 101, 114]⟩, .string ⟨#[115, 116, 114, 101, 116, 99, 104]⟩] 9)).cell? ⟨w3.heap.size, m5, none⟩ = some (.string s) ∧ s.size ≤ 16 := lit_cell w3 [⟨#[97, 117, 116, 111]⟩, ⟨#[115, 116, 97, 114, 116]⟩, ⟨#[101, 110, 100]⟩, ⟨#[99, 101, 110, 116, 101, 114]⟩, ⟨#[115, 116, 114, 101, 116, 99, 104]⟩] 16 (by decide) m5 (by simp; omega)
            have Bi := Lib.hid bi
            clear bi
            go_wp2_with fail
            go_meet
            case rel => exact ⟨⟨si, rfl, by have := Bi.out; omega⟩, (Below.refl _ _).alloc (Nat.le_refl _) _⟩
          · obtain ⟨sj, cj, bj⟩ : ∃ s : ByteArray, (w3.alloc (.cells #[.string ⟨#[108, 101, 102, 116]⟩, .string ⟨#[114, 105, 103, 104, 116]⟩, .string ⟨#[99, 101, 110, 116, 101, 114]⟩] 9)).cell? ⟨w3.heap.size, m3, none⟩ = some (.string s) ∧ s.size ≤ 16 := lit_cell w3 [⟨#[108, 101, 102, 116]⟩, ⟨#[114, 105, 103, 104, 116]⟩, ⟨#[99, 101, 110, 116, 101, 114]⟩] 16 (by decide) m3 (by simp; omega)
            have Bj := Lib.hid bj
            clear bj
            go_wp2_with fail
            go_meet
            case rel => exact ⟨⟨sj, rfl, by have := Bj.out; omega⟩, (Below.refl _ _).alloc (Nat.le_refl _) _⟩
          · obtain ⟨sk, ck, bk⟩ : ∃ s : ByteArray, (w3.alloc (.cells #[.string ⟨#[110, 111, 114, 109, 97, 108]⟩, .string ⟨#[110, 111, 119, 114, 97, 112]⟩, .string ⟨#[112, 114, 101]⟩] 9)).cell? ⟨w3.heap.size, m3, none⟩ = some (.string s) ∧ s.size ≤ 16 := lit_cell w3 [⟨#[110, 111, 114, 109, 97, 108]⟩, ⟨#[110, 111, 119, 114, 97, 112]⟩, ⟨#[112, 114, 101]⟩] 16 (by decide) m3 (by simp; omega)
            have Bk := Lib.hid bk
            clear bk
            go_wp2_with fail
            go_meet
            case rel => exact ⟨⟨sk, rfl, by have := Bk.out; omega⟩, (Below.refl _ _).alloc (Nat.le_refl _) _⟩
        case rest =>
          clear h7
          obtain ⟨⟨s8, rfl, h8⟩, b8⟩ := hcut
          have B8 := Lib.hid h8
          have BZ := Lib.hid (BY.out.trans (b8.mono BY.out.size))
          clear h8 b8 BY
          generalize wc = w4 at *
          go_upto_if 175 with fail
          go_cut [8] (fun v wx => (∃ s : ByteArray, v = .string s ∧ s.size ≤ 20) ∧ Below w4.heap.size w4 wx)
          case first =>
            obtain ⟨sr, cr, br⟩ : ∃ s : ByteArray, (w4.alloc (.cells #[.string ⟨#[45, 49, 112, 120]⟩, .string ⟨#[49, 46, 50, 51, 52, 53, 112, 120]⟩, .string ⟨#[49, 48, 49]⟩, .string ⟨#[97, 117, 116, 111]⟩, .string ⟨#[120]⟩, .string ⟨#[53]⟩, .string ⟨#[49, 48, 48, 48, 48, 48, 112, 120]⟩, .string ⟨#[49, 46, 37]⟩] 9)).cell? ⟨w4.heap.size, k9, none⟩ = some (.string s) ∧ s.size ≤ 16 := lit_cell w4 [⟨#[45, 49, 112, 120]⟩, ⟨#[49, 46, 50, 51, 52, 53, 112, 120]⟩, ⟨#[49, 48, 49]⟩, ⟨#[97, 117, 116, 111]⟩, ⟨#[120]⟩, ⟨#[53]⟩, ⟨#[49, 48, 48, 48, 48, 48, 112, 120]⟩, ⟨#[49, 46, 37]⟩] 16 (by decide) k9 (by simp; omega)
            have Br := Lib.hid br
            clear br
            go_wp2_with fail
            all_goals (go_meet; case rel => first
              | exact ⟨⟨sr, rfl, by have := Br.out; omega⟩, (Below.refl _ _).alloc (Nat.le_refl _) _⟩
              | exact ⟨⟨s8, rfl, B8.out⟩, Below.refl _ _⟩)
          case rest =>
            obtain ⟨⟨s9, rfl, h9⟩, b9⟩ := hcut
            have B9 := Lib.hid (BZ.out.trans (b9.mono BZ.out.size))
            clear b9 BZ
            have hnm := HNM.out
            generalize wc = w5 at *
            obtain ⟨st, ct, bt⟩ : ∃ s : ByteArray, (w5.alloc (.cells #[.string ⟨#[58]⟩, .string ⟨#[58, 32]⟩, .string ⟨#[32, 58, 32]⟩] 9)).cell? ⟨w5.heap.size, m2, none⟩ = some (.string s) ∧ s.size ≤ 16 := lit_cell w5 [⟨#[58]⟩, ⟨#[58, 32]⟩, ⟨#[32, 58, 32]⟩] 16 (by decide) m2 (by simp; omega)
            have Bt := Lib.hid bt
            have hcc : (nm ++ st).size ≤ 32 := by rw [ByteArray.size_append]; omega
            go_wp2_with fail
            go_ret
            exact ⟨_, rfl, by rw [ByteArray.size_append]; omega, B9.out.alloc B9.out.size _⟩
theorem one_4 (n : Int) (p : Nat) (hp : (bits .and .i64 n 255).tmod 33 + 1 = (p : Int)) (hp1 : 1 ≤ p) (hp2 : p ≤ 33) (hG : p = 32 ∨ (2 ≤ p ∧ p ≤ 7) ∨ p = 22 ∨ p = 33) (W : World) : Calls Tryz.prog 47 #[.int .i64 n] W fun e w' => ∃ s : ByteArray, e = .returned (.string s) ∧ s.size ≤ 64 ∧ Below W.heap.size W w' := by
  have HG := Lib.hid hG
  clear hG
  obtain ⟨k6, hk6, lk6⟩ : ∃ k : Nat, bits .and .i64 (n / 256) 7 = (k : Int) ∧ k < 8 := mask_nat _ 3 (by decide)
  obtain ⟨k7, hk7, lk7⟩ : ∃ k : Nat, bits .and .i64 (n / 2048) 7 = (k : Int) ∧ k < 8 := mask_nat _ 3 (by decide)
  obtain ⟨k1, hk1, lk1⟩ : ∃ k : Nat, bits .and .i64 (n / 16384) 1 = (k : Int) ∧ k < 2 := mask_nat _ 1 (by decide)
  obtain ⟨k3, hk3, lk3⟩ : ∃ k : Nat, bits .and .i64 (n / 16384) 3 = (k : Int) ∧ k < 4 := mask_nat _ 2 (by decide)
  obtain ⟨k8, hk8, lk8⟩ : ∃ k : Nat, bits .and .i64 (n / 16384) 7 = (k : Int) ∧ k < 8 := mask_nat _ 3 (by decide)
  obtain ⟨m5, hm5, lm5⟩ : ∃ k : Nat, (bits .and .i64 (n / 16384) 255).tmod 5 = (k : Int) ∧ k < 5 := mask_mod _ 5 (by decide)
  obtain ⟨m3, hm3, lm3⟩ : ∃ k : Nat, (bits .and .i64 (n / 16384) 255).tmod 3 = (k : Int) ∧ k < 3 := mask_mod _ 3 (by decide)
  obtain ⟨k9, hk9, lk9⟩ : ∃ k : Nat, bits .and .i64 (n / 536870912) 7 = (k : Int) ∧ k < 8 := mask_nat _ 3 (by decide)
  obtain ⟨m2, hm2, lm2⟩ : ∃ k : Nat, (bits .and .i64 (n / 4294967296) 255).tmod 3 = (k : Int) ∧ k < 3 := mask_mod _ 3 (by decide)
  go_enter Tryz.func47, Tryz.ntmps47
  go_upto_if 17 with (go_at_call 63; refine (rnames_any _).mono ?_; rintro e w1 ⟨A, rfl, hrow, hb⟩; have R1 := Lib.hid hrow; have B1 := Lib.hid hb; clear hrow hb)
  go_cut [5] (fun v wx => SmallStr v ∧ wx = w1)
  case first =>
    by_cases h33 : p < 33
    · obtain ⟨ad, ead, hb, hc⟩ := R1.out.get (k := p) (by rw [strs_length]; exact h33)
      injection ead with ead
      subst ead
      have HSM := Lib.hid (names_small namesS[p] (List.getElem_mem h33))
      simp only [strs, List.getElem_map] at hc
      generalize namesS[p] = nm at *
      go_wp2_with fail
      go_meet
      case rel => exact ⟨⟨nm, rfl, by have := HSM.out; omega⟩, rfl⟩
    · go_wp2_with fail
      go_meet
      case rel => exact ⟨⟨_, rfl, by decide⟩, rfl⟩
  case rest =>
    obtain ⟨⟨nm, rfl, hnm⟩, rfl⟩ := hcut
    have HNM := Lib.hid hnm
    clear hnm
    have BW := Lib.hid B1.out
    clear R1 B1
    generalize wc = w1 at *

    go_upto_region 6 with fail
    go_cut [6] (fun v wx => SmallStr v ∧ Below w1.heap.size w1 wx)
    case first =>
      obtain ⟨sp, cp, bp⟩ : ∃ s : ByteArray, (w1.alloc (.cells #[.string ⟨#[48]⟩, .string ⟨#[49, 48, 112, 120]⟩, .string ⟨#[49, 46, 53, 112, 120]⟩, .string ⟨#[54, 52, 112, 120]⟩, .string ⟨#[49, 48, 48, 112, 120]⟩, .string ⟨#[48, 46, 48, 49, 54, 112, 120]⟩, .string ⟨#[51, 51, 46, 51, 51, 51, 112, 120]⟩, .string ⟨#[50, 48, 48, 112, 120]⟩] 9)).cell? ⟨w1.heap.size, k6, none⟩ = some (.string s) ∧ s.size ≤ 16 := lit_cell w1 [⟨#[48]⟩, ⟨#[49, 48, 112, 120]⟩, ⟨#[49, 46, 53, 112, 120]⟩, ⟨#[54, 52, 112, 120]⟩, ⟨#[49, 48, 48, 112, 120]⟩, ⟨#[48, 46, 48, 49, 54, 112, 120]⟩, ⟨#[51, 51, 46, 51, 51, 51, 112, 120]⟩, ⟨#[50, 48, 48, 112, 120]⟩] 16 (by decide) k6 (by simp; omega)
      have Bp := Lib.hid bp
      clear bp
      go_wp2_with fail
      go_meet
      case rel => exact ⟨⟨sp, rfl, by have := Bp.out; omega⟩, (Below.refl _ _).alloc (Nat.le_refl _) _⟩
    case rest =>
      obtain ⟨⟨s6, rfl, h6⟩, b6⟩ := hcut
      have B6 := Lib.hid h6
      have BX := Lib.hid (BW.out.trans (b6.mono BW.out.size))
      clear h6 b6 BW
      generalize wc = w2 at *
      go_upto_region 7 with fail
      go_cut [7] (fun v wx => SmallStr v ∧ Below w2.heap.size w2 wx)
      case first =>
        obtain ⟨sq, cq, bq⟩ : ∃ s : ByteArray, (w2.alloc (.cells #[.string s6, .string s6, .string s6, .string ⟨#[53, 48, 37]⟩, .string ⟨#[49, 48, 48, 37]⟩, .string ⟨#[51, 51, 46, 51, 51, 37]⟩, .string ⟨#[97, 117, 116, 111]⟩, .string ⟨#[110, 111, 110, 101]⟩] 9)).cell? ⟨w2.heap.size, k7, none⟩ = some (.string s) ∧ s.size ≤ 16 := lit_cell w2 [s6, s6, s6, ⟨#[53, 48, 37]⟩, ⟨#[49, 48, 48, 37]⟩, ⟨#[51, 51, 46, 51, 51, 37]⟩, ⟨#[97, 117, 116, 111]⟩, ⟨#[110, 111, 110, 101]⟩] 16 (by simp only [List.mem_cons, List.not_mem_nil, or_false]; rintro s (rfl | rfl | rfl | rfl | rfl | rfl | rfl | rfl) <;> first | exact B6.out | decide) k7 (by simp; omega)
        have Bq := Lib.hid bq
        clear bq
        go_wp2_with fail
        go_meet
        case rel => exact ⟨⟨sq, rfl, by have := Bq.out; omega⟩, (Below.refl _ _).alloc (Nat.le_refl _) _⟩
      case rest =>
        obtain ⟨⟨s7, rfl, h7⟩, b7⟩ := hcut
        have B7 := Lib.hid h7
        have BY := Lib.hid (BX.out.trans (b7.mono BX.out.size))
        clear b7 BX
        generalize wc = w3 at *
        go_upto_block 0 with fail
        go_cut [3, 8] (fun _ v wx => (∃ s : ByteArray, v = .string s ∧ s.size ≤ 20) ∧ Below w3.heap.size w3 wx)
        case first =>
          rcases HG.out with rfl | ⟨hlo, hhi⟩ | rfl | rfl
          · obtain ⟨sl, cl, bl⟩ : ∃ s : ByteArray, (w3.alloc (.cells #[.string ⟨#[118, 105, 115, 105, 98, 108, 101]⟩, .string ⟨#[104, 105, 100, 100, 101, 110]⟩] 9)).cell? ⟨w3.heap.size, k1, none⟩ = some (.string s) ∧ s.size ≤ 16 := lit_cell w3 [⟨#[118, 105, 115, 105, 98, 108, 101]⟩, ⟨#[104, 105, 100, 100, 101, 110]⟩] 16 (by decide) k1 (by simp; omega)
            have Bl := Lib.hid bl
            clear bl
            go_wp2_with fail
            go_meet
            case rel => exact ⟨⟨sl, rfl, by have := Bl.out; omega⟩, (Below.refl _ _).alloc (Nat.le_refl _) _⟩
          · have n1 : ((p : Int) == 1) = false := by simp; omega
            have n20 : ((p : Int) == 20) = false := by simp; omega
            have n21 : ((p : Int) == 21) = false := by simp; omega
            have n23 : ((p : Int) == 23) = false := by simp; omega
            have n24 : ((p : Int) == 24) = false := by simp; omega
            have n25 : ((p : Int) == 25) = false := by simp; omega
            have n26 : ((p : Int) == 26) = false := by simp; omega
            have n27 : ((p : Int) == 27) = false := by simp; omega
            have n28 : ((p : Int) == 28) = false := by simp; omega
            have n29 : ((p : Int) == 29) = false := by simp; omega
            have n30 : ((p : Int) == 30) = false := by simp; omega
            have n31 : ((p : Int) == 31) = false := by simp; omega
            have n32 : ((p : Int) == 32) = false := by simp; omega
            have g8 : ¬ (8 : Int) ≤ p := by omega
            have g12 : ¬ (12 : Int) ≤ p := by omega
            have g11 : (p : Int) ≤ 11 := by omega
            have g19 : (p : Int) ≤ 19 := by omega
            go_wp2_with fail
            go_meet
            case rel => exact ⟨⟨s7, rfl, by have := B7.out; omega⟩, Below.refl _ _⟩
          · skip
            go_wp2_with fail
            go_meet
            case rel => exact ⟨⟨s7, rfl, by have := B7.out; omega⟩, Below.refl _ _⟩
          · skip
            go_wp2_with fail
            go_meet
            case rel => exact ⟨⟨s7, rfl, by have := B7.out; omega⟩, Below.refl _ _⟩
        case rest =>
          clear h7
          obtain ⟨⟨s8, rfl, h8⟩, b8⟩ := hcut
          have B8 := Lib.hid h8
          have BZ := Lib.hid (BY.out.trans (b8.mono BY.out.size))
          clear h8 b8 BY
          generalize wc = w4 at *
          go_upto_if 175 with fail
          go_cut [8] (fun v wx => (∃ s : ByteArray, v = .string s ∧ s.size ≤ 20) ∧ Below w4.heap.size w4 wx)
          case first =>
            obtain ⟨sr, cr, br⟩ : ∃ s : ByteArray, (w4.alloc (.cells #[.string ⟨#[45, 49, 112, 120]⟩, .string ⟨#[49, 46, 50, 51, 52, 53, 112, 120]⟩, .string ⟨#[49, 48, 49]⟩, .string ⟨#[97, 117, 116, 111]⟩, .string ⟨#[120]⟩, .string ⟨#[53]⟩, .string ⟨#[49, 48, 48, 48, 48, 48, 112, 120]⟩, .string ⟨#[49, 46, 37]⟩] 9)).cell? ⟨w4.heap.size, k9, none⟩ = some (.string s) ∧ s.size ≤ 16 := lit_cell w4 [⟨#[45, 49, 112, 120]⟩, ⟨#[49, 46, 50, 51, 52, 53, 112, 120]⟩, ⟨#[49, 48, 49]⟩, ⟨#[97, 117, 116, 111]⟩, ⟨#[120]⟩, ⟨#[53]⟩, ⟨#[49, 48, 48, 48, 48, 48, 112, 120]⟩, ⟨#[49, 46, 37]⟩] 16 (by decide) k9 (by simp; omega)
            have Br := Lib.hid br
            clear br
            go_wp2_with fail
            all_goals (go_meet; case rel => first
              | exact ⟨⟨sr, rfl, by have := Br.out; omega⟩, (Below.refl _ _).alloc (Nat.le_refl _) _⟩
              | exact ⟨⟨s8, rfl, B8.out⟩, Below.refl _ _⟩)
          case rest =>
            obtain ⟨⟨s9, rfl, h9⟩, b9⟩ := hcut
            have B9 := Lib.hid (BZ.out.trans (b9.mono BZ.out.size))
            clear b9 BZ
            have hnm := HNM.out
            generalize wc = w5 at *
            obtain ⟨st, ct, bt⟩ : ∃ s : ByteArray, (w5.alloc (.cells #[.string ⟨#[58]⟩, .string ⟨#[58, 32]⟩, .string ⟨#[32, 58, 32]⟩] 9)).cell? ⟨w5.heap.size, m2, none⟩ = some (.string s) ∧ s.size ≤ 16 := lit_cell w5 [⟨#[58]⟩, ⟨#[58, 32]⟩, ⟨#[32, 58, 32]⟩] 16 (by decide) m2 (by simp; omega)
            have Bt := Lib.hid bt
            have hcc : (nm ++ st).size ≤ 32 := by rw [ByteArray.size_append]; omega
            go_wp2_with fail
            go_ret
            exact ⟨_, rfl, by rw [ByteArray.size_append]; omega, B9.out.alloc B9.out.size _⟩
theorem one_any (n : Int) (W : World) : Calls Tryz.prog 47 #[.int .i64 n] W fun e w' => ∃ s : ByteArray, e = .returned (.string s) ∧ s.size ≤ 64 ∧ Below W.heap.size W w' := by
  obtain ⟨p, hp, hp1, hp2⟩ : ∃ p : Nat, (bits .and .i64 n 255).tmod 33 + 1 = (p : Int) ∧ 1 ≤ p ∧ p ≤ 33 := by
    obtain ⟨k, hk, lk⟩ := mask_mod n 33 (by decide)
    exact ⟨k + 1, by rw [show ((33 : Nat) : Int) = 33 from rfl] at hk; rw [hk]; omega, by omega, by omega⟩
  rcases (show (p = 1 ∨ (8 ≤ p ∧ p ≤ 11) ∨ (12 ≤ p ∧ p ≤ 19) ∨ p = 31) ∨ (p = 20 ∨ p = 21 ∨ p = 23 ∨ p = 24) ∨ (p = 25 ∨ p = 26 ∨ p = 27) ∨ (p = 28 ∨ p = 29 ∨ p = 30) ∨ (p = 32 ∨ (2 ≤ p ∧ p ≤ 7) ∨ p = 22 ∨ p = 33) by omega) with h | h | h | h | h
  · exact one_0 n p hp hp1 hp2 h W
  · exact one_1 n p hp hp1 hp2 h W
  · exact one_2 n p hp hp1 hp2 h W
  · exact one_3 n p hp hp1 hp2 h W
  · exact one_4 n p hp hp1 hp2 h W
end Go.Proofs.YtbhdpfacfgldiaaGreatDoor
