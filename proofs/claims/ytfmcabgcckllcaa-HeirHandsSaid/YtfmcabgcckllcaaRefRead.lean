import Derived.Test.YtfmcabgcckllcaaPx
import Derived.Test.YtfmcabgcckllcaaByteRow
import Derived.LoopTactic
/- The document's answer: rows of bytes in a text. -/
namespace Go.Proofs.Ytfmcabgcckllcaa
open Go Go.RowKit
set_option linter.unusedVariables false
set_option linter.unusedSimpArgs false
set_option maxRecDepth 20000
set_option maxHeartbeats 4000000

theorem rblank_any (c : UInt8) (w : World) : Calls Try.prog 31 #[.int .u8 c.toNat] w fun e w' => e = .returned (.bool (blankB c)) ∧ w = w' := by
  have hd : blankB c = decide ((c.toNat : Int) = 32 ∨ (c.toNat : Int) = 9 ∨ (c.toNat : Int) = 10) := rfl
  generalize hb : blankB c = b at *
  clear hb
  rcases (show ((c.toNat : Int) = 32) ∨ ((c.toNat : Int) = 9) ∨ ((c.toNat : Int) = 10) ∨ ((c.toNat : Int) ≠ 32 ∧ (c.toNat : Int) ≠ 9 ∧ (c.toNat : Int) ≠ 10) by omega) with h | h | h | h
  · have HR := Lib.hid (hd.trans (decide_eq_true (by omega)))
    have f0 : ((c.toNat : Int) == 32) = true := beq_iff_eq.2 (by omega)
    clear h hd
    go_enter Try.func31, Try.ntmps31
    go_wp2
    go_ret
    exact ⟨ret_bool HR.out.symm, rfl⟩
  · have HR := Lib.hid (hd.trans (decide_eq_true (by omega)))
    have f0 : ((c.toNat : Int) == 32) = false := beq_eq_false_iff_ne.2 (by omega)
    have f1 : ((c.toNat : Int) == 9) = true := beq_iff_eq.2 (by omega)
    clear h hd
    go_enter Try.func31, Try.ntmps31
    go_wp2
    go_ret
    exact ⟨ret_bool HR.out.symm, rfl⟩
  · have HR := Lib.hid (hd.trans (decide_eq_true (by omega)))
    have f0 : ((c.toNat : Int) == 32) = false := beq_eq_false_iff_ne.2 (by omega)
    have f1 : ((c.toNat : Int) == 9) = false := beq_eq_false_iff_ne.2 (by omega)
    have f2 : ((c.toNat : Int) == 10) = true := beq_iff_eq.2 (by omega)
    clear h hd
    go_enter Try.func31, Try.ntmps31
    go_wp2
    go_ret
    exact ⟨ret_bool HR.out.symm, rfl⟩
  · have HR := Lib.hid (hd.trans (decide_eq_false (by omega)))
    have f0 : ((c.toNat : Int) == 32) = false := beq_eq_false_iff_ne.2 (by omega)
    have f1 : ((c.toNat : Int) == 9) = false := beq_eq_false_iff_ne.2 (by omega)
    have f2 : ((c.toNat : Int) == 10) = false := beq_eq_false_iff_ne.2 (by omega)
    clear h hd
    go_enter Try.func31, Try.ntmps31
    go_wp2
    go_ret
    exact ⟨ret_bool HR.out.symm, rfl⟩
theorem rinName_any (c : UInt8) (w : World) : Calls Try.prog 23 #[.int .u8 c.toNat] w fun e w' => e = .returned (.bool (nameB c)) ∧ w = w' := by
  have hd : nameB c = decide ((97 ≤ (c.toNat : Int) ∧ (c.toNat : Int) ≤ 122) ∨ (c.toNat : Int) = 45) := rfl
  generalize hb : nameB c = b at *
  clear hb
  rcases (show (97 ≤ (c.toNat : Int) ∧ (c.toNat : Int) ≤ 122) ∨ ((c.toNat : Int) = 45) ∨ ((c.toNat : Int) < 97 ∧ (c.toNat : Int) ≠ 45) ∨ (122 < (c.toNat : Int)) by omega) with h | h | h | h
  · have HR := Lib.hid (hd.trans (decide_eq_true (by omega)))
    have f0 : decide (97 ≤ (c.toNat : Int)) = true := decide_eq_true (by omega)
    have f1 : decide ((c.toNat : Int) ≤ 122) = true := decide_eq_true (by omega)
    clear h hd
    go_enter Try.func23, Try.ntmps23
    go_wp2
    go_ret
    exact ⟨ret_bool HR.out.symm, rfl⟩
  · have HR := Lib.hid (hd.trans (decide_eq_true (by omega)))
    have f0 : decide (97 ≤ (c.toNat : Int)) = false := decide_eq_false (by omega)
    have f1 : ((c.toNat : Int) == 45) = true := beq_iff_eq.2 (by omega)
    clear h hd
    go_enter Try.func23, Try.ntmps23
    go_wp2
    go_ret
    exact ⟨ret_bool HR.out.symm, rfl⟩
  · have HR := Lib.hid (hd.trans (decide_eq_false (by omega)))
    have f0 : decide (97 ≤ (c.toNat : Int)) = false := decide_eq_false (by omega)
    have f1 : ((c.toNat : Int) == 45) = false := beq_eq_false_iff_ne.2 (by omega)
    clear h hd
    go_enter Try.func23, Try.ntmps23
    go_wp2
    go_ret
    exact ⟨ret_bool HR.out.symm, rfl⟩
  · have HR := Lib.hid (hd.trans (decide_eq_false (by omega)))
    have f0 : decide (97 ≤ (c.toNat : Int)) = true := decide_eq_true (by omega)
    have f1 : decide ((c.toNat : Int) ≤ 122) = false := decide_eq_false (by omega)
    have f2 : ((c.toNat : Int) == 45) = false := beq_eq_false_iff_ne.2 (by omega)
    clear h hd
    go_enter Try.func23, Try.ntmps23
    go_wp2
    go_ret
    exact ⟨ret_bool HR.out.symm, rfl⟩
theorem rinName_val (c : UInt8) (b : Bool) (h : nameB c = b) (w : World) : Calls Try.prog 23 #[.int .u8 c.toNat] w fun e w' => e = .returned (.bool b) ∧ w = w' := h ▸ rinName_any c w
theorem rinValue_any (c : UInt8) (w : World) : Calls Try.prog 24 #[.int .u8 c.toNat] w fun e w' => e = .returned (.bool (valB c)) ∧ w = w' := by
  have hd : valB c = decide (((97 ≤ (c.toNat : Int) ∧ (c.toNat : Int) ≤ 122) ∨ (c.toNat : Int) = 45) ∨ (48 ≤ (c.toNat : Int) ∧ (c.toNat : Int) ≤ 57) ∨ (c.toNat : Int) = 46 ∨ (c.toNat : Int) = 37) := rfl
  generalize hb : valB c = b at *
  clear hb
  rcases (show ((97 ≤ (c.toNat : Int) ∧ (c.toNat : Int) ≤ 122) ∨ (c.toNat : Int) = 45) ∨ (48 ≤ (c.toNat : Int) ∧ (c.toNat : Int) ≤ 57) ∨ ((c.toNat : Int) = 46) ∨ ((c.toNat : Int) = 37) ∨ (¬ ((97 ≤ (c.toNat : Int) ∧ (c.toNat : Int) ≤ 122) ∨ (c.toNat : Int) = 45) ∧ (c.toNat : Int) < 48 ∧ (c.toNat : Int) ≠ 46 ∧ (c.toNat : Int) ≠ 37) ∨ (¬ ((97 ≤ (c.toNat : Int) ∧ (c.toNat : Int) ≤ 122) ∨ (c.toNat : Int) = 45) ∧ 57 < (c.toNat : Int)) by omega) with h | h | h | h | h | h
  · have HR := Lib.hid (hd.trans (decide_eq_true (by omega)))
    have HN := Lib.hid (show nameB c = true from decide_eq_true (by omega))
    clear h hd
    go_enter Try.func24, Try.ntmps24
    go_wp2_with (go_at_call 23; refine (rinName_val c true HN.out _).mono ?_; rintro e w' ⟨rfl, rfl⟩)
    go_ret
    exact ⟨ret_bool HR.out.symm, rfl⟩
  · have HR := Lib.hid (hd.trans (decide_eq_true (by omega)))
    have f0 : decide (48 ≤ (c.toNat : Int)) = true := decide_eq_true (by omega)
    have f1 : decide ((c.toNat : Int) ≤ 57) = true := decide_eq_true (by omega)
    have HN := Lib.hid (show nameB c = false from decide_eq_false (by omega))
    clear h hd
    go_enter Try.func24, Try.ntmps24
    go_wp2_with (go_at_call 23; refine (rinName_val c false HN.out _).mono ?_; rintro e w' ⟨rfl, rfl⟩)
    go_ret
    exact ⟨ret_bool HR.out.symm, rfl⟩
  · have HR := Lib.hid (hd.trans (decide_eq_true (by omega)))
    have f0 : decide (48 ≤ (c.toNat : Int)) = false := decide_eq_false (by omega)
    have f1 : ((c.toNat : Int) == 46) = true := beq_iff_eq.2 (by omega)
    have HN := Lib.hid (show nameB c = false from decide_eq_false (by omega))
    clear h hd
    go_enter Try.func24, Try.ntmps24
    go_wp2_with (go_at_call 23; refine (rinName_val c false HN.out _).mono ?_; rintro e w' ⟨rfl, rfl⟩)
    go_ret
    exact ⟨ret_bool HR.out.symm, rfl⟩
  · have HR := Lib.hid (hd.trans (decide_eq_true (by omega)))
    have f0 : decide (48 ≤ (c.toNat : Int)) = false := decide_eq_false (by omega)
    have f1 : ((c.toNat : Int) == 46) = false := beq_eq_false_iff_ne.2 (by omega)
    have f2 : ((c.toNat : Int) == 37) = true := beq_iff_eq.2 (by omega)
    have HN := Lib.hid (show nameB c = false from decide_eq_false (by omega))
    clear h hd
    go_enter Try.func24, Try.ntmps24
    go_wp2_with (go_at_call 23; refine (rinName_val c false HN.out _).mono ?_; rintro e w' ⟨rfl, rfl⟩)
    go_ret
    exact ⟨ret_bool HR.out.symm, rfl⟩
  · have HR := Lib.hid (hd.trans (decide_eq_false (by omega)))
    have f0 : decide (48 ≤ (c.toNat : Int)) = false := decide_eq_false (by omega)
    have f1 : ((c.toNat : Int) == 46) = false := beq_eq_false_iff_ne.2 (by omega)
    have f2 : ((c.toNat : Int) == 37) = false := beq_eq_false_iff_ne.2 (by omega)
    have HN := Lib.hid (show nameB c = false from decide_eq_false (by omega))
    clear h hd
    go_enter Try.func24, Try.ntmps24
    go_wp2_with (go_at_call 23; refine (rinName_val c false HN.out _).mono ?_; rintro e w' ⟨rfl, rfl⟩)
    go_ret
    exact ⟨ret_bool HR.out.symm, rfl⟩
  · have HR := Lib.hid (hd.trans (decide_eq_false (by omega)))
    have f0 : decide (48 ≤ (c.toNat : Int)) = true := decide_eq_true (by omega)
    have f1 : decide ((c.toNat : Int) ≤ 57) = false := decide_eq_false (by omega)
    have f2 : ((c.toNat : Int) == 46) = false := beq_eq_false_iff_ne.2 (by omega)
    have f3 : ((c.toNat : Int) == 37) = false := beq_eq_false_iff_ne.2 (by omega)
    have HN := Lib.hid (show nameB c = false from decide_eq_false (by omega))
    clear h hd
    go_enter Try.func24, Try.ntmps24
    go_wp2_with (go_at_call 23; refine (rinName_val c false HN.out _).mono ?_; rintro e w' ⟨rfl, rfl⟩)
    go_ret
    exact ⟨ret_bool HR.out.symm, rfl⟩
theorem rblank_val (c : UInt8) (b : Bool) (h : blankB c = b) (w : World) : Calls Try.prog 31 #[.int .u8 c.toNat] w fun e w' => e = .returned (.bool b) ∧ w = w' := h ▸ rblank_any c w
theorem rinValue_val (c : UInt8) (b : Bool) (h : valB c = b) (w : World) : Calls Try.prog 24 #[.int .u8 c.toNat] w fun e w' => e = .returned (.bool b) ∧ w = w' := h ▸ rinValue_any c w
theorem cast_add (a k : Nat) : (Value.int .i64 ((a : Int) + k)) = .int .i64 ((a + k : Nat) : Int) := by push_cast; rfl
theorem rskip_any (s : ByteArray) (a : Nat) (w : World) (hs : s.size ≤ 4611686018427387904) (ha : a ≤ s.size) :
    Calls Try.prog 22 #[.string s, .int .i64 a] w fun e w' => e = .returned (.int .i64 ((a + rowN blankB (bytesOf s) a : Nat) : Int)) ∧ w = w' := by
  have HL := Lib.hid (bytesOf_length s)
  go_enter Try.func22, Try.ntmps22
  go_wp2
  go_loop [1] (fun i => ∃ k : Nat, k ≤ rowN blankB (bytesOf s) a ∧ i = .int .i64 ((a + k : Nat) : Int)) (fun i => s.size - (intOf i).toNat)
  case atStart => exact ⟨0, Nat.zero_le _, rfl⟩
  case round =>
    obtain ⟨k, hk, rfl⟩ := hrel
    have hle := rowN_le blankB (bytesOf s) a (by rw [HL.out]; exact ha)
    rw [HL.out] at hle
    by_cases hlt : a + k < s.size
    · have hi : ((a : Int) + k) < s.size := by omega
      go_wp2_with fail
      cases hb : blankB s[a + k] with
      | true =>
        have HK := Lib.hid (rowN_more hk (by rw [HL.out]; exact hlt) hb)
        refine (rblank_val _ true hb _).mono ?_
        rintro e w' ⟨rfl, rfl⟩
        clear hb
        go_wp2
        go_round
        case rel => exact ⟨k + 1, HK.out, by go_num⟩
        case measure => simp [intOf]; omega
      | false =>
        have HK := Lib.hid (rowN_stop hk (by rw [HL.out]; exact hlt) hb)
        refine (rblank_val _ false hb _).mono ?_
        rintro e w' ⟨rfl, rfl⟩
        clear hb
        go_wp2
        go_ret
        exact ⟨by rw [← HK.out]; first | rfl | (push_cast; rfl), rfl⟩
    · have HK := Lib.hid (rowN_end hk (by rw [HL.out]; omega))
      have hi : ¬ ((a : Int) + k) < s.size := by omega
      go_wp2
      go_ret
      exact ⟨by rw [← HK.out]; first | rfl | (push_cast; rfl), rfl⟩
theorem rdigits_any (s : ByteArray) (a : Nat) (w : World) (hs : s.size ≤ 4611686018427387904) (ha : a ≤ s.size) :
    Calls Try.prog 39 #[.string s, .int .i64 a] w fun e w' => e = .returned (.int .i64 (rowN isDig (bytesOf s) a : Nat)) ∧ w = w' := by
  have HL := Lib.hid (bytesOf_length s)
  go_enter Try.func39, Try.ntmps39
  go_wp2
  go_loop [5] (fun i => ∃ k : Nat, k ≤ rowN isDig (bytesOf s) a ∧ i = .int .i64 (k : Int)) (fun i => s.size - (intOf i).toNat)
  case atStart => exact ⟨0, Nat.zero_le _, rfl⟩
  case round =>
    obtain ⟨k, hk, rfl⟩ := hrel
    have hle := rowN_le isDig (bytesOf s) a (by rw [HL.out]; exact ha)
    rw [HL.out] at hle
    by_cases hlt : a + k < s.size
    · have hi : ((a : Int) + k) < s.size := by omega
      by_cases hb : 48 ≤ (s[a + k].toNat : Int) ∧ (s[a + k].toNat : Int) ≤ 57
      · have HK := Lib.hid (rowN_more hk (by rw [HL.out]; exact hlt) (show isDig s[a + k] = true from decide_eq_true hb))
        obtain ⟨hb1, hb2⟩ := hb
        go_wp2
        go_round
        case rel => exact ⟨k + 1, HK.out, by go_num⟩
        case measure => simp [intOf]; omega
      · have HK := Lib.hid (rowN_stop hk (by rw [HL.out]; exact hlt) (show isDig s[a + k] = false from decide_eq_false hb))
        by_cases hb1 : 48 ≤ (s[a + k].toNat : Int)
        all_goals
          have hb2 : (s[a + k].toNat : Int) < 48 ∨ 57 < (s[a + k].toNat : Int) := by omega
          go_wp2
          all_goals
            go_ret
            exact ⟨by rw [← HK.out]; rfl, rfl⟩
    · have HK := Lib.hid (rowN_end hk (by rw [HL.out]; omega))
      have hi : ¬ ((a : Int) + k) < s.size := by omega
      go_wp2
      go_ret
      exact ⟨by rw [← HK.out]; rfl, rfl⟩
end Go.Proofs.Ytfmcabgcckllcaa
