import Derived.Test.YtbhdpfacfgldiaaGreatDoorZSQ
import Derived.Deep.Cut
import Derived.Deep.CutBlock
import Derived.Deep.DeepCutAuto
import Derived.Deep.CutRange
import Derived.Deep.QuietTactic
import Derived.BigQuiet
/- The document's answer: a number in a text. -/
namespace Go.Proofs.YtbhdpfacfgldiaaGreatDoor
open Go Go.RowKit
set_option linter.unusedVariables false
set_option linter.unusedSimpArgs false
set_option maxRecDepth 20000
set_option maxHeartbeats 4000000

theorem negB_zero (s : ByteArray) (h : s.size = 0) : negB (bytesOf s) = false := by
  have : bytesOf s = [] := List.eq_nil_of_length_eq_zero (by rw [bytesOf_length]; exact h)
  rw [this]; rfl
theorem negB_pos (s : ByteArray) (h : 0 < s.size) : negB (bytesOf s) = ((s[0].toNat : Int) == 45) := by
  have h1 : 0 < (bytesOf s).length := by rw [bytesOf_length]; exact h
  have h2 : (bytesOf s).head? = some s[0] := by
    rw [List.head?_eq_getElem?, List.getElem?_eq_getElem h1]; rfl
  unfold negB
  rw [h2, Bool.eq_iff_iff]
  simp only [beq_iff_eq, Option.some.injEq]
  constructor
  · intro e; exact congrArg (fun c : UInt8 => (c.toNat : Int)) e
  · intro e; exact u8_eq (n := 45) e (by omega)
def NumPost (s : ByteArray) (r : Option (Int × Nat)) (e : Ending) : Prop := match r with
  | none => e = .returned (.tuple #[.int .i64 0, .string ⟨#[]⟩, .bool false])
  | some (v, k) => e = .returned (.tuple #[.int .i64 v, .string (s.extract k s.size), .bool true])
def NumMid (s : ByteArray) (ah bh a : Nat) (ng : Bool) (s10 s12 s14 : Value) : Prop := ∃ (r : Nat) (v : Int) (k : Nat), s10 = .int .i64 (r : Int) ∧ s12 = .int .i64 v ∧ s14 = .int .i64 (k : Int) ∧ 0 ≤ v ∧ v ≤ 99999999 ∧ k ≤ bh ∧ r ≤ s.size ∧
  numZ (bytesOf s) ah bh = some (signZ ng (v * 10 ^ (bh - k)), r)
section
variable {l : List UInt8} {ah bh a n k : Nat} {ng : Bool} {d x : Int}
theorem numZ_mid1 (h1 : negB l = ng) (h2 : ng.toNat = a) (h3 : rowN isDig l a = n) (h4 : ¬ (n < 1 ∨ ah < n)) (h5 : decide (l[a + n]? = some 46) = false) (h6 : digV l a 0 n = d) : numZ l ah bh = some (signZ ng (d * 10 ^ (bh - 0)), a + n) := by
  unfold numZ
  simp only [h1, h2, h3]
  rw [if_neg h4, if_neg (of_decide_eq_false h5), h6]; rfl
theorem numZ_mid2 (h1 : negB l = ng) (h2 : ng.toNat = a) (h3 : rowN isDig l a = n) (h4 : ¬ (n < 1 ∨ ah < n)) (h5 : decide (l[a + n]? = some 46) = true) (h6 : rowN isDig l (a + n + 1) = k) (h7 : k < 1 ∨ bh < k) : numZ l ah bh = none := by
  unfold numZ
  simp only [h1, h2, h3]
  rw [if_neg h4, if_pos (of_decide_eq_true h5)]
  simp only [h6]
  rw [if_pos h7]
theorem numZ_mid3 (h1 : negB l = ng) (h2 : ng.toNat = a) (h3 : rowN isDig l a = n) (h4 : ¬ (n < 1 ∨ ah < n)) (h5 : decide (l[a + n]? = some 46) = true) (h6 : rowN isDig l (a + n + 1) = k) (h7 : ¬ (k < 1 ∨ bh < k)) (h8 : digV l a 0 n = d) (h9 : digV l (a + n + 1) d k = x) :
    numZ l ah bh = some (signZ ng (x * 10 ^ (bh - k)), a + n + 1 + k) := by
  unfold numZ
  simp only [h1, h2, h3]
  rw [if_neg h4, if_pos (of_decide_eq_true h5)]
  simp only [h6]
  rw [if_neg h7, h8, h9]

end
theorem rnumber_any (s : ByteArray) (ah bh : Nat) (hah : ah ≤ 5) (hbh : bh ≤ 3) (w : World) (hs : s.size ≤ 4611686018427387904) :
    Calls Tryz.prog 80 #[.string s, .int .i64 ah, .int .i64 bh] w fun e w' => NumPost s (numZ (bytesOf s) ah bh) e ∧ ∃ q, w' = w.drewN q := by
  have HL := Lib.hid (bytesOf_length s)
  have HNL := Lib.hid (neg_le (bytesOf s))
  go_enter Tryz.func80, Tryz.ntmps80
  go_upto_region 1 with fail
  go_cut [9] (fun v wx => v = .bool (negB (bytesOf s)) ∧ w = wx)
  case first =>
    by_cases h0 : s.size = 0
    · have HN := Lib.hid (negB_zero s h0)
      have h1 : ¬ (0 : Int) < s.size := by omega
      clear h0
      go_wp2
      go_meet
      case rel => exact ⟨by rw [HN.out], rfl⟩
    · have h1 : 0 < s.size := by omega
      have h2 : (0 : Int) < s.size := by omega
      have HN := Lib.hid (negB_pos s h1)
      go_wp2
      go_meet
      case rel => exact ⟨by rw [HN.out], rfl⟩
  case rest =>
    obtain ⟨h9, rfl⟩ := hcut
    have HN := Lib.hid (show numZ (bytesOf s) ah bh = numZ (bytesOf s) ah bh from rfl)
    generalize hng : negB (bytesOf s) = ng at *
    subst h9
    go_upto_if 25 with fail
    go_cut [10] (fun v wx => v = .int .i64 (ng.toNat : Int) ∧ w = wx)
    case first =>
      cases ng
      all_goals
        go_wp2
        go_meet
        case rel => exact ⟨rfl, rfl⟩
    case rest =>
      obtain ⟨h10, rfl⟩ := hcut
      subst h10
      generalize ha0 : ng.toNat = a at *
      have HA := Lib.hid ha0
      have HNG := Lib.hid hng
      clear ha0 hng
      have ha : a ≤ s.size := by have := HNL.out; rw [HL.out] at this; exact this
      have hle := rowN_le isDig (bytesOf s) a (by rw [HL.out]; exact ha)
      rw [HL.out] at hle
      have HD := Lib.hid (rdigits_any s a w hs ha)
      have HALL := Lib.hid (dig_at s a)
      have HD1 := Lib.hid (digV_first (bytesOf s) a)
      generalize hn : rowN isDig (bytesOf s) a = n at *
      have HRN := Lib.hid hn
      clear hn HN HNL
      by_cases hbad : n < 1 ∨ ah < n
      · have HZ := Lib.hid (show numZ (bytesOf s) ah bh = none by unfold numZ; simp only [HNG.out, HA.out, HRN.out]; rw [if_pos hbad])
        by_cases hb1 : n < 1
        · have hb2 : (n : Int) < 1 := by omega
          clear hbad
          go_wp2_with (go_at_call 88; refine HD.out.mono ?_; rintro e w' ⟨rfl, rfl⟩)
          go_ret3
          exact ⟨by rw [HZ.out]; rfl, 0, rfl⟩
        · have hb2 : ¬ (n : Int) < 1 := by omega
          have hb3 : ah < n := by omega
          clear hbad
          go_wp2_with (go_at_call 88; refine HD.out.mono ?_; rintro e w' ⟨rfl, rfl⟩)
          go_ret3
          exact ⟨by rw [HZ.out]; rfl, 0, rfl⟩
      · have hb1 : 1 ≤ n := by omega
        have hb2 : n ≤ ah := by omega
        have hb3 : ¬ (n : Int) < 1 := by omega
        have hb4 : ¬ ah < n := by omega
        have HB := Lib.hid hbad
        clear hbad
        go_wp2_with (go_at_call 88; refine HD.out.mono ?_; rintro e w' ⟨rfl, rfl⟩)
        go_loop [12, 13] (fun v i => ∃ j : Nat, j ≤ n ∧ i = .int .i64 (j : Int) ∧ v = .int .i64 (digV (bytesOf s) a 0 j)) (fun _ i => n - (intOf i).toNat)
        case atStart => exact ⟨0, Nat.zero_le _, rfl, rfl⟩
        case round =>
          obtain ⟨j, hj, rfl, rfl⟩ := hrel
          obtain ⟨d0, d1⟩ := HD1.out j (by omega) hj
          by_cases hlt : j < n
          · obtain ⟨hs1, c0, c1⟩ := HALL.out j hlt
            have hs2 : (a : Int) + j < s.size := by omega
            have HG := Lib.hid (digV_get s a 0 j hs1)
            generalize digV (bytesOf s) a 0 j = d at *
            go_wp2
            go_round
            case rel => exact ⟨j + 1, by omega, by go_num, by rw [HG.out]⟩
            case measure => simp [intOf]; omega
          · have : j = n := by omega
            subst this
            have hlt' : ¬ (j : Int) < j := by omega
            generalize hd : digV (bytesOf s) a 0 j = d at *
            have HDV := Lib.hid hd
            clear hd
            have HPT := Lib.hid (byte_at s (a + j) 46 (by omega))
            go_upto_region 15 with fail
            go_cut [63] (fun v wx => v = .bool (decide ((bytesOf s)[a + j]? = some 46)) ∧ w = wx)
            case first =>
              by_cases hp : a + j < s.size
              · have hp2 : (a : Int) + j < s.size := by omega
                have HQ := Lib.hid (show (decide ((bytesOf s)[a + j]? = some 46)) = ((s[a + j].toNat : Int) == 46) by
                  rw [Bool.eq_iff_iff, decide_eq_true_iff, beq_iff_eq]; exact ⟨fun h => (HPT.out.1 h).2, fun h => HPT.out.2 ⟨hp, h⟩⟩)
                go_wp2
                go_meet
                case rel => exact ⟨by rw [HQ.out], rfl⟩
              · have hp2 : ¬ (a : Int) + j < s.size := by omega
                have HQ := Lib.hid (show (decide ((bytesOf s)[a + j]? = some 46)) = false from decide_eq_false fun h => hp (HPT.out.1 h).1)
                go_wp2
                go_meet
                case rel => exact ⟨by rw [HQ.out], rfl⟩
            case rest =>
              obtain ⟨h63, rfl⟩ := hcut
              generalize hpt : decide ((bytesOf s)[a + j]? = some 46) = pt at *
              have HP := Lib.hid hpt
              clear hpt
              subst h63
              go_upto_if 63 with fail
              go_cut [10, 12, 14] (fun s10 s12 s14 wx => NumMid s ah bh a ng s10 s12 s14 ∧ w = wx)
              case first =>
                cases pt with
                | false =>
                  go_wp2
                  go_meet
                  case rel => exact ⟨⟨a + j, d, 0, by push_cast; rfl, rfl, rfl, d0, by omega, by omega, hle, numZ_mid1 HNG.out HA.out HRN.out HB.out HP.out HDV.out⟩, rfl⟩
                | true =>
                  obtain ⟨hp1, _⟩ := HPT.out.1 (of_decide_eq_true HP.out)
                  have hd2 := rdigits_any s (a + j + 1) w hs (by omega)
                  rw [show ((a + j + 1 : Nat) : Int) = (a : Int) + j + 1 from by push_cast; rfl] at hd2
                  have hle2 := rowN_le isDig (bytesOf s) (a + j + 1) (by rw [HL.out]; omega)
                  rw [HL.out] at hle2
                  have HALL2 := Lib.hid (dig_at s (a + j + 1))
                  have HD2 := Lib.hid (digV_next (bytesOf s) (a + j + 1))
                  generalize hk : rowN isDig (bytesOf s) (a + j + 1) = k at *
                  have HRK := Lib.hid hk
                  have HDC := Lib.hid hd2
                  clear hd2 hk
                  have hp2 : (a : Int) + j + 1 ≤ s.size := by omega
                  by_cases hbad2 : k < 1 ∨ bh < k
                  · have HZ := Lib.hid (numZ_mid2 HNG.out HA.out HRN.out HB.out HP.out HRK.out hbad2)
                    by_cases hk1 : k < 1
                    · have hk2 : (k : Int) < 1 := by omega
                      clear hbad2
                      go_wp2_with (go_at_call 88; refine HDC.out.mono ?_; rintro e w' ⟨rfl, rfl⟩)
                      go_ret3
                      exact ⟨by rw [HZ.out]; rfl, 0, rfl⟩
                    · have hk2 : ¬ (k : Int) < 1 := by omega
                      have hk3 : bh < k := by omega
                      clear hbad2
                      go_wp2_with (go_at_call 88; refine HDC.out.mono ?_; rintro e w' ⟨rfl, rfl⟩)
                      go_ret3
                      exact ⟨by rw [HZ.out]; rfl, 0, rfl⟩
                  · have hk1 : 1 ≤ k := by omega
                    have hk2 : k ≤ bh := by omega
                    have hk3 : ¬ (k : Int) < 1 := by omega
                    have hk4 : ¬ bh < k := by omega
                    have HB2 := Lib.hid hbad2
                    clear hbad2
                    go_wp2_with (go_at_call 88; refine HDC.out.mono ?_; rintro e w' ⟨rfl, rfl⟩)
                    go_loop [12, 15] (fun v i => ∃ q : Nat, q ≤ k ∧ i = .int .i64 (q : Int) ∧ v = .int .i64 (digV (bytesOf s) (a + j + 1) d q)) (fun _ i => k - (intOf i).toNat)
                    case atStart => exact ⟨0, Nat.zero_le _, rfl, rfl⟩
                    case round =>
                      obtain ⟨q, hq, rfl, rfl⟩ := hrel
                      obtain ⟨e0, e1⟩ := HD2.out q d d0 d1 (by omega) hq
                      by_cases hlt2 : q < k
                      · obtain ⟨hs1, c0, c1⟩ := HALL2.out q hlt2
                        have hs2 : (a : Int) + j + 1 + q < s.size := by omega
                        have HG := Lib.hid (digV_get s (a + j + 1) d q hs1)
                        generalize digV (bytesOf s) (a + j + 1) d q = x at *
                        go_wp2
                        go_round
                        case rel => exact ⟨q + 1, by omega, by go_num, by rw [HG.out]⟩
                        case measure => simp [intOf]; omega
                      · have : q = k := by omega
                        subst this
                        have hlt2' : ¬ (q : Int) < q := by omega
                        generalize hx : digV (bytesOf s) (a + j + 1) d q = x at *
                        have HX := Lib.hid hx
                        clear hx
                        go_wp2
                        go_meet
                        case rel => exact ⟨⟨a + j + 1 + q, x, q, by push_cast; rfl, rfl, rfl, e0, e1, hk2, by omega, numZ_mid3 HNG.out HA.out HRN.out HB.out HP.out HRK.out HB2.out HDV.out HX.out⟩, rfl⟩
              case rest =>
                obtain ⟨⟨r, v, k, h10, h12, h14, v0, v1, hkb, hr, hz⟩, rfl⟩ := hcut
                have HZ := Lib.hid hz
                clear hz
                subst h10 h12 h14
                go_wp2
                go_loop [12, 16] (fun u i => ∃ q : Nat, k ≤ q ∧ q ≤ bh ∧ i = .int .i64 (q : Int) ∧ u = .int .i64 (v * 10 ^ (q - k))) (fun _ i => bh - (intOf i).toNat)
                case atStart => exact ⟨k, Nat.le_refl _, hkb, rfl, by simp⟩
                case round =>
                  obtain ⟨q, hq0, hq, rfl, rfl⟩ := hrel
                  obtain ⟨t0, t1⟩ := times_bd v (q - k) v0 v1 (by omega)
                  by_cases hlt3 : q < bh
                  · have HT := Lib.hid (show v * 10 ^ (q + 1 - k) = 10 * (v * 10 ^ (q - k)) by
                      rw [show q + 1 - k = (q - k) + 1 by omega, Int.pow_succ, ← Int.mul_assoc, Int.mul_comm])
                    generalize v * 10 ^ (q - k) = x at *
                    go_wp2
                    go_round
                    case rel => exact ⟨q + 1, by omega, by omega, by go_num, by rw [HT.out]⟩
                    case measure => simp [intOf]; omega
                  · have : q = bh := by omega
                    subst this
                    have hlt3' : ¬ (q : Int) < q := by omega
                    generalize hx : v * 10 ^ (q - k) = x at *
                    have HX := Lib.hid hx
                    clear hx
                    cases ng
                    all_goals
                      go_wp2
                      go_quiet (fail)
                      all_goals
                        go_wp2
                        go_ret3
                        exact ⟨by rw [HZ.out]; rfl, _, rfl⟩
end Go.Proofs.YtbhdpfacfgldiaaGreatDoor
