import Derived.Test.YthneapnijfmpmaaCrAwake
import Derived.Test.YthneapnijfmpmaaLTame
import Derived.Test.YthneapnijfmpmaaConv
/- CrosWithin: with room an item stands within its line; lines stand side by side. -/
namespace Go.Proofs.Ythneapnijfmpmaa
open Go Go.RowKit
set_option linter.unusedVariables false
set_option linter.unusedSimpArgs false
set_option maxRecDepth 20000
set_option maxHeartbeats 8000000

theorem off_in {li ou : Int} (h0 : 0 ≤ ou) (h1 : ou ≤ li) (b a : Bool) (s : Int) (r : Bool) : 0 ≤ offZ li ou b a s r ∧ offZ li ou b a s r + ou ≤ li := by
  unfold offZ
  split
  · split
    · omega
    · split <;> omega
  · split
    · omega
    · split <;> omega
theorem off_turned {li ou : Int} (h0 : 0 ≤ ou) (h1 : ou ≤ li) (s : Int) (h : s ≠ 2) : offZ li ou false false s false + offZ li ou false false s true + ou = li := by
  unfold offZ
  simp only [Bool.or_self, Bool.false_eq_true, if_false, if_neg h]
  by_cases h1 : s = 1
  · simp [h1]
  · simp [h1]
theorem off_same (li ou : Int) (b a : Bool) (s : Int) (h : (b || a) = true ∨ s = 2) : offZ li ou b a s false = offZ li ou b a s true := by
  unfold offZ
  rcases h with h | h
  · rw [if_pos h, if_pos h]
  · rw [if_pos h, if_pos h]
theorem crwithin_any (line0 outer0 : Int) (before after : Bool) (self0 : Int) (l : List Int) (A : Option Addr) (c : Nat) (W : World) (hR : Row W W.heap.size A (i64s l)) (hl : l.length ≤ 9223372036854775807) :
    Calls Try.prog 6 #[.int .i64 line0, .int .i64 outer0, .bool before, .bool after, .int .i64 self0, .slice A l.length c] W fun e w' => e = .returned (.bool true) ∧ Below W.heap.size W w' := by
  have AW := Lib.hid (fun w => crawake_any w)
  have TT := Lib.hid (fun (w : World) (h : Row w w.heap.size A (i64s l)) => ctame_any l 1099511627776 (by decide) (by decide) A c w h hl)
  have HR := Lib.hid hR
  clear hR
  have TB := tameC_bd 1099511627776 (by decide) l
  have TL := tameC_len 1099511627776 l
  obtain ⟨t, ht⟩ : ∃ t, tameC 1099511627776 l = t := ⟨_, rfl⟩
  have HT := Lib.hid ht
  rw [ht] at TB TL
  have TL6 : t.length ≤ 60 := by omega
  have SB := Lib.hid (fun k => sumC_takebd (c := 1099511627776) (by decide) t (fun z hz => by have := TB z hz; omega) TL6 k)
  have HTB := Lib.hid TB
  obtain ⟨n, hn⟩ : ∃ n, t.length = n := ⟨_, rfl⟩
  have HN := Lib.hid hn
  rw [hn] at TL6
  clear ht TB TL hl hn
  have k16 : ∀ x : Int, bits .and .i64 x 65535 = x % 65536 := fun x => and_mask_i64 x 16 (by decide)
  have k2 : ∀ x : Int, bits .and .i64 x 3 = x % 4 := fun x => and_mask_i64 x 2 (by decide)
  obtain ⟨li, h1⟩ : ∃ z, line0 % 65536 = z := ⟨_, rfl⟩
  have a0 : 0 ≤ li ∧ li < 65536 := by omega
  obtain ⟨m1, hm1⟩ : ∃ z, li + 1 = z := ⟨_, rfl⟩
  have M0 : (m1 == 0) = false := by rw [beq_eq_false_iff_ne]; omega
  have M1 : IntKind.u64.wrap m1 = m1 := by rw [IntKind.wrap_u64]; omega
  obtain ⟨ou, u2, i2, j2⟩ := conv_lt outer0 m1 (by omega) (by omega)
  have hou : 0 ≤ ou ∧ ou ≤ li := by omega
  obtain ⟨sf, hsf⟩ : ∃ z, self0 % 4 = z := ⟨_, rfl⟩
  have hsb : 0 ≤ sf ∧ sf < 4 := by omega
  have F1 := Lib.hid (fun w => coff_any li ou before after sf false w (by omega))
  have F2 := Lib.hid (fun w => coff_any li ou before after sf true w (by omega))
  have q1 := off_in hou.1 hou.2 before after sf false
  have q2 := off_in hou.1 hou.2 before after sf true
  have q3 := fun (h : before = false ∧ after = false ∧ sf ≠ 2) => (by obtain ⟨rfl, rfl, h⟩ := h; exact off_turned hou.1 hou.2 sf h : offZ li ou before after sf false + offZ li ou before after sf true + ou = li)
  have q4 := off_same li ou before after sf
  obtain ⟨a, ha⟩ : ∃ z, offZ li ou before after sf false = z := ⟨_, rfl⟩
  obtain ⟨b, hb⟩ : ∃ z, offZ li ou before after sf true = z := ⟨_, rfl⟩
  rw [ha] at F1 q1 q3 q4
  rw [hb] at F2 q2 q3 q4
  have Q3 := Lib.hid q3
  have Q4 := Lib.hid q4
  clear ha hb q3 q4
  have d1 : decide (a < 0) = false := decide_eq_false (by omega)
  have d2 : decide (li < a + ou) = false := decide_eq_false (by omega)
  have d3 : decide (b < 0) = false := decide_eq_false (by omega)
  have d4 : decide (li < b + ou) = false := decide_eq_false (by omega)
  have n1 : -9223372036854775808 ≤ a + ou ∧ a + ou ≤ 9223372036854775807 := by omega
  have n2 : -9223372036854775808 ≤ b + ou ∧ b + ou ≤ 9223372036854775807 := by omega
  have n3 : -9223372036854775808 ≤ a + b ∧ a + b ≤ 9223372036854775807 := by omega
  have n4 : -9223372036854775808 ≤ a + b + ou ∧ a + b + ou ≤ 9223372036854775807 := by omega
  have n5 : -9223372036854775808 ≤ m1 ∧ m1 ≤ 9223372036854775807 := by omega
  have B0 := Lib.hid (Below.refl W.heap.size W)
  go_enter Try.func6, Try.ntmps6
  go_upto_region 3 with fail
  simp only [u2]
  clear u2 M0 M1 hm1 n5 h1
  go_wp2_with fail
  refine (F1.out _).mono ?_
  rintro e w1 ⟨rfl, hb⟩
  have B1 := Lib.hid (B0.out.trans (hb.mono B0.out.size))
  clear hb F1 B0
  go_wp2_with fail
  refine (F2.out _).mono ?_
  rintro e w2 ⟨rfl, hb⟩
  have B2 := Lib.hid (B1.out.trans (hb.mono B1.out.size))
  clear hb F2 B1
  go_upto_region 7 with fail
  clear d1 d2 d3 d4 n1 n2 k16 k2 hsf
  go_cut [96] from 63 to 96 (fun v wx => v = .bool false ∧ wx = w2)
  case first =>
    cases before <;> cases after
    · by_cases h2 : sf = 2
      · have zs : (sf != 2) = false := by rw [h2]; rfl
        have ze : (sf == 2) = true := by rw [h2]; rfl
        have za : (a != b) = false := by rw [Q4.out (.inr h2)]; simp
        clear h2
        go_wp2_with fail
        go_meet
        exact ⟨rfl, rfl⟩
      · have zs : (sf != 2) = true := by rw [bne_iff_ne]; exact h2
        have ze : (sf == 2) = false := by rw [beq_eq_false_iff_ne]; exact h2
        have za : (a + b + ou != li) = false := by rw [Q3.out ⟨rfl, rfl, h2⟩]; simp
        clear h2
        go_wp2_with fail
        go_meet
        exact ⟨rfl, rfl⟩
    · have za : (a != b) = false := by rw [Q4.out (.inl rfl)]; simp
      go_wp2_with fail
      go_meet
      exact ⟨rfl, rfl⟩
    · have za : (a != b) = false := by rw [Q4.out (.inl rfl)]; simp
      go_wp2_with fail
      go_meet
      exact ⟨rfl, rfl⟩
    · have za : (a != b) = false := by rw [Q4.out (.inl rfl)]; simp
      go_wp2_with fail
      go_meet
      exact ⟨rfl, rfl⟩
  case rest =>
  obtain ⟨rfl, rfl⟩ := hcut
  generalize wc = w2 at *
  clear Q3 Q4 q1 q2 n3 n4 hou a0 hsb i2 j2
  have T := Lib.hid (TT.out w2 ((HR.out.below B2.out).more B2.out.size))
  clear TT HR
  go_wp2_with fail
  refine T.out.mono ?_
  rintro e w3 ⟨A1, c1, rfl, o1, hb1⟩
  rw [HT.out, HN.out] at o1 ⊢
  have RU := Lib.hid (row_of_own o1)
  have B3 := Lib.hid (B2.out.trans (hb1.mono B2.out.size))
  clear o1 hb1 T HT B2
  have BK : ∀ S : Int, -65970697666560 ≤ S ∧ S ≤ 65970697666560 → BegOk t S := fun S hS => ⟨fun z hz => by have := HTB.out z hz; omega, by rw [HN.out]; exact TL6, by omega, by omega⟩
  have C1 := Lib.hid (fun (w : World) (h : Row w w.heap.size A1 (i64s t)) => (clines_any t A1 c1 0 false w h (BK 0 (by omega))).mono fun e w' hp => bg_row hp rfl HN.out)
  have sall : (t.take n).sum = t.sum := by rw [List.take_of_length_le (by rw [HN.out]; exact Nat.le_refl _)]
  have sb := SB.out n
  rw [sall] at sb
  have C2 := Lib.hid (fun (w : World) (h : Row w w.heap.size A1 (i64s t)) => (clines_any t A1 c1 t.sum true w h (BK _ (by omega))).mono fun e w' hp => bg_row hp rfl HN.out)
  rw [HN.out] at C1 C2
  have HSA := Lib.hid sall
  obtain ⟨P, hP⟩ : ∃ P, begsZ t 0 false = P := ⟨_, rfl⟩
  obtain ⟨Q, hQ⟩ : ∃ Q, begsZ t t.sum true = Q := ⟨_, rfl⟩
  have HPL : Hid (P.length = n) := Lib.hid (by rw [← hP, begsZ_len]; exact HN.out)
  have HQL : Hid (Q.length = n) := Lib.hid (by rw [← hQ, begsZ_len]; exact HN.out)
  have PA : Hid (∀ k (h : k < t.length) (h' : k < P.length), P[k] = (t.take k).sum) := Lib.hid (fun k h h' => by have := begsZ_at hP h h'; rwa [if_neg (by simp)] at this)
  have QA : Hid (∀ k (h : k < t.length) (h' : k < Q.length), Q[k] = t.sum - (t.take k).sum - t[k]) := Lib.hid (fun k h h' => by have := begsZ_at hQ h h'; rwa [if_pos rfl] at this)
  rw [hP] at C1
  rw [hQ] at C2
  clear hP hQ BK sall
  go_wp2_with fail
  refine (C1.out _ RU.out).mono ?_
  rintro e w4 ⟨A3, c3, rfl, r4, hb⟩
  have RP := Lib.hid r4
  have RU1 := Lib.hid ((RU.out.below hb).more hb.size)
  have B4 := Lib.hid (B3.out.trans (hb.mono B3.out.size))
  clear hb r4 RU B3 C1
  go_wp2_with fail
  go_loopw [16, 17] (fun v16 v17 wr => ∃ k : Nat, v16 = .int .i64 (t.take k).sum ∧ v17 = .int .i64 k ∧ k ≤ n ∧ Hid (Below w4.heap.size w4 wr)) (fun _ v17 _ => n - (intOf v17).toNat)
  case atStart => exact ⟨0, by simp, rfl, Nat.zero_le _, Lib.hid (Below.refl _ _)⟩
  case round =>
    generalize wr = w5 at *
    obtain ⟨k, rfl, rfl, hk, B5⟩ := hrel
    have s0 := SB.out k
    by_cases hlt : k < n
    · have hltz : (k : Int) < n := by omega
      have hkt : k < t.length := by rw [HN.out]; exact hlt
      have hkp : k < P.length := by rw [HPL.out]; exact hlt
      have E := PA.out k hkt hkp
      obtain ⟨a1, rfl, -, du⟩ := (RU1.out.below B5.out).int hkt
      obtain ⟨a3, rfl, -, dp⟩ := (RP.out.below B5.out).int hkp
      rw [E] at dp
      have ST := Lib.hid (sumC_take t hkt)
      have s1 := SB.out (k + 1)
      rw [ST.out] at s1
      obtain ⟨z, hz⟩ : ∃ z, t[k] = z := ⟨_, rfl⟩
      obtain ⟨sm, hsm⟩ : ∃ s, (t.take k).sum = s := ⟨_, rfl⟩
      rw [hz] at du ST s1
      rw [hsm] at dp ST s1 s0 ⊢
      have zz : (sm != sm) = false := by simp
      have n1 : -9223372036854775808 ≤ sm + z ∧ sm + z ≤ 9223372036854775807 := by omega
      clear hz hsm E
      go_wp2_with fail
      go_roundw
      case rel => exact ⟨k + 1, by rw [ST.out], by go_num, by omega, B5⟩
      case measure => simp [intOf] <;> omega
    · obtain rfl : n = k := by omega
      have hltz : ¬ (n : Int) < n := by omega
      rw [HSA.out] at s0 ⊢
      have RU2 := Lib.hid ((RU1.out.below B5.out).more B5.out.size)
      have RP2 := Lib.hid ((RP.out.below B5.out).more B5.out.size)
      have B6 := Lib.hid (B4.out.trans (B5.out.mono B4.out.size))
      clear RU1 RP B4 B5 hlt
      obtain ⟨S, hS⟩ : ∃ S, t.sum = S := ⟨_, rfl⟩
      rw [hS] at s0 C2 QA ⊢
      clear hS sb HSA
      go_wp2_with fail
      refine (C2.out _ RU2.out).mono ?_
      rintro e w6 ⟨A4, c4, rfl, r6, hb⟩
      have RQ := Lib.hid r6
      have RU3 := Lib.hid ((RU2.out.below hb).more hb.size)
      have RP3 := Lib.hid ((RP2.out.below hb).more hb.size)
      have B7 := Lib.hid (B6.out.trans (hb.mono B6.out.size))
      clear hb r6 RU2 RP2 B6 C2
      go_wp2_with fail
      go_loopw [19] (fun v19 wr => ∃ i : Nat, v19 = .int .i64 i ∧ i ≤ n ∧ Hid (Below w6.heap.size w6 wr)) (fun v19 _ => n - (intOf v19).toNat)
      case atStart => exact ⟨0, rfl, Nat.zero_le _, Lib.hid (Below.refl _ _)⟩
      case round =>
        generalize wr = w7 at *
        obtain ⟨i, rfl, hik, B8⟩ := hrel
        by_cases hlt : i < n
        · have hltz : (i : Int) < n := by omega
          have hit : i < t.length := by rw [HN.out]; exact hlt
          have hip : i < P.length := by rw [HPL.out]; exact hlt
          have hiq : i < Q.length := by rw [HQL.out]; exact hlt
          have E1 := PA.out i hit hip
          have E2 := QA.out i hit hiq
          have bz := HTB.out _ (List.getElem_mem hit)
          have bs := SB.out i
          obtain ⟨a1, rfl, -, du⟩ := (RU3.out.below B8.out).int hit
          obtain ⟨a3, rfl, -, dp⟩ := (RP3.out.below B8.out).int hip
          obtain ⟨a4, rfl, -, dq⟩ := (RQ.out.below B8.out).int hiq
          rw [E1] at dp
          rw [E2] at dq
          obtain ⟨z, hz⟩ : ∃ z, t[i] = z := ⟨_, rfl⟩
          obtain ⟨sm, hsm⟩ : ∃ s, (t.take i).sum = s := ⟨_, rfl⟩
          rw [hz] at du dq bz
          rw [hsm] at dp dq bs
          obtain ⟨d, hd⟩ : ∃ d, S - sm - z = d := ⟨_, rfl⟩
          have zz : (d != S - sm - z) = false := by rw [hd]; simp
          rw [hd] at dq
          have n1 : -9223372036854775808 ≤ S - sm ∧ S - sm ≤ 9223372036854775807 := by omega
          have n2 : -9223372036854775808 ≤ S - sm - z ∧ S - sm - z ≤ 9223372036854775807 := by omega
          have c1 : ∀ q, (w7.drewN q).cell? (a1.add i) = some (.int .i64 z) := fun q => du
          have c3 : ∀ q, (w7.drewN q).cell? (a3.add i) = some (.int .i64 sm) := fun q => dp
          have c4 : ∀ q, (w7.drewN q).cell? (a4.add i) = some (.int .i64 d) := fun q => dq
          clear hz hsm E1 E2 hd du dp dq bz bs
          go_upto_region 25 with fail
          go_quiet (fail)
          have B9 := Lib.hid (Below.drewN' B8.out nq)
          clear B8 c1 c3 c4
          go_wp2_with fail
          go_roundw
          case rel => exact ⟨i + 1, by go_num, by omega, B9⟩
          case measure => simp [intOf] <;> omega
        · obtain rfl : i = n := by omega
          have hltz : ¬ (i : Int) < i := by omega
          have B9 := Lib.hid (B7.out.trans (B8.out.mono B7.out.size))
          clear B7 B8
          go_wp2_with fail
          refine (AW.out _).mono ?_
          rintro e w9 ⟨rfl, hb9⟩
          have B10 := Lib.hid (B9.out.trans (hb9.mono B9.out.size))
          clear hb9
          go_wp2_with fail
          go_ret
          exact ⟨rfl, B10.out⟩
end Go.Proofs.Ythneapnijfmpmaa
