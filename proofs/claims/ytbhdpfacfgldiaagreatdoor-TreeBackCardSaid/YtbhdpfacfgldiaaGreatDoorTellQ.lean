import Derived.Test.YtbhdpfacfgldiaaGreatDoorZSQ
import Derived.Test.YtbhdpfacfgldiaaGreatDoorZQ
import Derived.Test.YtbhdpfacfgldiaaGreatDoorZRQ
import Derived.Deep.QuietTactic
import Derived.BigQuiet
import Derived.Lib.MinMax
/- decl: what values tell, whatever the digits: only how long a text may be. -/
namespace Go.Proofs.YtbhdpfacfgldiaaGreatDoor
open Go Go.RowKit
set_option linter.unusedVariables false
set_option linter.unusedSimpArgs false
set_option maxRecDepth 20000
set_option maxHeartbeats 4000000

/-- A text of at most so many bytes. -/
def TextPost (k : Nat) (W : World) (e : Ending) (w' : World) : Prop := ∃ s : ByteArray, e = .returned (.string s) ∧ s.size ≤ k ∧ Below W.heap.size W w'
abbrev TabOk (W : World) : Prop := PowTab W ∧ 3 < W.heap.size
theorem TabOk.below {W w : World} (h : TabOk W) (hb : Below W.heap.size W w) : TabOk w := ⟨h.1.below hb h.2, Nat.lt_of_lt_of_le h.2 hb.size⟩
theorem fmt_any (n : Int) (h0 : -4611686018427387904 ≤ n) (h1 : n ≤ 4611686018427387904) (W : World) (hT : TabOk W) :
    Calls Tryz.prog 150 #[.int .i64 n, .int .i64 10] W (TextPost 22 W) := by
  have F := Lib.hid (fint_any n h0 h1 W hT.1 hT.2)
  go_enter Tryz.func150, Tryz.ntmps150
  go_wp2_with fail
  refine F.out.mono ?_
  rintro e w1 ⟨s, rfl, hs, hb⟩
  go_wp2_with fail
  go_ret
  exact ⟨s, rfl, hs, hb⟩
theorem itoai_any (n : Int) (h0 : -4611686018427387904 ≤ n) (h1 : n ≤ 4611686018427387904) (W : World) (hT : TabOk W) :
    Calls Tryz.prog 126 #[.int .i64 n] W (TextPost 22 W) := by
  have F := Lib.hid (fint_any n h0 h1 W hT.1 hT.2)
  go_enter Tryz.func126, Tryz.ntmps126
  go_wp2_with fail
  refine F.out.mono ?_
  rintro e w1 ⟨s, rfl, hs, hb⟩
  go_wp2_with fail
  go_ret
  exact ⟨s, rfl, hs, hb⟩
theorem itoa_any (n : Int) (h0 : -4611686018427387904 ≤ n) (h1 : n ≤ 4611686018427387904) (W : World) (hT : TabOk W) :
    Calls Tryz.prog 125 #[.int .i64 n] W (TextPost 22 W) := by
  have F := Lib.hid (itoai_any n h0 h1 W hT)
  go_enter Tryz.func125, Tryz.ntmps125
  go_wp2_with fail
  refine F.out.mono ?_
  rintro e w1 ⟨s, rfl, hs, hb⟩
  go_wp2_with fail
  go_ret
  exact ⟨s, rfl, hs, hb⟩
theorem rep_len : ∀ (c : Nat), (Lib.repeatL [(48 : UInt8)] c).length = c
  | 0 => rfl
  | c + 1 => by rw [Lib.repeatL, List.length_append, rep_len c]; simp; omega
theorem repeat_zero (c : Nat) (hc : c ≤ 100) (W : World) : Calls Tryz.prog 151 #[.string ⟨#[48]⟩, .int .i64 c] W fun e w' => ∃ s : ByteArray, e = .returned (.string s) ∧ s.size = c ∧ Below W.heap.size W w' := by
  refine (Tryz.strings_Repeat ⟨#[48]⟩ c W (by omega) (by show 1 * c ≤ _; omega)).mono ?_
  rintro e w' ⟨rfl, hb⟩
  refine ⟨_, rfl, ?_, hb⟩
  show (Lib.repeatL _ c).toArray.size = c
  rw [List.size_toArray]
  exact rep_len c
theorem trim_zero (s : ByteArray) (hs : s.size ≤ 1000) (W : World) : Calls Tryz.prog 152 #[.string s, .string ⟨#[48]⟩] W fun e w' => e = .returned (.string ⟨(Lib.trimRightB s.data.toList 48).toArray⟩) ∧ w' = W :=
  Tryz.strings_TrimRight_one s 48 (by decide) W (by omega)
theorem trim_size (s : ByteArray) : (Lib.trimRightB s.data.toList 48).toArray.size ≤ s.size := by
  unfold Lib.trimRightB
  rw [List.size_toArray, List.length_reverse]
  have h1 := (List.dropWhile_sublist (fun x => x == (48 : UInt8)) (l := s.data.toList.reverse)).length_le
  rw [List.length_reverse, Array.length_toList] at h1
  exact h1
theorem decimal_any (n : Int) (parts : Nat) (h0 : -1000000000 ≤ n) (h1 : n ≤ 1000000000) (hp : parts ≤ 3) (W : World) (hT : TabOk W) :
    Calls Tryz.prog 145 #[.int .i64 n, .int .i64 parts] W (TextPost 300 W) := by
  have F := Lib.hid (fmt_any (max n (-n)) (by omega) (by omega) W hT)
  have R := Lib.hid (fun c hc w => repeat_zero c hc w)
  have hneg : -9223372036854775808 ≤ -n ∧ -n ≤ 9223372036854775807 := by omega
  go_enter Tryz.func145, Tryz.ntmps145
  go_wp2_with fail
  refine F.out.mono ?_
  rintro e w1 ⟨s, rfl, hs, hb1⟩
  have B1 := Lib.hid hb1
  clear hb1 F
  obtain ⟨k, hk⟩ : ∃ k : Nat, max ((parts : Int) + 1 - (s.size : Int)) 0 = (k : Int) := ⟨(max ((parts : Int) + 1 - (s.size : Int)) 0).toNat, by omega⟩
  have hk2 : k ≤ 100 ∧ parts + 1 ≤ k + s.size := by omega
  go_wp2_with fail
  refine (R.out k hk2.1 _).mono ?_
  rintro e w2 ⟨t, rfl, ht, hb⟩
  have B2 := Lib.hid (B1.out.trans (hb.mono B1.out.size))
  clear hb B1 R
  go_upto_region 3 with fail
  obtain ⟨u, hu⟩ : ∃ u, t ++ s = u := ⟨_, rfl⟩
  have hus : parts + 1 ≤ u.size ∧ u.size ≤ 125 := by rw [← hu, ByteArray.size_append]; omega
  rw [hu]
  clear hu hk
  obtain ⟨q, hq⟩ : ∃ q : Nat, (u.size : Int) - (parts : Int) = (q : Int) := ⟨u.size - parts, by omega⟩
  have hq2 : (q : Int) ≤ u.size ∧ q ≤ u.size := by omega
  have TR := Lib.hid (fun s hs w => trim_zero s hs w)
  go_quiet (first | (refine Calls.quiet_of_same (TR.out _ (by rw [ByteArray.size_extract]; omega) _)))
  have B3 := Lib.hid (Below.drewN' B2.out nq)
  generalize w2.drewN nq = w3 at *
  obtain ⟨a, ha⟩ : ∃ a, u.extract 0 q = a := ⟨_, rfl⟩
  obtain ⟨b, hb⟩ : ∃ b : ByteArray, (⟨(Lib.trimRightB (u.extract q u.size).data.toList 48).toArray⟩ : ByteArray) = b := ⟨_, rfl⟩
  have has : a.size ≤ 125 := by rw [← ha, ByteArray.size_extract]; omega
  have hbs : b.size ≤ 125 := by
    have h := trim_size (u.extract q u.size)
    rw [ByteArray.size_extract] at h
    rw [← hb]
    show (Lib.trimRightB (u.extract q u.size).data.toList 48).toArray.size ≤ 125
    omega
  rw [ha, hb]
  clear ha hb TR B2 hq hq2 hus
  go_upto_if 36 with fail
  go_cut [6] from 37 to 40 (fun v wx => ∃ c : ByteArray, v = .string c ∧ c.size ≤ 260 ∧ wx = w3)
  case first =>
    go_wp2_with fail
    all_goals go_meet
    all_goals first
      | exact ⟨a, rfl, by omega, rfl⟩
      | exact ⟨_, rfl, by rw [ByteArray.size_append, ByteArray.size_append]; show a.size + (1 + b.size) ≤ 260; omega, rfl⟩
  case rest =>
    obtain ⟨c, rfl, hcs, rfl⟩ := hcut
    by_cases hn : n < 0
    · have z : decide (n < 0) = true := decide_eq_true hn
      go_wp2_with fail
      go_ret
      exact ⟨_, rfl, by rw [ByteArray.size_append]; show 1 + c.size ≤ 300; omega, B3.out⟩
    · have z : decide (n < 0) = false := decide_eq_false hn
      go_wp2_with fail
      go_ret
      exact ⟨_, rfl, by omega, B3.out⟩
/-- What readAs' function answers: something. -/
theorem rclosure_any (ga gn : Nat) (away n k : Int) (hk : -100000000 ≤ k * away ∧ k * away ≤ 100000000) (w : World) (ha : w.cell? ⟨ga, 0, none⟩ = some (.int .i64 away)) (hn : w.cell? ⟨gn, 0, none⟩ = some (.int .i64 n)) :
    Calls Tryz.prog 154 #[.int .i64 k, .pointer (some ⟨ga, 0, none⟩), .pointer (some ⟨gn, 0, none⟩)] w fun e w' => ∃ b : Bool, e = .returned (.bool b) ∧ w' = w := by
  have PX := Lib.hid (px_any (k * away) w (by omega) (by omega))
  have m0 : -9223372036854775808 ≤ k * away ∧ k * away ≤ 9223372036854775807 := by omega
  obtain ⟨p, hp⟩ : ∃ p, k * away = p := ⟨_, rfl⟩
  rw [hp] at PX m0 hk
  by_cases h0 : n < 0
  · have z0 : decide (n < 0) = true := decide_eq_true h0
    go_enter Tryz.func154, Tryz.ntmps154
    go_wp2_with fail
    refine PX.out.mono ?_
    rintro e w' ⟨rfl, rfl⟩
    go_wp2_with fail
    go_ret
    exact ⟨_, rfl, rfl⟩
  · have z0 : decide (n < 0) = false := decide_eq_false h0
    go_enter Tryz.func154, Tryz.ntmps154
    go_wp2_with fail
    refine PX.out.mono ?_
    rintro e w' ⟨rfl, rfl⟩
    go_wp2_with fail
    go_ret
    exact ⟨_, rfl, rfl⟩
theorem search_any (ga gn : Nat) (away n : Int) (N : Nat) (hN : N ≤ 100000000) (hb : ∀ k : Int, 0 ≤ k → k ≤ N → -100000000 ≤ k * away ∧ k * away ≤ 100000000) (w : World) (ha : w.cell? ⟨ga, 0, none⟩ = some (.int .i64 away)) (hn : w.cell? ⟨gn, 0, none⟩ = some (.int .i64 n)) :
    Calls Tryz.prog 153 #[.int .i64 N, .func (.func 154) #[] #[.pointer (some ⟨ga, 0, none⟩), .pointer (some ⟨gn, 0, none⟩)]] w fun e w' => ∃ k : Nat, e = .returned (.int .i64 k) ∧ k ≤ N ∧ w' = w := by
  have C := Lib.hid (fun (k : Int) (h0 : 0 ≤ k) (h1 : k ≤ N) => rclosure_any ga gn away n k (hb k h0 h1) w ha hn)
  clear ha hn hb
  go_enter Tryz.func153, Tryz.ntmps153
  go_wp2_with fail
  go_loopw [5, 6] (fun v5 v6 wr => ∃ i j : Nat, v5 = .int .i64 i ∧ v6 = .int .i64 j ∧ i ≤ j ∧ j ≤ N ∧ Hid (wr = w)) (fun v5 v6 _ => (intOf v6).toNat - (intOf v5).toNat)
  case atStart => exact ⟨0, N, rfl, rfl, Nat.zero_le _, Nat.le_refl _, Lib.hid rfl⟩
  case round =>
    obtain ⟨i, j, rfl, rfl, hij, hjN, HW⟩ := hrel
    obtain rfl := HW.out
    by_cases hlt : i < j
    · have hltz : (i : Int) < (j : Int) := by omega
      obtain ⟨h, hh⟩ : ∃ h : Nat, ((i : Int) + (j : Int)) / 2 = (h : Int) := ⟨(i + j) / 2, by omega⟩
      have hhb : i ≤ h ∧ h < j := by omega
      have hlz : (h : Int) ≤ N ∧ (0 : Int) ≤ h := by omega
      go_wp2_with fail
      refine (C.out h hlz.2 hlz.1).mono ?_
      rintro e w' ⟨b, rfl, rfl⟩
      cases b with
      | true =>
        go_wp2_with fail
        go_roundw
        case rel => exact ⟨i, h, rfl, rfl, hhb.1, by omega, by first | exact Lib.hid rfl | exact Lib.hid trivial⟩
        case measure => simp [intOf]; omega
      | false =>
        go_wp2_with fail
        go_roundw
        case rel => exact ⟨h + 1, j, by go_num, rfl, by omega, hjN, by first | exact Lib.hid rfl | exact Lib.hid trivial⟩
        case measure => simp [intOf]; omega
    · have hltz : ¬ (i : Int) < (j : Int) := by omega
      go_wp2_with fail
      go_ret
      exact ⟨i, rfl, by omega, rfl⟩
theorem readAs_any (n step : Int) (N : Nat) (hs : 1 ≤ step ∧ step ≤ 1000) (hNs : (99999999 : Int) / step = (N : Int)) (hn : -1000000000 ≤ n ∧ n ≤ 1000000000) (W : World) :
    Calls Tryz.prog 149 #[.int .i64 n, .int .i64 step] W fun e w' => ∃ (t : Int) (b : Bool), e = .returned (.tuple #[.int .i64 t, .bool b]) ∧ -100000000 ≤ t ∧ t ≤ 100000000 ∧ Below W.heap.size W w' := by
  have e1 : (99999999 : Int).tdiv step = (N : Int) := by rw [Int.tdiv_eq_ediv_of_nonneg (by decide)]; exact hNs
  have hN : N ≤ 100000000 := by
    have := Int.ediv_le_self (a := 99999999) step (by decide)
    omega
  have hNm : (N : Int) * step ≤ 99999999 := by rw [← hNs]; exact Int.ediv_mul_le _ (by omega)
  have bnd : ∀ k : Int, 0 ≤ k → k ≤ N → 0 ≤ k * step ∧ k * step ≤ 99999999 := fun k h0 h1 => ⟨Int.mul_nonneg h0 (by omega), Int.le_trans (Int.mul_le_mul_of_nonneg_right h1 (by omega)) hNm⟩
  have Y0 := Lib.hid ((Whole.mk W 2 #[.int .i64 n]).made (.cells #[.int .i64 step] 2))
  have Y1 : Hid (Whole ((W.alloc (.cells #[.int .i64 n] 2)).alloc (.cells #[.int .i64 step] 2)) (W.heap.size + 1) 2 [.int .i64 step]) := Lib.hid (by
    have h := Whole.mk (W.alloc (.cells #[.int .i64 n] 2)) 2 #[.int .i64 step]
    rw [World.size_alloc] at h; exact h)
  have B1 := Lib.hid (((Below.refl W.heap.size W).alloc (Nat.le_refl _) (.cells #[.int .i64 n] 2)).alloc (by simp) (.cells #[.int .i64 step] 2))
  have hs0 : (step == 0) = false := by rw [beq_eq_false_iff_ne]; omega
  have nst : -9223372036854775808 ≤ -step ∧ -step ≤ 9223372036854775807 := by omega
  have nN : -9223372036854775808 ≤ (N : Int) ∧ (N : Int) ≤ 9223372036854775807 := by omega
  go_enter Tryz.func149, Tryz.ntmps149
  go_upto_region 2 with fail
  generalize (W.alloc _).alloc _ = w1 at *
  have n1 : w1.cell? ⟨W.heap.size, 0, none⟩ = some (.int .i64 n) := Y0.out.cell 0
  clear hNm hNs
  by_cases h0 : n < 0
  · have z0 : decide (n < 0) = true := decide_eq_true h0
    have a1 : w1.cell? ⟨W.heap.size + 1, 0, none⟩ = some (.int .i64 step) := Y1.out.cell 0
    have f1 := Y1.out.free 0
    have YA : Hid (Whole (w1.setCell ⟨W.heap.size + 1, 0, none⟩ (.int .i64 (-step))) (W.heap.size + 1) 2 [.int .i64 (-step)]) := Lib.hid (Y1.out.put 0 _)
    have YN := Lib.hid (Y0.out.other (p := ⟨W.heap.size + 1, 0, none⟩) (by simp) (.int .i64 (-step)))
    have B2 := Lib.hid (B1.out.setCell (p := ⟨W.heap.size + 1, 0, none⟩) (by simp) (.int .i64 (-step)))
    have hb : ∀ k : Int, 0 ≤ k → k ≤ N → -100000000 ≤ k * -step ∧ k * -step ≤ 100000000 := fun k h0 h1 => by
      have := bnd k h0 h1
      rw [Int.mul_neg]; omega
    go_upto_region 4 with fail
    clear Y0 Y1 B1 a1 f1 n1 bnd nst
    generalize w1.setCell _ _ = w1 at *
    obtain ⟨away, haw⟩ : ∃ a, -step = a := ⟨_, rfl⟩
    rw [haw] at YA hb
    clear haw
    have SE := Lib.hid (fun (w : World) (ha : w.cell? ⟨W.heap.size + 1, 0, none⟩ = some (.int .i64 away)) (hn : w.cell? ⟨W.heap.size, 0, none⟩ = some (.int .i64 n)) => search_any (W.heap.size + 1) W.heap.size away n N hN hb w ha hn)
    have A2 := YA.out.cell 0
    have N2 := YN.out.cell 0
    simp only [List.getElem?_cons_zero] at A2 N2
    go_wp2_with fail
    refine (SE.out _ A2 N2).mono ?_
    rintro e w2 ⟨k, rfl, hk, rfl⟩
    have kb := hb k (by omega) (by omega)
    obtain ⟨t, ht⟩ : ∃ t, (k : Int) * away = t := ⟨_, rfl⟩
    rw [ht] at kb
    have m0 : -9223372036854775808 ≤ t ∧ t ≤ 9223372036854775807 := by omega
    have PX := Lib.hid (fun w => (px_any t w (by omega) (by omega)).mono fun e w' (h : e = _ ∧ w = w') => (⟨h.1, h.2.symm⟩ : e = .returned (.int .i64 (pxZ t)) ∧ w' = w))
    have c2 : ∀ q, (w2.drewN q).cell? ⟨W.heap.size, 0, none⟩ = some (.int .i64 n) := fun q => N2
    clear SE hb YA YN
    go_upto_region 6 with fail
    go_quiet (first | (refine Calls.quiet_of_same (PX.out _)))
    have B3 := Lib.hid (Below.drewN' B2.out nq)
    go_wp2_with fail
    go_ret2
    exact ⟨t, _, rfl, kb.1, kb.2, B3.out⟩
  · have z0 : decide (n < 0) = false := decide_eq_false h0
    have hb : ∀ k : Int, 0 ≤ k → k ≤ N → -100000000 ≤ k * step ∧ k * step ≤ 100000000 := fun k h0 h1 => by
      have := bnd k h0 h1
      omega
    have YA := Y1
    have YN := Y0
    have B2 := B1
    clear Y0 Y1 B1 n1 bnd
    obtain ⟨away, haw⟩ : ∃ a, step = a := ⟨_, rfl⟩
    have YN1 := YN.out.cell 0
    simp only [List.getElem?_cons_zero] at YN1
    go_upto_region 4 with fail
    clear YN1
    subst haw
    have SE := Lib.hid (fun (w : World) (ha : w.cell? ⟨W.heap.size + 1, 0, none⟩ = some (.int .i64 step)) (hn : w.cell? ⟨W.heap.size, 0, none⟩ = some (.int .i64 n)) => search_any (W.heap.size + 1) W.heap.size step n N hN hb w ha hn)
    have A2 := YA.out.cell 0
    have N2 := YN.out.cell 0
    simp only [List.getElem?_cons_zero] at A2 N2
    go_wp2_with fail
    refine (SE.out _ A2 N2).mono ?_
    rintro e w2 ⟨k, rfl, hk, rfl⟩
    have kb := hb k (by omega) (by omega)
    obtain ⟨t, ht⟩ : ∃ t, (k : Int) * step = t := ⟨_, rfl⟩
    rw [ht] at kb
    have m0 : -9223372036854775808 ≤ t ∧ t ≤ 9223372036854775807 := by omega
    have PX := Lib.hid (fun w => (px_any t w (by omega) (by omega)).mono fun e w' (h : e = _ ∧ w = w') => (⟨h.1, h.2.symm⟩ : e = .returned (.int .i64 (pxZ t)) ∧ w' = w))
    have c2 : ∀ q, (w2.drewN q).cell? ⟨W.heap.size, 0, none⟩ = some (.int .i64 n) := fun q => N2
    clear SE hb YA YN
    go_upto_region 6 with fail
    go_quiet (first | (refine Calls.quiet_of_same (PX.out _)))
    have B3 := Lib.hid (Below.drewN' B2.out nq)
    go_wp2_with fail
    go_ret2
    exact ⟨t, _, rfl, kb.1, kb.2, B3.out⟩
end Go.Proofs.YtbhdpfacfgldiaaGreatDoor
