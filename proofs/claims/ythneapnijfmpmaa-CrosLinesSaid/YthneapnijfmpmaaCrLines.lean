import Derived.Test.YthneapnijfmpmaaCrAwake
import Derived.Test.YthneapnijfmpmaaAbsRow
/- CrosLines: lines behind each other; turned over. -/
namespace Go.Proofs.Ythneapnijfmpmaa
open Go Go.RowKit
set_option linter.unusedVariables false
set_option linter.unusedSimpArgs false
set_option maxRecDepth 20000
set_option maxHeartbeats 8000000

theorem add_nil (a : Addr) : a.add 0 = a := by unfold Addr.add; simp
/-- The answers, line by line. -/
structure LinF (u P Q : List Int) (n : Nat) (S : Int) : Prop where
  first : ∀ (h : 0 < P.length), P[0] = 0
  next : ∀ i (h : i + 1 < n) (a : i + 1 < P.length) (b : i + 1 < Q.length) (c : i + 1 < u.length), P[i + 1] = P[i] + u[i] ∧ Q[i + 1] + u[i + 1] = Q[i]
  turn : ∀ (h : 0 < Q.length) (c : 0 < u.length), Q[0] + u[0] = S
  last : ∀ i (h : i + 1 = n) (a : i < Q.length), Q[i] = 0
  bd : ∀ i (a : i < P.length) (b : i < Q.length) (c : i < u.length), 0 ≤ u[i] ∧ u[i] ≤ 1073741824 ∧ -64424509440 ≤ P[i] ∧ P[i] ≤ 64424509440 ∧ -130000000000 ≤ Q[i] ∧ Q[i] ≤ 130000000000
theorem linF_of {u P Q : List Int} {n : Nat} {S : Int} (hu : u.length = n) (hS : u.sum = S) (hP : begsZ u S false = P) (hQ : begsZ u S true = Q) (hb : ∀ z ∈ u, 0 ≤ z ∧ z ≤ 1073741824) (h6 : n ≤ 60) : LinF u P Q n S := by
  have pl : P.length = n := by rw [← hP, begsZ_len, hu]
  have ql : Q.length = n := by rw [← hQ, begsZ_len, hu]
  have hp : ∀ i (a : i < u.length) (b : i < P.length), P[i] = (u.take i).sum := fun i a b => by
    have := begsZ_at hP a b
    rwa [if_neg (by simp)] at this
  have hq : ∀ i (a : i < u.length) (b : i < Q.length), Q[i] = S - (u.take i).sum - u[i] := fun i a b => by
    have := begsZ_at hQ a b
    rwa [if_pos rfl] at this
  have bd := sumC_takebd (c := 1073741824) (by decide) u (fun z hz => by have := hb z hz; omega) (by omega)
  have bs := bd u.length
  rw [List.take_length, hS] at bs
  refine ⟨fun h => ?_, fun i h a b c => ?_, fun h c => ?_, fun i h a => ?_, fun i a b c => ?_⟩
  · rw [hp 0 (by omega) h]; simp
  · rw [hp (i + 1) c a, hp i (by omega) (by omega), hq (i + 1) c b, hq i (by omega) (by omega), sumC_take u (by omega)]
    omega
  · rw [hq 0 c h]; simp
  · rw [hq i (by omega) a]
    have := sumC_take u (show i < u.length by omega)
    rw [show i + 1 = u.length by omega, List.take_length, hS] at this
    omega
  · rw [hp i c a, hq i c b]
    have := bd i
    have := hb _ (List.getElem_mem c)
    omega
theorem crlines_any (l : List Int) (A : Option Addr) (c : Nat) (W : World) (hR : Row W W.heap.size A (i64s l)) (hl : l.length ≤ 9223372036854775807) :
    Calls Try.prog 4 #[.slice A l.length c] W fun e w' => e = .returned (.bool true) ∧ Below W.heap.size W w' := by
  have AW := Lib.hid (fun w => crawake_any w)
  have T := Lib.hid (ctame_any l 1073741824 (by decide) (by decide) A c W hR hl)
  clear hR
  have TB := tameC_bd 1073741824 (by decide) l
  have TL := tameC_len 1073741824 l
  obtain ⟨t, ht⟩ : ∃ t, tameC 1073741824 l = t := ⟨_, rfl⟩
  have HT := Lib.hid ht
  rw [ht] at TB TL
  have TL6 : t.length ≤ 60 := by omega
  have AL : ∀ z ∈ t.map absI, 0 ≤ z ∧ z ≤ 1073741824 := fun z hz => by
    obtain ⟨y, hy, rfl⟩ := List.mem_map.1 hz
    have := TB y hy
    unfold absI; omega
  have SB := Lib.hid (fun k => sumC_takebd (c := 1073741824) (by decide) (t.map absI) (fun z hz => by have := AL z hz; omega) (by simpa using TL6) k)
  have HAL := Lib.hid AL
  have HTB := Lib.hid TB
  clear AL ht TB TL hl
  obtain ⟨n, hn⟩ : ∃ n, t.length = n := ⟨_, rfl⟩
  have HN := Lib.hid hn
  rw [hn] at TL6
  clear hn
  go_enter Try.func4, Try.ntmps4
  go_wp2_with fail
  refine T.out.mono ?_
  rintro e w1 ⟨A1, c1, rfl, o1, hb1⟩
  rw [HT.out, HN.out] at o1 ⊢
  have O1 := Lib.hid o1
  have B1 := Lib.hid hb1
  clear o1 hb1 T HT
  go_wp2_with fail
  go_loopw [3, 4] (fun v3 v4 wr => ∃ k : Nat, v3 = .int .i64 ((t.map absI).take k).sum ∧ v4 = .int .i64 k ∧ k ≤ n ∧ Hid (wr.ownsRow W.heap.size 2 1 (.slice A1 n c1) n (i64s (hfL absI t k))) ∧ Hid (Below W.heap.size W wr)) (fun _ v4 _ => n - (intOf v4).toNat)
  case atStart => exact ⟨0, by simp, rfl, Nat.zero_le _, Lib.hid (by rw [hfL_zero]; exact O1.out), B1⟩
  case round =>
    clear O1 B1
    obtain ⟨k, rfl, rfl, hk, O, B⟩ := hrel
    generalize wr = w2 at *
    have s0 := SB.out k
    by_cases hlt : k < n
    · have hltz : (k : Int) < n := by omega
      have hkt : k < t.length := by rw [HN.out]; exact hlt
      obtain ⟨g, rfl⟩ := own_head O.out (by omega)
      have hh : k < (hfL absI t k).length := by rw [hfL_len absI t k (by omega)]; exact hkt
      have ck := own_cellI O.out hh
      rw [hfL_get absI t k hkt hh] at ck
      have fk := O.out.frozenAt k
      have hgl := (O.out.lt g rfl).1
      have HS := hfL_set absI t k hkt
      have TBk := HTB.out _ (List.getElem_mem hkt)
      have hh2 : k < (hfL absI t (k + 1)).length := by rw [hfL_len absI t (k + 1) (by omega)]; exact hkt
      have EK : (hfL absI t (k + 1))[k] = absI t[k] := by
        have : (hfL absI t (k + 1))[k]? = some (absI t[k]) := by
          rw [← HS, List.getElem?_set_self hh]
        rw [List.getElem?_eq_getElem hh2] at this
        exact Option.some.inj this
      have ST : Hid (((t.map absI).take (k + 1)).sum = ((t.map absI).take k).sum + absI t[k]) := Lib.hid (by
        rw [sumC_take _ (show k < (t.map absI).length by simpa using hkt), List.getElem_map])
      have s1 := SB.out (k + 1)
      rw [ST.out] at s1
      obtain ⟨z, hz⟩ : ∃ z, t[k] = z := ⟨_, rfl⟩
      rw [hz] at ck HS TBk ST s1 EK
      have O2 := own_putI O.out k (absI z)
      rw [HS] at O2
      have ck2 := own_cellI O2 hh2
      rw [EK] at ck2
      have O2 := Lib.hid O2
      have B2 := Lib.hid (B.out.setCell (p := ⟨g, k, none⟩) hgl (.int .i64 (absI z)))
      have hneg : -9223372036854775808 ≤ -z ∧ -z ≤ 9223372036854775807 := by omega
      have hmx : max z (-z) = absI z := rfl
      obtain ⟨az, haz⟩ : ∃ a, absI z = a := ⟨_, rfl⟩
      rw [haz] at O2 B2 hmx ST s1 ck2
      obtain ⟨sm, hsm⟩ : ∃ s, ((t.map absI).take k).sum = s := ⟨_, rfl⟩
      rw [hsm] at ST s1 s0 ⊢
      have HMX := Lib.hid hmx
      have CK2 := Lib.hid ck2
      clear O B HS hz EK haz hsm ck2
      go_upto_region 6 with fail
      go_cut [] from 16 to 34 (fun wx => wx = (w2.setCell ⟨g, k, none⟩ (.int .i64 az)).drew)
      case first =>
        clear CK2
        go_region
        all_goals go_wp2
        all_goals go_meet
        all_goals rfl
      case rest =>
      subst hcut
      have O3 := Lib.hid (own_below O2.out (Below.drewN' (Below.refl _ _) 1) (Nat.le_refl _))
      have B3 := Lib.hid (Below.drewN' B2.out 1)
      have ck3 : (w2.setCell ⟨g, k, none⟩ (.int .i64 az)).drew.cell? ⟨g, k, none⟩ = some (.int .i64 az) := CK2.out
      clear ck fk O2 B2 CK2
      go_wp2_with fail
      go_roundw
      case rel => exact ⟨k + 1, by rw [ST.out], by go_num, by omega, O3, B3⟩
      case measure => simp [intOf] <;> omega
    · obtain rfl : k = n := by omega
      have hltz : ¬ (k : Int) < k := by omega
      have hml : (t.map absI).length = k := by rw [List.length_map, HN.out]
      have RU0 := Lib.hid (show Row w2 w2.heap.size A1 (i64s (t.map absI)) by
        have h := row_of_own O.out
        rw [show hfL absI t k = t.map absI by rw [← HN.out, hfL_all]] at h
        exact h)
      have e1 : ((t.map absI).take k).sum = (t.map absI).sum := by rw [List.take_of_length_le (by omega)]
      rw [e1] at s0 ⊢
      obtain ⟨u, hu⟩ : ∃ u, t.map absI = u := ⟨_, rfl⟩
      have AL := HAL.out
      rw [hu] at AL hml s0 RU0 ⊢
      clear hu O e1 SB HAL HTB HN hlt
      obtain ⟨S, hS⟩ : ∃ S, u.sum = S := ⟨_, rfl⟩
      have F0 := Lib.hid (fun P Q hP hQ => linF_of (P := P) (Q := Q) hml hS hP hQ AL TL6)
      have BK : BegOk u S := ⟨fun z hz => by have := AL z hz; omega, by omega, by omega⟩
      have C1 := Lib.hid (fun (w : World) (h : Row w w.heap.size A1 (i64s u)) => (clines_any u A1 c1 S false w h BK).mono fun e w' hp => bg_row hp rfl hml)
      have C2 := Lib.hid (fun (w : World) (h : Row w w.heap.size A1 (i64s u)) => (clines_any u A1 c1 S true w h BK).mono fun e w' hp => bg_row hp rfl hml)
      have PL : (begsZ u S false).length = k := by rw [begsZ_len]; exact hml
      have QL : (begsZ u S true).length = k := by rw [begsZ_len]; exact hml
      rw [hml] at C1 C2
      rw [hS] at s0 ⊢
      obtain ⟨P, hP⟩ : ∃ P, begsZ u S false = P := ⟨_, rfl⟩
      obtain ⟨Q, hQ⟩ : ∃ Q, begsZ u S true = Q := ⟨_, rfl⟩
      have F := Lib.hid (F0.out P Q hP hQ)
      rw [hP] at C1 PL
      rw [hQ] at C2 QL
      have HPL := Lib.hid PL
      have HQL := Lib.hid QL
      have HUL := Lib.hid hml
      clear hP hQ F0 BK AL hS hml PL QL
      have BW := B
      clear B
      go_wp2_with fail
      refine (C1.out _ RU0.out).mono ?_
      rintro e w3 ⟨A3, c3, rfl, r3, hb⟩
      have RP := Lib.hid r3
      have RU1 := Lib.hid ((RU0.out.below hb).more hb.size)
      have B3 := Lib.hid (BW.out.trans (hb.mono BW.out.size))
      clear hb r3 RU0 BW C1
      go_wp2_with fail
      refine (C2.out _ RU1.out).mono ?_
      rintro e w4 ⟨A4, c4, rfl, r4, hb⟩
      have RQ := Lib.hid r4
      have RU := Lib.hid ((RU1.out.below hb).more hb.size)
      have RP2 := Lib.hid ((RP.out.below hb).more hb.size)
      have B4 := Lib.hid (B3.out.trans (hb.mono B3.out.size))
      clear hb r4 RU1 RP B3 C2
      go_wp2_with fail
      go_loopw [7] (fun v7 wr => ∃ i : Nat, v7 = .int .i64 i ∧ i ≤ k ∧ Hid (Below w4.heap.size w4 wr)) (fun v7 _ => k - (intOf v7).toNat)
      case atStart => exact ⟨0, rfl, Nat.zero_le _, Lib.hid (Below.refl _ _)⟩
      case round =>
        generalize wr = w5 at *
        obtain ⟨i, rfl, hik, B5⟩ := hrel
        by_cases hlt : i < k
        · have hltz : (i : Int) < k := by omega
          have hiu : i < u.length := by rw [HUL.out]; exact hlt
          have hip : i < P.length := by rw [HPL.out]; exact hlt
          have hiq : i < Q.length := by rw [HQL.out]; exact hlt
          have bd := F.out.bd i hip hiq hiu
          obtain ⟨a1, rfl, -, du⟩ := (RU.out.below B5.out).int hiu
          obtain ⟨a3, rfl, -, dp⟩ := (RP2.out.below B5.out).int hip
          obtain ⟨a4, rfl, -, dq⟩ := (RQ.out.below B5.out).int hiq
          by_cases h0 : i = 0
          · subst h0
            have E1 := F.out.first hip
            have E2 := F.out.turn hiq hiu
            have n1 : -9223372036854775808 ≤ Q[0] + u[0] ∧ Q[0] + u[0] ≤ 9223372036854775807 := by omega
            have z2 : (Q[0] + u[0] != S) = false := by rw [E2]; simp
            rw [E1] at dp
            by_cases hl : 1 = k
            · have E3 := F.out.last 0 (by omega) hiq
              subst hl
              rw [add_nil] at du dp dq
              obtain ⟨q0, hq0⟩ : ∃ z, Q[0] = z := ⟨_, rfl⟩
              obtain ⟨u0, hu0⟩ : ∃ z, u[0] = z := ⟨_, rfl⟩
              rw [hq0] at dq n1 z2
              rw [hu0] at du n1 z2
              rw [hq0] at E3
              have qz : (q0 != 0) = false := by rw [E3]; rfl
              clear E2 bd E3
              have c1 : ∀ q, (w5.drewN q).cell? a1 = some (.int .i64 u0) := fun q => du
              have c3 : ∀ q, (w5.drewN q).cell? a3 = some (.int .i64 0) := fun q => dp
              have c4 : ∀ q, (w5.drewN q).cell? a4 = some (.int .i64 q0) := fun q => dq
              clear du dp dq
              go_upto_region 14 with fail
              simp only [List.append_eq, List.cons_append, List.nil_append]
              go_quiet (fail)
              have B6 := Lib.hid (Below.drewN' B5.out nq)
              clear B5 c1 c3 c4
              go_wp2_with fail
              go_roundw
              case rel => exact ⟨1, by go_num, by omega, B6⟩
              case measure => simp [intOf] <;> omega
            · have z3 : ((1 : Int) == (k : Int)) = false := by rw [beq_eq_false_iff_ne]; omega
              rw [add_nil] at du dp dq
              obtain ⟨q0, hq0⟩ : ∃ z, Q[0] = z := ⟨_, rfl⟩
              obtain ⟨u0, hu0⟩ : ∃ z, u[0] = z := ⟨_, rfl⟩
              rw [hq0] at dq n1 z2
              rw [hu0] at du n1 z2
              clear E2 bd
              have c1 : ∀ q, (w5.drewN q).cell? a1 = some (.int .i64 u0) := fun q => du
              have c3 : ∀ q, (w5.drewN q).cell? a3 = some (.int .i64 0) := fun q => dp
              have c4 : ∀ q, (w5.drewN q).cell? a4 = some (.int .i64 q0) := fun q => dq
              clear du dp dq
              go_upto_region 14 with fail
              simp only [List.append_eq, List.cons_append, List.nil_append]
              go_quiet (fail)
              have B6 := Lib.hid (Below.drewN' B5.out nq)
              clear B5 c1 c3 c4
              go_wp2_with fail
              go_roundw
              case rel => exact ⟨1, by go_num, by omega, B6⟩
              case measure => simp [intOf] <;> omega
          · obtain ⟨j, hj⟩ : ∃ j, i = j + 1 := ⟨i - 1, by omega⟩
            have hju : j < u.length := by omega
            have hjp : j < P.length := by omega
            have hjq : j < Q.length := by omega
            have z0 : ((i : Int) == 0) = false := by rw [beq_eq_false_iff_ne]; omega
            have z1 : decide ((0 : Int) < (i : Int)) = true := decide_eq_true (by omega)
            have hi0 : 0 < i := by omega
            have hjz : (i : Int) - 1 = (j : Int) := by omega
            have hjk : (j : Int) < k := by omega
            have nx := F.out.next j (by omega) (by omega) (by omega) (by omega)
            have ls := F.out.last i
            have bj := F.out.bd j hjp hjq hju
            have eP : P[j + 1] = P[i] := by subst hj; rfl
            have eQ : Q[j + 1] = Q[i] := by subst hj; rfl
            have eU : u[j + 1] = u[i] := by subst hj; rfl
            rw [eP, eQ, eU] at nx
            have duj := ((RU.out.below B5.out).int hju)
            have dpj := ((RP2.out.below B5.out).int hjp)
            have dqj := ((RQ.out.below B5.out).int hjq)
            obtain ⟨b1, he1, -, duj⟩ := duj
            obtain ⟨b3, he3, -, dpj⟩ := dpj
            obtain ⟨b4, he4, -, dqj⟩ := dqj
            injection he1 with he1
            injection he3 with he3
            injection he4 with he4
            subst he1 he3 he4
            obtain ⟨pi, hpi⟩ : ∃ z, P[i] = z := ⟨_, rfl⟩
            obtain ⟨qi, hqi⟩ : ∃ z, Q[i] = z := ⟨_, rfl⟩
            obtain ⟨ui, hui⟩ : ∃ z, u[i] = z := ⟨_, rfl⟩
            obtain ⟨pj, hpj⟩ : ∃ z, P[j] = z := ⟨_, rfl⟩
            obtain ⟨qj, hqj⟩ : ∃ z, Q[j] = z := ⟨_, rfl⟩
            obtain ⟨uj, huj⟩ : ∃ z, u[j] = z := ⟨_, rfl⟩
            have ls2 : i + 1 = k → qi = 0 := fun h => by rw [← hqi]; exact ls h hiq
            rw [hpi, hpj, huj, hqi, hui, hqj] at nx
            rw [hpi, hqi, hui] at bd
            rw [hpj, hqj, huj] at bj
            rw [hpi] at dp
            rw [hqi] at dq
            rw [hui] at du
            rw [hpj] at dpj
            rw [hqj] at dqj
            rw [huj] at duj
            have y1 : (pi != pj + uj) = false := by rw [← nx.1]; simp
            have y2 : (qi + ui != qj) = false := by rw [nx.2]; simp
            have n1 : -9223372036854775808 ≤ qi + ui ∧ qi + ui ≤ 9223372036854775807 := by omega
            have n2 : -9223372036854775808 ≤ pj + uj ∧ pj + uj ≤ 9223372036854775807 := by omega
            have c1 : ∀ q, (w5.drewN q).cell? (a1.add i) = some (.int .i64 ui) := fun q => du
            have c3 : ∀ q, (w5.drewN q).cell? (a3.add i) = some (.int .i64 pi) := fun q => dp
            have c4 : ∀ q, (w5.drewN q).cell? (a4.add i) = some (.int .i64 qi) := fun q => dq
            have d1 : ∀ q, (w5.drewN q).cell? (a1.add j) = some (.int .i64 uj) := fun q => duj
            have d3 : ∀ q, (w5.drewN q).cell? (a3.add j) = some (.int .i64 pj) := fun q => dpj
            have d4 : ∀ q, (w5.drewN q).cell? (a4.add j) = some (.int .i64 qj) := fun q => dqj
            have HJ := Lib.hid hj
            clear ls nx bj bd eP eQ eU du dp dq duj dpj dqj hpi hqi hui hpj hqj huj hj
            by_cases hl : i + 1 = k
            · have qz : (qi != 0) = false := by rw [ls2 hl]; rfl
              subst hl
              clear ls2 h0
              go_upto_region 14 with fail
              simp only [List.append_eq, List.cons_append, List.nil_append]
              go_quiet (fail)
              have B6 := Lib.hid (Below.drewN' B5.out nq)
              clear B5 c1 c3 c4 d1 d3 d4
              go_wp2_with fail
              go_roundw
              case rel => exact ⟨i + 1, by go_num, by omega, B6⟩
              case measure => simp [intOf] <;> omega
            · have z3 : ((i : Int) + 1 == (k : Int)) = false := by rw [beq_eq_false_iff_ne]; omega
              clear ls2 hl h0
              go_upto_region 14 with fail
              simp only [List.append_eq, List.cons_append, List.nil_append]
              go_quiet (fail)
              have B6 := Lib.hid (Below.drewN' B5.out nq)
              clear B5 c1 c3 c4 d1 d3 d4
              go_wp2_with fail
              go_roundw
              case rel => exact ⟨i + 1, by go_num, by omega, B6⟩
              case measure => simp [intOf] <;> omega
        · obtain rfl : i = k := by omega
          have hltz : ¬ (i : Int) < i := by omega
          have B6 := Lib.hid (B4.out.trans (B5.out.mono B4.out.size))
          clear B4 B5
          go_wp2_with fail
          refine (AW.out _).mono ?_
          rintro e w9 ⟨rfl, hb9⟩
          have B9 := Lib.hid (B6.out.trans (hb9.mono B6.out.size))
          clear hb9
          go_wp2_with fail
          go_ret
          exact ⟨rfl, B9.out⟩
end Go.Proofs.Ythneapnijfmpmaa
