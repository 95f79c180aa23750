import Derived.Test.YtmkmealgoafgdaaCollMore
import Derived.Test.YtmkmealgoafgdaaCollTells
/- CollLines answers true. -/
namespace Go.Proofs.Ytmkmealgoafgdaa
open Go Go.RowKit
set_option linter.unusedVariables false
set_option linter.unusedSimpArgs false
set_option maxRecDepth 20000
set_option maxHeartbeats 8000000

theorem Chain.inv {inner : Int} {l : List Int} {a p b : Nat} {xs : List (Nat × Nat)} (h : Chain inner l a ((p, b) :: xs)) : p = a ∧ a < b ∧ b ≤ l.length ∧ (((l.drop a).take (b - a)).sum > inner → b - a ≤ 1) ∧ (∀ h : b < l.length, inner < ((l.drop a).take (b - a)).sum + l[b]) ∧ Chain inner l b xs := by
  cases h with
  | cons hab hb h1 h2 r => exact ⟨rfl, hab, hb, h1, h2, r⟩
theorem Chain.inv0 {inner : Int} {l : List Int} {a : Nat} (h : Chain inner l a []) : a = l.length := by
  cases h; rfl
theorem linesZ_one (inner : Int) (l : List Int) (h : 0 < l.length) : linesZ inner false l 0 = [(0, l.length)] := by
  cases l with
  | nil => simp at h
  | cons x r => show colL inner false r 1 x 0 = _; rw [colL_all]; simp; omega
theorem collLines_any (l : List Int) (A : Option Addr) (c : Nat) (inner : Int) (W : World) (hR : Row W W.heap.size A (i64s l)) (hl : l.length ≤ 9223372036854775807) :
    Calls Try.prog 6 #[.slice A l.length c, .int .i64 inner] W fun e w' => e = .returned (.bool true) ∧ Below W.heap.size W w' := by
  have HA := Lib.hid (fun w => cawake_any w)
  have T := Lib.hid (ctame_any l 1000 (by decide) (by decide) A c W hR hl)
  clear hR
  have TB := tameC_bd 1000 (by decide) l
  have TL := tameC_len 1000 l
  obtain ⟨t, ht⟩ : ∃ t, tameC 1000 l = t := ⟨_, rfl⟩
  have HT := Lib.hid ht
  rw [ht] at TB TL
  have TL6 : t.length ≤ 60 := by omega
  have a1 : bits .and .i64 inner 4095 = inner % 4096 := and_mask_i64 inner 12 (by decide)
  have m1 : 0 ≤ inner % 4096 ∧ inner % 4096 < 4096 := by omega
  obtain ⟨u, hu⟩ : ∃ u, inner % 4096 = u := ⟨_, rfl⟩
  rw [hu] at a1 m1
  have AL : ∀ z ∈ t.map absI, 0 ≤ z ∧ z < 1000 := fun z hz => by
    obtain ⟨y, hy, rfl⟩ := List.mem_map.1 hz
    have := TB y hy
    unfold absI; omega
  have AI : ∀ z ∈ t.map absI, I64 z := fun z hz => by have := AL z hz; unfold I64; omega
  have HTB := Lib.hid TB
  have HAL := Lib.hid AL
  have L1 := Lib.hid (fun (wrap : Bool) (A : Option Addr) (c : Nat) (hc : (t.map absI).length ≤ c) w (hR : Row w w.heap.size A (i64s (t.map absI))) => lines_any (t.map absI) (by simp; omega) AI u (by unfold I64; omega) wrap A c hc w hR)
  have CH := Lib.hid (linesZ_chain u (t.map absI))
  have ON := Lib.hid (linesZ_one u (t.map absI))
  clear AL AI ht TB TL hl
  go_enter Try.func6, Try.ntmps6
  go_wp2_with fail
  refine T.out.mono ?_
  rintro e w1 ⟨A1, c1, rfl, o1, hb1⟩
  rw [HT.out] at o1 ⊢
  have hcap := own_cap o1
  have O1 := Lib.hid o1
  have B1 := Lib.hid hb1
  clear o1 hb1 T HT
  go_upto_region 2 with fail
  try rw [a1]
  clear a1 hu
  go_wp2_with fail
  go_loopw [5] (fun v5 wr => ∃ k : Nat, v5 = .int .i64 k ∧ k ≤ t.length ∧ Hid (wr.ownsRow W.heap.size 2 1 (.slice A1 t.length c1) t.length (i64s (hfL absI t k))) ∧ Hid (Below W.heap.size W wr)) (fun v5 _ => t.length - (intOf v5).toNat)
  case atStart => exact ⟨0, rfl, Nat.zero_le _, Lib.hid (by rw [hfL_zero]; exact O1.out), B1⟩
  case round =>
    clear O1 B1
    obtain ⟨k, rfl, hk, O, B⟩ := hrel
    by_cases hlt : k < t.length
    · have hltz : (k : Int) < t.length := by omega
      obtain ⟨g, rfl⟩ := own_head O.out (by omega)
      have hh : k < (hfL absI t k).length := by rw [hfL_len absI t k hk]; exact hlt
      have ck := own_cellI O.out hh
      rw [hfL_get absI t k hlt hh] at ck
      have fk := O.out.frozenAt k
      have hgl := (O.out.lt g rfl).1
      have HS := hfL_set absI t k hlt
      have HE := Lib.hid (hfL_same absI t k hlt)
      have TBk := HTB.out _ (List.getElem_mem hlt)
      obtain ⟨z, hz⟩ : ∃ z, t[k] = z := ⟨_, rfl⟩
      rw [hz] at ck HS TBk HE
      clear hz
      by_cases hn : z < 0
      · have O2 := Lib.hid (own_putI O.out k (absI z))
        rw [HS, show absI z = -z by unfold absI; omega] at O2
        have B2 := Lib.hid (B.out.setCell (p := ⟨g, k, none⟩) hgl (.int .i64 (-z)))
        have hneg : -9223372036854775808 ≤ -z ∧ -z ≤ 9223372036854775807 := by omega
        clear O B HS HE
        go_wp2_with fail
        go_roundw
        case rel => exact ⟨k + 1, by go_num, by omega, O2, B2⟩
        case measure => simp [intOf] <;> omega
      · have E := HE.out (by unfold absI; omega)
        rw [← E] at O
        clear HS HE E
        go_wp2_with fail
        go_roundw
        case rel => exact ⟨k + 1, by go_num, by omega, O, B⟩
        case measure => simp [intOf] <;> omega
    · obtain rfl : k = t.length := by omega
      have hml : (t.map absI).length = t.length := by simp
      rw [hfL_all] at O
      have R0 := Lib.hid ((row_of_own O.out))
      have hsr := B.out.size
      clear O
      obtain ⟨n, hn⟩ : ∃ n, t.length = n := ⟨_, rfl⟩
      have HN := Lib.hid hn
      rw [hn] at hcap TL6 hml ⊢
      clear hn
      generalize t.map absI = s at *
      have M1 := Lib.hid (L1.out true A1 c1 (by omega) wr R0.out)
      rw [hml] at M1
      go_wp2_with fail
      refine M1.out.mono ?_
      rintro e w2 ⟨A2, c2, rfl, o2, hb2⟩
      have B2 := Lib.hid (B.out.trans (hb2.mono hsr))
      have R2 := Lib.hid ((R0.out.below hb2).more hb2.size)
      have X2 := Lib.hid (row_of_own o2)
      have hs2 := B2.out.size
      have M2 := Lib.hid (L1.out false A1 c1 (by omega) w2 R2.out)
      rw [hml] at M2
      clear o2 hb2 M1 L1 B R0
      go_wp2_with fail
      refine M2.out.mono ?_
      rintro e w3 ⟨A3, c3, rfl, o3, hb3⟩
      have B3 := Lib.hid (B2.out.trans (hb3.mono hs2))
      have R3 := Lib.hid ((R2.out.below hb3).more hb3.size)
      have X3 := Lib.hid ((X2.out.below hb3).more hb3.size)
      have Y3 := Lib.hid (row_of_own o3)
      have hs3 := B3.out.size
      clear o3 hb3 M2 R2 X2 B2
      obtain ⟨x, hx⟩ : ∃ x, linesZ u true s 0 = x := ⟨_, rfl⟩
      obtain ⟨y, hy⟩ : ∃ y, linesZ u false s 0 = y := ⟨_, rfl⟩
      rw [hx] at CH X3 ⊢
      have hxl : x.length ≤ n := by rw [← hx, ← hml]; exact linesZ_len _ _ _ _
      have hyl : n = 0 → y.length = 0 := fun h => by have := linesZ_len u false s 0; rw [hy] at this; omega
      rw [hy] at ON Y3 ⊢
      clear hx hy
      go_wp2_with fail
      go_loopw [8, 9] (fun v8 v9 wr => ∃ i at_ : Nat, v8 = .int .i64 at_ ∧ v9 = .int .i64 i ∧ i ≤ x.length ∧ Hid (Chain u s at_ (x.drop i)) ∧ wr = w3) (fun _ v9 _ => x.length - (intOf v9).toNat)
      case atStart => exact ⟨0, 0, rfl, rfl, Nat.zero_le _, CH, rfl⟩
      case round =>
        clear CH
        obtain ⟨i, at_, rfl, rfl, hix, CH, rfl⟩ := hrel
        by_cases hlt : i < x.length
        · have hltz : (i : Int) < x.length := by omega
          obtain ⟨ad, ea, hba, ca0, ca1⟩ := Row.pair X3.out hlt
          subst ea
          have C0 := CH.out
          rw [List.drop_eq_getElem_cons hlt] at C0
          have CH1 := CH
          obtain ⟨pr, hpr⟩ : ∃ p, x[i] = p := ⟨_, rfl⟩
          rw [hpr] at ca0 ca1 C0
          obtain ⟨a0, b⟩ := pr
          obtain ⟨ha0, hab, hb, h1, h2, CR⟩ := C0.inv
          subst ha0
          simp only at ca0 ca1
          have CR := Lib.hid CR
          have H1 := Lib.hid h1
          have H2 := Lib.hid h2
          have hbz : ¬ (b : Int) ≤ (a0 : Int) := by omega
          have hbn : b ≤ n := by omega
          have hbz2 : ¬ (b : Int) > (n : Int) := by omega
          clear C0 hpr CH CH1 h1 h2
          go_wp2_with fail
          go_loopw [10, 11] (fun v10 v11 wq => ∃ (k : Nat) (m : Int), v10 = .int .i64 m ∧ v11 = .int .i64 k ∧ a0 ≤ k ∧ k ≤ b ∧ 0 ≤ m ∧ m ≤ (k : Int) * 1000 ∧ Hid (((s.drop a0).take (k - a0)).sum = m) ∧ wq = wr) (fun _ v11 _ => b - (intOf v11).toNat)
          case atStart => exact ⟨a0, 0, rfl, rfl, Nat.le_refl _, by omega, by omega, by omega, Lib.hid (by simp), rfl⟩
          case round =>
            obtain ⟨k, m, rfl, rfl, hak, hkb, hm0, hm1, SM, rfl⟩ := hrel
            by_cases hlk : k < b
            · have hlkz : (k : Int) < (b : Int) := by omega
              have hks : k < s.length := by omega
              obtain ⟨ad1, e1, hb1, ck⟩ := R3.out.int hks
              subst e1
              have HALk := HAL.out _ (List.getElem_mem hks)
              have SN := sum_snoc hks hak
              rw [SM.out] at SN
              obtain ⟨z, hz⟩ : ∃ z, s[k] = z := ⟨_, rfl⟩
              rw [hz] at ck HALk SN
              have SN := Lib.hid SN
              clear hz SM
              have hkn : (k : Int) < (n : Int) := by omega
              have hmz : -9223372036854775808 ≤ m + z ∧ m + z ≤ 9223372036854775807 := by omega
              go_wp2_with fail
              go_roundw
              case rel => exact ⟨k + 1, m + z, rfl, by go_num, by omega, by omega, by omega, by push_cast; omega, SN, by first | rfl | trivial⟩
              case measure => simp [intOf] <;> omega
            · obtain rfl : k = b := by omega
              have hlkz : ¬ (k : Int) < (k : Int) := by omega
              rw [SM.out] at H1 H2
              clear SM
              by_cases hbl : k < s.length
              · have hblz : (k : Int) < (n : Int) := by omega
                obtain ⟨ad1, e1, hb1, ck⟩ := R3.out.int hbl
                subst e1
                have HALk := HAL.out _ (List.getElem_mem hbl)
                have h2 := H2.out hbl
                obtain ⟨z, hz⟩ : ∃ z, s[k] = z := ⟨_, rfl⟩
                rw [hz] at ck HALk h2
                clear hz H2
                have hmz : -9223372036854775808 ≤ m + z ∧ m + z ≤ 9223372036854775807 := by omega
                have h2z : ¬ m + z ≤ u := by omega
                by_cases hmu : m > u
                · have h1 := H1.out hmu
                  have h1z : ¬ ((k : Int) - (a0 : Int) > 1) := by omega
                  go_wp2_with fail
                  go_roundw
                  case rel => exact ⟨i + 1, k, rfl, by go_num, by omega, CR, by first | rfl | trivial⟩
                  case measure => simp [intOf] <;> omega
                · go_wp2_with fail
                  go_roundw
                  case rel => exact ⟨i + 1, k, rfl, by go_num, by omega, CR, by first | rfl | trivial⟩
                  case measure => simp [intOf] <;> omega
              · have hblz : ¬ (k : Int) < (n : Int) := by omega
                by_cases hmu : m > u
                · have h1 := H1.out hmu
                  have h1z : ¬ ((k : Int) - (a0 : Int) > 1) := by omega
                  go_wp2_with fail
                  go_roundw
                  case rel => exact ⟨i + 1, k, rfl, by go_num, by omega, CR, by first | rfl | trivial⟩
                  case measure => simp [intOf] <;> omega
                · go_wp2_with fail
                  go_roundw
                  case rel => exact ⟨i + 1, k, rfl, by go_num, by omega, CR, by first | rfl | trivial⟩
                  case measure => simp [intOf] <;> omega
        · have hltz : ¬ (i : Int) < x.length := by omega
          obtain rfl : i = x.length := by omega
          have ea : at_ = n := by have := CH.out; rw [List.drop_length] at this; rw [this.inv0, hml]
          subst ea
          clear CH
          have hatz : ((at_ : Int) == (at_ : Int)) = true := beq_self_eq_true _
          by_cases h0 : at_ = 0
          · have hy0 := hyl h0
            have h0z : ((at_ : Int) == 0) = true := by rw [beq_iff_eq]; omega
            have hyz : ((y.length : Int) == 0) = true := by rw [beq_iff_eq]; omega
            clear h0 hy0
            go_wp2_with fail
            refine (HA.out _).mono ?_
            rintro e w6 ⟨rfl, hb6⟩
            have B9 := Lib.hid (B3.out.trans (hb6.mono hs3))
            clear hb6 B3
            go_wp2_with fail
            go_ret
            exact ⟨rfl, B9.out⟩
          · have hone := ON.out (by omega)
            rw [hone] at Y3 ⊢
            obtain ⟨ad3, e3, hb3, cy0, cy1⟩ := Row.pair Y3.out (k := 0) (by simp)
            subst e3
            simp only [List.getElem_cons_zero, Nat.zero_mul, add_zero] at cy0 cy1
            rw [hml] at cy1
            have h0z : ((at_ : Int) == 0) = false := by rw [beq_eq_false_iff_ne]; omega
            rw [show ([(0, s.length)] : List (Nat × Nat)).length = 1 from rfl]
            go_wp2_with (rw [pair_eq]; simp only [Result.andThen_ok])
            refine (HA.out _).mono ?_
            rintro e w6 ⟨rfl, hb6⟩
            have B9 := Lib.hid (B3.out.trans (hb6.mono hs3))
            clear hb6 B3
            go_wp2_with fail
            go_ret
            exact ⟨rfl, B9.out⟩
end Go.Proofs.Ytmkmealgoafgdaa
