import Derived.Test.YtpnpmellohacoaaDoorLeastNum
import Derived.Test.YtpnpmellohacoaaDoorUnlikeNum
/- PoolUnlike's walk. -/
namespace Go.Proofs.YtpnpmellohacoaaDoor
open Go Go.RowKit
set_option linter.unusedVariables false
set_option linter.unusedSimpArgs false

def bCells (l : List Bool) : List Value := l.map Value.bool
theorem bCells_length (l : List Bool) : (bCells l).length = l.length := by simp [bCells]
theorem bool_info : (Tryd.prog.info? 4).map (fun i => (i.zero, i.size, i.bytes)) = some (some (.bool false), 1, 1) := by kernel_rfl
theorem Beside.flagAt {B : Nat} {w : World} {S : List Nat} {b n c : Nat} {fl : List Bool} {r : Bool} (h : Beside B w S 4 1 (.slice (some ⟨b, 0, none⟩) n c) n (bCells fl)) {k : Nat} (hk : k < n) (he : fl[k]? = some r) : w.cell? ⟨b, k, none⟩ = some (.bool r) := by
  rw [h.row.cellAt k (by omega)]
  simp [bCells, he]
theorem bCells_set (l : List Bool) (k : Nat) (b : Bool) : bCells (l.set k b) = (bCells l).set k (.bool b) := by simp [bCells, List.map_set]
theorem bCells_append (a b : List Bool) : bCells (a ++ b) = bCells a ++ bCells b := by simp [bCells]
theorem mask1 (n : Int) : bits .and .i64 n 1 = n % 2 := and_mask_i64 n 1 (by decide)
theorem mask65535 (n : Int) : bits .and .i64 n 65535 = n % 65536 := and_mask_i64 n 16 (by decide)
theorem pick_of (n : Int) (M : Nat) (h : 1 ≤ M) : ∃ a : Nat, (bits .and .i64 n 65535).tmod (M : Int) = a ∧ a < M := by
  rw [mask65535, Int.tmod_eq_emod_of_nonneg (by omega)]
  have h1 := Int.emod_nonneg (n % 65536) (show (M : Int) ≠ 0 by omega)
  have h2 := Int.emod_lt_of_pos (n % 65536) (show (0 : Int) < M by omega)
  exact ⟨(n % 65536 % M).toNat, by omega, by omega⟩
theorem set_same {l : List Bool} {k : Nat} {b : Bool} (h : l[k]? = some b) : l.set k b = l := by
  apply List.ext_getElem?; intro i
  rw [List.getElem?_set]
  split
  · subst_vars
    have := (List.getElem?_eq_some_iff.1 h).1
    rw [if_pos this, h]
  · rfl

set_option maxHeartbeats 16000000 in
set_option maxRecDepth 20000 in
theorem unlike_any (n : Int) (A : Option Addr) (c : Nat) (zs : List Int) (w : World) (hE : ErrTab w) (hr : Row w w.heap.size A (i64s zs)) (hb : ∀ k (hk : k < zs.length), -9223372036854775808 ≤ zs[k] ∧ zs[k] ≤ 9223372036854775807) (hc : zs.length ≤ c) (hm : c ≤ maxLen) :
    Calls Tryd.prog 5 #[.int .i64 n, .slice A zs.length c] w fun e w' => e = .returned (.bool true) ∧ Below w.heap.size w w' := by
  have HE := Lib.hid hE
  have hlt := hE.lt
  have HR := Lib.hid hr
  have HB := Lib.hid hb
  have hm' : c ≤ 9223372036854775807 := by unfold maxLen at hm; omega
  clear hE hr hb hm
  have q0 := mask7 n
  obtain ⟨M, hM⟩ : ∃ M : Nat, n % 8 + 1 = M := ⟨(n % 8 + 1).toNat, by omega⟩
  have hM1 : 1 ≤ M := by omega
  have hM8 : M ≤ 8 := by omega
  have q1 : IntKind.i64.wrap (n % 8 + 1) = M := by rw [IntWalk.i64_in _ (by omega)]; exact hM
  have hbn' : Hid (bndP M = M) := Lib.hid (bnd_small (by omega) (by omega))
  have HM := Lib.hid hM
  go_enter Tryd.func5, Tryd.ntmps5
  go_wp2_with fail
  refine (new_any M w).mono ?_
  rintro e w1 ⟨rfl, hp1, hb1⟩
  rw [hbn'.out] at hp1
  have P1 : PB w.heap.size w1 w.heap.size M [] 0 [w.heap.size] := ⟨hp1, by simp, hb1.size⟩
  have HP1 := Lib.hid P1
  have B1 := Lib.hid hb1
  clear hp1 hb1 P1 q0 q1 hM hbn'
  go_wp2_with fail
  go_loopw [6, 7, 8, 9] (fun va vt vn i wr => ∃ (j : Nat) (pl : Pl) (S : List Nat) (hs : List (Int × Int)) (fl : List Bool) (A' : Option Addr) (c' : Nat) (T' : Option Addr) (d' : Nat) (L : Nat), j ≤ 60 ∧ i = .int .i64 j ∧ vn = .int .i64 (countP pl) ∧ va = .slice A' L c' ∧ vt = .slice T' L d' ∧ hs.length = L ∧ L ≤ j ∧
      Unl pl hs fl ∧ PB w.heap.size wr w.heap.size M pl (100 + j) S ∧ Beside w.heap.size wr S 27 2 (.slice A' L c') L (hCells hs) ∧ Beside w.heap.size wr S 4 1 (.slice T' L d') L (bCells fl) ∧ Below w.heap.size w wr) (fun _ _ _ i _ => 60 - (intOf i).toNat)
  case atStart => exact ⟨0, [], [w.heap.size], [], [], none, 0, none, 0, 0, by omega, rfl, rfl, rfl, rfl, rfl, by omega, unl_nil, HP1.out.mono (by omega) (by omega), Beside.nil _ _ _ _ _, Beside.nil _ _ _ _ _, B1.out⟩
  case round =>
    clear HP1 B1
    obtain ⟨j, pl, S, hs, fl, A', c', T', d', L, hj60, rfl, rfl, rfl, rfl, hLn, hLj, hu, hp, ha, ht, hbl⟩ := hrel
    have HP := Lib.hid hp
    have HA := Lib.hid ha
    have HT := Lib.hid ht
    have HBl := Lib.hid hbl
    have HU := Lib.hid hu
    have HLn := Lib.hid hLn
    obtain ⟨hc1, hc2⟩ := owns_cap ha.row
    obtain ⟨hd1, hd2⟩ := owns_cap ht.row
    have hcm := hp.pool.len
    have hcl := countP_le pl
    have hcnt : (countP pl : Int) ≤ M := by omega
    have hcnt2 : countP pl ≤ M := by omega
    have hzw : w.heap.size ≤ wr.heap.size := hp.room
    clear hp ha ht hbl hu hLn hcm hcl
    by_cases hend : zs.length ≤ j ∨ 60 ≤ j
    · have PLn := Lib.hid (poolLen_any _ _ _ _ _ wr HP.out.pool)
      have AW := Lib.hid (fun w5 (b : Below w.heap.size w w5) => awake_any w5 (HE.out.below b hlt))
      clear HR HB HA HT
      rcases hend with h | h
      · have q1 : ¬ j < zs.length := by omega
        have q2 : ¬ (j : Int) < zs.length := by omega
        go_wp2_with fail
        refine PLn.out.mono ?_
        rintro e w4 ⟨rfl, b4⟩
        have HB4 := Lib.hid (HBl.out.trans (b4.mono hzw))
        clear b4 PLn
        go_wp2_with fail
        refine (AW.out _ HB4.out).mono ?_
        rintro e w5 ⟨rfl, b5⟩
        have HB5 := Lib.hid (HB4.out.trans (b5.mono HB4.out.size))
        clear b5 AW
        go_wp2
        go_ret
        exact ⟨rfl, HB5.out⟩
      · have q1 : ¬ j < 60 := by omega
        have q2 : ¬ (j : Int) < 60 := by omega
        by_cases h2 : j < zs.length
        all_goals
          go_wp2_with fail
          refine PLn.out.mono ?_
          rintro e w4 ⟨rfl, b4⟩
          have HB4 := Lib.hid (HBl.out.trans (b4.mono hzw))
          clear b4 PLn
          go_wp2_with fail
          refine (AW.out _ HB4.out).mono ?_
          rintro e w5 ⟨rfl, b5⟩
          have HB5 := Lib.hid (HB4.out.trans (b5.mono HB4.out.size))
          clear b5 AW
          go_wp2
          go_ret
          exact ⟨rfl, HB5.out⟩
    · have hj1 : j < zs.length := by omega
      have hj2 : (j : Int) < 60 := by omega
      have hj3 : (j : Int) < zs.length := by omega
      have hL9 : L ≤ 60 := by omega
      clear hend
      obtain ⟨ad, rfl, had, hcz⟩ := (HR.out.below HBl.out).int hj1
      obtain ⟨hz1, hz2⟩ := HB.out j hj1
      generalize zs[j] = z at *
      have hm1 := mask1 z
      by_cases hodd : z % 2 = 1
      · rw [hodd] at hm1
        by_cases h0 : L = 0
        · subst h0
          by_cases hfull : countP pl = M
          · have q3 : ¬ (countP pl : Int) < M := by omega
            have q4 : ¬ countP pl < M := by omega
            have HFull := Lib.hid hfull
            clear hfull
            go_wp2_with fail
            refine (take_full _ _ _ _ _ wr HP.out.pool (by rw [HFull.out])).mono ?_
            rintro e w2 ⟨rfl, b2⟩
            have HP2 := Lib.hid ((HP.out.below b2).alloc (.cells #[.int .i64 0, .int .i64 0] 27))
            have HA2 := Lib.hid ((HA.out.below b2).alloc (.cells #[.int .i64 0, .int .i64 0] 27))
            have HT2 := Lib.hid ((HT.out.below b2).alloc (.cells #[.int .i64 0, .int .i64 0] 27))
            have HB2 := Lib.hid ((HBl.out.trans (b2.mono hzw)).alloc (o := .cells #[.int .i64 0, .int .i64 0] 27) (HP.out.below b2).room)
            clear b2 HP HA HT HBl
            go_wp2_with fail
            go_roundw
            case rel => exact ⟨j + 1, pl, S, hs, fl, A', c', T', d', 0, by omega, by go_num, rfl, rfl, rfl, HLn.out, by omega, HU.out, HP2.out.mono (by push_cast; omega) (by push_cast; omega), HA2.out, HT2.out, HB2.out⟩
            case measure => simp [intOf]; omega
          · have q3 : (countP pl : Int) < M := by omega
            have q4 : countP pl < M := by omega
            go_wp2_with fail
            refine (ptake _ _ _ _ _ _ wr HP.out q3 (by omega)).mono ?_
            rintro e w2 ⟨rfl, S', P2, O2, N2, b2⟩
            have HF := Lib.hid (fun k hk => HU.out.fresh (k := k) hk)
            have HU2 := Lib.hid (HU.out.take (fun i => (HP.out.pool.turns i).1))
            have HLn2 : Hid ((hs ++ [((leastF pl : Int), turnOf pl (leastF pl) + 1)]).length = 0 + 1) := Lib.hid (by rw [List.length_append, HLn.out]; rfl)
            have HCT := Lib.hid (count_take pl)
            have htu := (HP.out.pool.turns (leastF pl)).1
            have htu2 := (HP.out.pool.turns (leastF pl)).2
            have E2 := Lib.hid (Whole.mk w2 27 #[.int .i64 (leastF pl), .int .i64 (turnOf pl (leastF pl) + 1)])
            have HA2 := Lib.hid ((HA.out.step O2 N2).alloc (.cells #[.int .i64 (leastF pl), .int .i64 (turnOf pl (leastF pl) + 1)] 27))
            have HT2 := Lib.hid ((HT.out.step O2 N2).alloc (.cells #[.int .i64 (leastF pl), .int .i64 (turnOf pl (leastF pl) + 1)] 27))
            have HB2 := Lib.hid ((HBl.out.trans b2).alloc (o := .cells #[.int .i64 (leastF pl), .int .i64 (turnOf pl (leastF pl) + 1)] 27) P2.room)
            have HP2 := Lib.hid (P2.alloc (.cells #[.int .i64 (leastF pl), .int .i64 (turnOf pl (leastF pl) + 1)] 27))
            clear P2 O2 N2 b2 HP HA HT HBl
            generalize hlf : (leastF pl : Int) = lf at *
            generalize htn : turnOf pl (leastF pl) = tn at *
            have HLF := Lib.hid hlf
            have HTN := Lib.hid htn
            clear hlf htn
            have tn9 : tn ≤ 1000 := by omega
            go_wp2_with fail
            have z2 : w2.heap.size < (w2.alloc (.cells #[.int .i64 lf, .int .i64 (tn + 1)] 27)).heap.size := by simp
            generalize w2.alloc (.cells #[.int .i64 lf, .int .i64 (tn + 1)] 27) = W at *
            go_loopw [13] (fun i wx => ∃ q : Nat, q ≤ 0 ∧ i = .int .i64 q ∧ PB w.heap.size wx w.heap.size M (takeP pl) (100 + j + 1) S' ∧ Beside w.heap.size wx S' 27 2 (.slice A' 0 c') (0) (hCells hs) ∧ Beside w.heap.size wx S' 4 1 (.slice T' 0 d') (0) (bCells fl) ∧ Whole wx w2.heap.size 27 [.int .i64 lf, .int .i64 (tn + 1)] ∧ Below w.heap.size w wx) (fun i _ => 0 - (intOf i).toNat)
            case atStart => exact ⟨0, by omega, rfl, HP2.out, HA2.out, HT2.out, E2.out, HB2.out⟩
            case round =>
              clear HP2 HA2 HT2 E2 HB2
              obtain ⟨q, hq, rfl, hp, ha, ht, hw, hb⟩ := hrel
              have JP := Lib.hid hp
              have JA := Lib.hid ha
              have JT := Lib.hid ht
              have JW := Lib.hid hw
              have JB := Lib.hid hb
              clear hp ha ht hw hb
              by_cases hqn : q < 0
              · exact absurd hqn (by omega)
              · have hqn' : ¬ (q : Int) < (0 : Nat) := by omega
                have c2 : wr.cell? ⟨w2.heap.size, 0, none⟩ = some (.int .i64 lf) := JW.out.cell 0
                have c3 : wr.cell? ⟨w2.heap.size, 1, none⟩ = some (.int .i64 (tn + 1)) := JW.out.cell 1
                have R1 := JA.out.row
                go_wp2_with (first
                  | (at_builtin; refine wpList_one rfl (.tmp 76) (.tmp 78) _ rfl 27 2 16 (.agg #[.int .i64 0, .int .i64 0]) Tryd.underlying25 handle_info rfl (by decide) _ _ _ _ rfl R1 rfl ⟨by omega, by unfold maxLen; omega⟩ rfl (by simp [Value.oneCell']) ?_; intro A3 c3 w3 hown3 ho3 hk3; obtain ⟨P3, L3, B3⟩ := Beside.pushed JP.out JA.out hown3 ho3 hk3; have HP3 := Lib.hid P3; have HA3 := Lib.hid L3; have HB3 := Lib.hid (JB.out.trans B3); have HT3 := Lib.hid (JT.out.apart ho3 (fun k hk hm => owns_ne JT.out.row JA.out.row (by decide) hk (by simpa using hm))); have R3 := HT3.out.row; clear P3 L3 B3 hown3 ho3 hk3 R1 JP JA JT JB JW c2)
                  | (at_builtin; refine wpList_one rfl (.tmp 80) (.tmp 81) _ rfl 4 1 1 (.bool false) Tryd.underlying46 bool_info rfl (by decide) _ _ _ _ rfl R3 rfl ⟨by omega, by unfold maxLen; omega⟩ rfl (by simp [Value.oneCell']) ?_; intro T4 d4 w4 hown4 ho4 hk4; obtain ⟨P4, L4, B4⟩ := Beside.pushed HP3.out HT3.out hown4 ho4 hk4; have HP4 := Lib.hid P4; have HT4 := Lib.hid L4; have HB4 := Lib.hid (HB3.out.trans B4); have HA4 := Lib.hid (HA3.out.apart ho4 (fun k hk hm => owns_ne HA3.out.row HT3.out.row (by decide) hk (by simpa using hm))); clear P4 L4 B4 hown4 ho4 hk4 R3 HP3 HA3 HT3 HB3))
                have HA5 : Hid (Beside w.heap.size w4 S' 27 2 (.slice A3 (0 + 1) c3) (0 + 1) (hCells (hs ++ [(lf, tn + 1)]))) := Lib.hid (by rw [hCells_append]; exact HA4.out)
                have HT5 : Hid (Beside w.heap.size w4 S' 4 1 (.slice T4 (0 + 1) d4) (0 + 1) (bCells (fl ++ [true]))) := Lib.hid (by rw [bCells_append]; exact HT4.out)
                clear HA4 HT4
                obtain ⟨gB, cB, e, _, _, hgB0⟩ := owns_some HA5.out.row (by omega)
                injection e with e1 _ e2
                subst e1 e2
                obtain ⟨gT, cT', e, _, _, hgT0⟩ := owns_some HT5.out.row (by omega)
                injection e with e1 _ e2
                subst e1 e2
                clear hgB0 hgT0
                go_wp2_with fail
                go_loopw [15] (fun i wr => ∃ q : Nat, q ≤ 0 + 1 ∧ i = .int .i64 q ∧ PB w.heap.size wr w.heap.size M (takeP pl) (100 + j + 1) S' ∧ Beside w.heap.size wr S' 27 2 (.slice (some ⟨gB, 0, none⟩) (0 + 1) c3) (0 + 1) (hCells (hs ++ [(lf, tn + 1)])) ∧ Beside w.heap.size wr S' 4 1 (.slice (some ⟨gT, 0, none⟩) (0 + 1) d4) (0 + 1) (bCells (fl ++ [true])) ∧ Below w.heap.size w wr) (fun i _ => 0 + 1 - (intOf i).toNat)
                case atStart => exact ⟨0, by omega, rfl, HP4.out, HA5.out, HT5.out, HB4.out⟩
                case round =>
                  clear HP4 HA5 HT5 HB4
                  obtain ⟨q, hq, rfl, hp, ha, ht, hb⟩ := hrel
                  have JP := Lib.hid hp
                  have JA := Lib.hid ha
                  have JT := Lib.hid ht
                  have JB := Lib.hid hb
                  clear hp ha ht hb
                  by_cases hqn : q < 0 + 1
                  · have hqn' : (q : Int) < ((0 + 1 : Nat) : Int) := by omega
                    have hqn2 := hqn'
                    push_cast at hqn2
                    have hqh : q < (hs ++ [(lf, tn + 1)]).length := by rw [HLn2.out]; exact hqn
                    have FL := Lib.hid (HU2.out.flag q hqh)
                    have GE := Lib.hid (List.getElem?_eq_getElem hqh)
                    generalize (hs ++ [(lf, tn + 1)])[q] = h at *
                    obtain ⟨p', t'⟩ := h
                    have hgB : gB < wr.heap.size := owns_lt JA.out.row rfl
                    have hgT : gT < wr.heap.size := owns_lt JT.out.row rfl
                    obtain ⟨c0, c1, _, _⟩ := JA.out.hand hqn GE.out
                    have c2 := JT.out.flagAt hqn FL.out
                    have K0 : ∀ s : Later wr.heap.size wr, s.w.cell? ⟨gB, q * 2, none⟩ = some (.int .i64 p') := fun s => (s.h.cell (p := ⟨gB, q * 2, none⟩) hgB).trans c0
                    have K1 : ∀ s : Later wr.heap.size wr, s.w.cell? ⟨gB, q * 2 + 1, none⟩ = some (.int .i64 t') := fun s => (s.h.cell (p := ⟨gB, q * 2 + 1, none⟩) hgB).trans c1
                    have K2 : ∀ s : Later wr.heap.size wr, s.w.cell? ⟨gT, q, none⟩ = some (.bool (hasP (takeP pl) p' t')) := fun s => (s.h.cell (p := ⟨gT, q, none⟩) hgT).trans c2
                    have PH := Lib.hid (fun w' (hb : Below wr.heap.size wr w') => poolHas_any w.heap.size M (takeP pl) _ S' p' t' w' (JP.out.pool.below hb))
                    clear c0 c1 c2 FL GE
                    generalize hasP (takeP pl) p' t' = r at *
                    cases r
                    all_goals
                      go_wp2_with fail
                      refine region_later (by kernel_rfl) (by kernel_rfl) ?_
                      repeat (go_big_quiet_step (first | (with_reducible exact later_call _ (Nat.le_refl _) (PH.out _ (Later.h _)))))
                      refine wpQuiet_nil ?_
                      rintro w' ⟨s, rfl⟩
                      have b := s.h
                      generalize s.w = wq at *
                      have JP1 := Lib.hid (JP.out.below b)
                      have JA1 := Lib.hid (JA.out.below b)
                      have JT1 := Lib.hid (JT.out.below b)
                      have JB1 := Lib.hid (JB.out.trans (b.mono JP.out.room))
                      clear K0 K1 K2 PH b
                      go_wp2_with fail
                      go_roundw
                      case rel => exact ⟨q + 1, by omega, by go_num, JP1.out, JA1.out, JT1.out, JB1.out⟩
                      case measure => simp [intOf]; omega
                  · have hqn' : ¬ (q : Int) < ((0 + 1 : Nat) : Int) := by omega
                    have hqn2 := hqn'
                    push_cast at hqn2
                    go_wp2_with fail
                    go_roundw
                    case rel => exact ⟨j + 1, takeP pl, S', hs ++ [(lf, tn + 1)], fl ++ [true], some ⟨gB, 0, none⟩, c3, some ⟨gT, 0, none⟩, d4, 0 + 1, by omega, by go_num, by rw [HCT.out]; go_num, rfl, rfl, HLn2.out, by omega, HU2.out, JP.out.mono (by push_cast; omega) (by push_cast; omega), JA.out, JT.out, JB.out⟩
                    case measure => simp [intOf]; omega
        · have h0' : 0 < L := by omega
          have h0i : (0 : Int) < L := by omega
          obtain ⟨κ, hκ, hκl⟩ := pick_of (z / 2) L h0'
          obtain ⟨gA, cA', e, _, _, hgA0⟩ := owns_some HA.out.row (by omega)
          injection e with e1 _ e2
          subst e1 e2
          clear hgA0
          by_cases hfull : countP pl = M
          · have q3 : ¬ (countP pl : Int) < M := by omega
            have q4 : ¬ countP pl < M := by omega
            have HFull := Lib.hid hfull
            clear hfull
            go_wp2_with fail
            refine (take_full _ _ _ _ _ wr HP.out.pool (by rw [HFull.out])).mono ?_
            rintro e w2 ⟨rfl, b2⟩
            have HP2 := Lib.hid ((HP.out.below b2).alloc (.cells #[.int .i64 0, .int .i64 0] 27))
            have HA2 := Lib.hid ((HA.out.below b2).alloc (.cells #[.int .i64 0, .int .i64 0] 27))
            have HT2 := Lib.hid ((HT.out.below b2).alloc (.cells #[.int .i64 0, .int .i64 0] 27))
            have HB2 := Lib.hid ((HBl.out.trans (b2.mono hzw)).alloc (o := .cells #[.int .i64 0, .int .i64 0] 27) (HP.out.below b2).room)
            clear b2 HP HA HT HBl
            go_wp2_with fail
            go_roundw
            case rel => exact ⟨j + 1, pl, S, hs, fl, (some ⟨gA, 0, none⟩), c', T', d', L, by omega, by go_num, rfl, rfl, rfl, HLn.out, by omega, HU.out, HP2.out.mono (by push_cast; omega) (by push_cast; omega), HA2.out, HT2.out, HB2.out⟩
            case measure => simp [intOf]; omega
          · have q3 : (countP pl : Int) < M := by omega
            have q4 : countP pl < M := by omega
            go_wp2_with fail
            refine (ptake _ _ _ _ _ _ wr HP.out q3 (by omega)).mono ?_
            rintro e w2 ⟨rfl, S', P2, O2, N2, b2⟩
            have HF := Lib.hid (fun k hk => HU.out.fresh (k := k) hk)
            have HU2 := Lib.hid (HU.out.take (fun i => (HP.out.pool.turns i).1))
            have HLn2 : Hid ((hs ++ [((leastF pl : Int), turnOf pl (leastF pl) + 1)]).length = L + 1) := Lib.hid (by rw [List.length_append, HLn.out]; rfl)
            have HCT := Lib.hid (count_take pl)
            have htu := (HP.out.pool.turns (leastF pl)).1
            have htu2 := (HP.out.pool.turns (leastF pl)).2
            have E2 := Lib.hid (Whole.mk w2 27 #[.int .i64 (leastF pl), .int .i64 (turnOf pl (leastF pl) + 1)])
            have HA2 := Lib.hid ((HA.out.step O2 N2).alloc (.cells #[.int .i64 (leastF pl), .int .i64 (turnOf pl (leastF pl) + 1)] 27))
            have HT2 := Lib.hid ((HT.out.step O2 N2).alloc (.cells #[.int .i64 (leastF pl), .int .i64 (turnOf pl (leastF pl) + 1)] 27))
            have HB2 := Lib.hid ((HBl.out.trans b2).alloc (o := .cells #[.int .i64 (leastF pl), .int .i64 (turnOf pl (leastF pl) + 1)] 27) P2.room)
            have HP2 := Lib.hid (P2.alloc (.cells #[.int .i64 (leastF pl), .int .i64 (turnOf pl (leastF pl) + 1)] 27))
            clear P2 O2 N2 b2 HP HA HT HBl
            generalize hlf : (leastF pl : Int) = lf at *
            generalize htn : turnOf pl (leastF pl) = tn at *
            have HLF := Lib.hid hlf
            have HTN := Lib.hid htn
            clear hlf htn
            have tn9 : tn ≤ 1000 := by omega
            go_wp2_with fail
            have z2 : w2.heap.size < (w2.alloc (.cells #[.int .i64 lf, .int .i64 (tn + 1)] 27)).heap.size := by simp
            generalize w2.alloc (.cells #[.int .i64 lf, .int .i64 (tn + 1)] 27) = W at *
            go_loopw [13] (fun i wx => ∃ q : Nat, q ≤ L ∧ i = .int .i64 q ∧ PB w.heap.size wx w.heap.size M (takeP pl) (100 + j + 1) S' ∧ Beside w.heap.size wx S' 27 2 (.slice (some ⟨gA, 0, none⟩) L c') (L) (hCells hs) ∧ Beside w.heap.size wx S' 4 1 (.slice T' L d') (L) (bCells fl) ∧ Whole wx w2.heap.size 27 [.int .i64 lf, .int .i64 (tn + 1)] ∧ Below w.heap.size w wx) (fun i _ => L - (intOf i).toNat)
            case atStart => exact ⟨0, by omega, rfl, HP2.out, HA2.out, HT2.out, E2.out, HB2.out⟩
            case round =>
              clear HP2 HA2 HT2 E2 HB2
              obtain ⟨q, hq, rfl, hp, ha, ht, hw, hb⟩ := hrel
              have JP := Lib.hid hp
              have JA := Lib.hid ha
              have JT := Lib.hid ht
              have JW := Lib.hid hw
              have JB := Lib.hid hb
              clear hp ha ht hw hb
              by_cases hqn : q < L
              · have hqn' : (q : Int) < (L : Nat) := by omega
                have hqh : q < hs.length := by rw [HLn.out]; exact hqn
                have hfr := HF.out q hqh
                have GE := Lib.hid (List.getElem?_eq_getElem hqh)
                generalize hs[q] = h at *
                obtain ⟨p, t⟩ := h
                obtain ⟨c0, c1, _, _⟩ := JA.out.hand hqn GE.out
                have c2 : wr.cell? ⟨w2.heap.size, 0, none⟩ = some (.int .i64 lf) := JW.out.cell 0
                have c3 : wr.cell? ⟨w2.heap.size, 1, none⟩ = some (.int .i64 (tn + 1)) := JW.out.cell 1
                clear GE
                have hne : ¬ (p = lf ∧ t = tn + 1) := hfr
                clear hfr
                by_cases hpe : p = lf
                · subst hpe
                  have b1 : (t == tn + 1) = false := by rw [beq_eq_false_iff_ne]; exact fun e => hne ⟨rfl, e⟩
                  have b2 : ¬ t = tn + 1 := fun e => hne ⟨rfl, e⟩
                  clear hne
                  go_wp2_with fail
                  go_quiet (fail)
                  have JP1 := Lib.hid (JP.out.below (Below.drewN' (Below.refl _ _) nq))
                  have JA1 := Lib.hid (JA.out.below (Below.drewN' (Below.refl _ _) nq))
                  have JT1 := Lib.hid (JT.out.below (Below.drewN' (Below.refl _ _) nq))
                  have JB1 := Lib.hid (Below.drewN' JB.out nq)
                  have JW1 := Lib.hid (JW.out.drawn nq)
                  go_wp2_with fail
                  go_roundw
                  case rel => exact ⟨q + 1, by omega, by go_num, JP1.out, JA1.out, JT1.out, JW1.out, JB1.out⟩
                  case measure => simp [intOf]; omega
                · have b1 : (p == lf) = false := by rw [beq_eq_false_iff_ne]; exact hpe
                  clear hne
                  go_wp2_with fail
                  go_quiet (fail)
                  have JP1 := Lib.hid (JP.out.below (Below.drewN' (Below.refl _ _) nq))
                  have JA1 := Lib.hid (JA.out.below (Below.drewN' (Below.refl _ _) nq))
                  have JT1 := Lib.hid (JT.out.below (Below.drewN' (Below.refl _ _) nq))
                  have JB1 := Lib.hid (Below.drewN' JB.out nq)
                  have JW1 := Lib.hid (JW.out.drawn nq)
                  go_wp2_with fail
                  go_roundw
                  case rel => exact ⟨q + 1, by omega, by go_num, JP1.out, JA1.out, JT1.out, JW1.out, JB1.out⟩
                  case measure => simp [intOf]; omega
              · have hqn' : ¬ (q : Int) < (L : Nat) := by omega
                have c2 : wr.cell? ⟨w2.heap.size, 0, none⟩ = some (.int .i64 lf) := JW.out.cell 0
                have c3 : wr.cell? ⟨w2.heap.size, 1, none⟩ = some (.int .i64 (tn + 1)) := JW.out.cell 1
                have R1 := JA.out.row
                go_wp2_with (first
                  | (at_builtin; refine wpList_one rfl (.tmp 76) (.tmp 78) _ rfl 27 2 16 (.agg #[.int .i64 0, .int .i64 0]) Tryd.underlying25 handle_info rfl (by decide) _ _ _ _ rfl R1 rfl ⟨by omega, by unfold maxLen; omega⟩ rfl (by simp [Value.oneCell']) ?_; intro A3 c3 w3 hown3 ho3 hk3; obtain ⟨P3, L3, B3⟩ := Beside.pushed JP.out JA.out hown3 ho3 hk3; have HP3 := Lib.hid P3; have HA3 := Lib.hid L3; have HB3 := Lib.hid (JB.out.trans B3); have HT3 := Lib.hid (JT.out.apart ho3 (fun k hk hm => owns_ne JT.out.row JA.out.row (by decide) hk (by simpa using hm))); have R3 := HT3.out.row; clear P3 L3 B3 hown3 ho3 hk3 R1 JP JA JT JB JW c2)
                  | (at_builtin; refine wpList_one rfl (.tmp 80) (.tmp 81) _ rfl 4 1 1 (.bool false) Tryd.underlying46 bool_info rfl (by decide) _ _ _ _ rfl R3 rfl ⟨by omega, by unfold maxLen; omega⟩ rfl (by simp [Value.oneCell']) ?_; intro T4 d4 w4 hown4 ho4 hk4; obtain ⟨P4, L4, B4⟩ := Beside.pushed HP3.out HT3.out hown4 ho4 hk4; have HP4 := Lib.hid P4; have HT4 := Lib.hid L4; have HB4 := Lib.hid (HB3.out.trans B4); have HA4 := Lib.hid (HA3.out.apart ho4 (fun k hk hm => owns_ne HA3.out.row HT3.out.row (by decide) hk (by simpa using hm))); clear P4 L4 B4 hown4 ho4 hk4 R3 HP3 HA3 HT3 HB3))
                have HA5 : Hid (Beside w.heap.size w4 S' 27 2 (.slice A3 (L + 1) c3) (L + 1) (hCells (hs ++ [(lf, tn + 1)]))) := Lib.hid (by rw [hCells_append]; exact HA4.out)
                have HT5 : Hid (Beside w.heap.size w4 S' 4 1 (.slice T4 (L + 1) d4) (L + 1) (bCells (fl ++ [true]))) := Lib.hid (by rw [bCells_append]; exact HT4.out)
                clear HA4 HT4
                obtain ⟨gB, cB, e, _, _, hgB0⟩ := owns_some HA5.out.row (by omega)
                injection e with e1 _ e2
                subst e1 e2
                obtain ⟨gT, cT', e, _, _, hgT0⟩ := owns_some HT5.out.row (by omega)
                injection e with e1 _ e2
                subst e1 e2
                clear hgB0 hgT0
                go_wp2_with fail
                go_loopw [15] (fun i wr => ∃ q : Nat, q ≤ L + 1 ∧ i = .int .i64 q ∧ PB w.heap.size wr w.heap.size M (takeP pl) (100 + j + 1) S' ∧ Beside w.heap.size wr S' 27 2 (.slice (some ⟨gB, 0, none⟩) (L + 1) c3) (L + 1) (hCells (hs ++ [(lf, tn + 1)])) ∧ Beside w.heap.size wr S' 4 1 (.slice (some ⟨gT, 0, none⟩) (L + 1) d4) (L + 1) (bCells (fl ++ [true])) ∧ Below w.heap.size w wr) (fun i _ => L + 1 - (intOf i).toNat)
                case atStart => exact ⟨0, by omega, rfl, HP4.out, HA5.out, HT5.out, HB4.out⟩
                case round =>
                  clear HP4 HA5 HT5 HB4
                  obtain ⟨q, hq, rfl, hp, ha, ht, hb⟩ := hrel
                  have JP := Lib.hid hp
                  have JA := Lib.hid ha
                  have JT := Lib.hid ht
                  have JB := Lib.hid hb
                  clear hp ha ht hb
                  by_cases hqn : q < L + 1
                  · have hqn' : (q : Int) < ((L + 1 : Nat) : Int) := by omega
                    have hqn2 := hqn'
                    push_cast at hqn2
                    have hqh : q < (hs ++ [(lf, tn + 1)]).length := by rw [HLn2.out]; exact hqn
                    have FL := Lib.hid (HU2.out.flag q hqh)
                    have GE := Lib.hid (List.getElem?_eq_getElem hqh)
                    generalize (hs ++ [(lf, tn + 1)])[q] = h at *
                    obtain ⟨p', t'⟩ := h
                    have hgB : gB < wr.heap.size := owns_lt JA.out.row rfl
                    have hgT : gT < wr.heap.size := owns_lt JT.out.row rfl
                    obtain ⟨c0, c1, _, _⟩ := JA.out.hand hqn GE.out
                    have c2 := JT.out.flagAt hqn FL.out
                    have K0 : ∀ s : Later wr.heap.size wr, s.w.cell? ⟨gB, q * 2, none⟩ = some (.int .i64 p') := fun s => (s.h.cell (p := ⟨gB, q * 2, none⟩) hgB).trans c0
                    have K1 : ∀ s : Later wr.heap.size wr, s.w.cell? ⟨gB, q * 2 + 1, none⟩ = some (.int .i64 t') := fun s => (s.h.cell (p := ⟨gB, q * 2 + 1, none⟩) hgB).trans c1
                    have K2 : ∀ s : Later wr.heap.size wr, s.w.cell? ⟨gT, q, none⟩ = some (.bool (hasP (takeP pl) p' t')) := fun s => (s.h.cell (p := ⟨gT, q, none⟩) hgT).trans c2
                    have PH := Lib.hid (fun w' (hb : Below wr.heap.size wr w') => poolHas_any w.heap.size M (takeP pl) _ S' p' t' w' (JP.out.pool.below hb))
                    clear c0 c1 c2 FL GE
                    generalize hasP (takeP pl) p' t' = r at *
                    cases r
                    all_goals
                      go_wp2_with fail
                      refine region_later (by kernel_rfl) (by kernel_rfl) ?_
                      repeat (go_big_quiet_step (first | (with_reducible exact later_call _ (Nat.le_refl _) (PH.out _ (Later.h _)))))
                      refine wpQuiet_nil ?_
                      rintro w' ⟨s, rfl⟩
                      have b := s.h
                      generalize s.w = wq at *
                      have JP1 := Lib.hid (JP.out.below b)
                      have JA1 := Lib.hid (JA.out.below b)
                      have JT1 := Lib.hid (JT.out.below b)
                      have JB1 := Lib.hid (JB.out.trans (b.mono JP.out.room))
                      clear K0 K1 K2 PH b
                      go_wp2_with fail
                      go_roundw
                      case rel => exact ⟨q + 1, by omega, by go_num, JP1.out, JA1.out, JT1.out, JB1.out⟩
                      case measure => simp [intOf]; omega
                  · have hqn' : ¬ (q : Int) < ((L + 1 : Nat) : Int) := by omega
                    have hqn2 := hqn'
                    push_cast at hqn2
                    go_wp2_with fail
                    go_roundw
                    case rel => exact ⟨j + 1, takeP pl, S', hs ++ [(lf, tn + 1)], fl ++ [true], some ⟨gB, 0, none⟩, c3, some ⟨gT, 0, none⟩, d4, L + 1, by omega, by go_num, by rw [HCT.out]; go_num, rfl, rfl, HLn2.out, by omega, HU2.out, JP.out.mono (by push_cast; omega) (by push_cast; omega), JA.out, JT.out, JB.out⟩
                    case measure => simp [intOf]; omega
      · have hev : z % 2 = 0 := by omega
        rw [hev] at hm1
        by_cases h0 : L = 0
        · subst h0
          go_wp2_with fail
          go_loopw [15] (fun i wr => ∃ q : Nat, q ≤ 0 ∧ i = .int .i64 q ∧ PB w.heap.size wr w.heap.size M (pl) (100 + j) S ∧ Beside w.heap.size wr S 27 2 (.slice A' (0) c') (0) (hCells (hs)) ∧ Beside w.heap.size wr S 4 1 (.slice T' (0) d') (0) (bCells (fl)) ∧ Below w.heap.size w wr) (fun i _ => 0 - (intOf i).toNat)
          case atStart => exact ⟨0, by omega, rfl, HP.out, HA.out, HT.out, HBl.out⟩
          case round =>
            clear HP HA HT HBl
            obtain ⟨q, hq, rfl, hp, ha, ht, hb⟩ := hrel
            have JP := Lib.hid hp
            have JA := Lib.hid ha
            have JT := Lib.hid ht
            have JB := Lib.hid hb
            clear hp ha ht hb
            by_cases hqn : q < 0
            · exact absurd hqn (by omega)
            · have hqn' : ¬ (q : Int) < ((0 : Nat) : Int) := by omega
              have hqn2 := hqn'
              push_cast at hqn2
              go_wp2_with fail
              go_roundw
              case rel => exact ⟨j + 1, pl, S, hs, fl, A', c', T', d', 0, by omega, by go_num, rfl, rfl, rfl, HLn.out, by omega, HU.out, JP.out.mono (by push_cast; omega) (by push_cast; omega), JA.out, JT.out, JB.out⟩
              case measure => simp [intOf]; omega
        · have h0' : 0 < L := by omega
          have h0i : (0 : Int) < L := by omega
          obtain ⟨κ, hκ, hκl⟩ := pick_of (z / 2) L h0'
          obtain ⟨gA, cA', e, _, _, hgA0⟩ := owns_some HA.out.row (by omega)
          injection e with e1 _ e2
          subst e1 e2
          obtain ⟨gU, cT', e, _, _, hgT0⟩ := owns_some HT.out.row (by omega)
          injection e with e1 _ e2
          subst e1 e2
          clear hgA0 hgT0
          have hκi : (κ : Int) < L := by omega
          have hκh : κ < hs.length := by rw [HLn.out]; exact hκl
          have FLκ := Lib.hid (HU.out.flag κ hκh)
          have GEκ := Lib.hid (List.getElem?_eq_getElem hκh)
          have HThere := Lib.hid (fun (hf : fl[κ]? = some true) => HU.out.there hκh hf)
          have HFree := Lib.hid (fun pp a b c => HU.out.free (p := pp) hκh a b c)
          generalize hs[κ] = h at *
          obtain ⟨p, t⟩ := h
          obtain ⟨c0, c1, _, _⟩ := HA.out.hand hκl GEκ.out
          have hAT : Hid (∀ k, (Value.slice (some ⟨gA, 0, none⟩) L c').ownBlock = some k → k ∉ [gU]) := Lib.hid (fun k hk hm => owns_ne HA.out.row HT.out.row (by decide) hk (by simp at hm; simp [Value.ownBlock, hm]))
          by_cases hr : hasP pl p t = true
          · rw [hr] at FLκ
            obtain ⟨pp, hp1, hp2, hp3⟩ := HThere.out FLκ.out
            have HU2 := Lib.hid (HFree.out pp hp1 hp2 hp3)
            have HCF := Lib.hid (count_freeP hp2)
            have HQ1 : Hid (p = pp) := hp1
            have HQ2 := Lib.hid hp2
            have HQ3 : Hid (turnOf pl pp = t) := hp3
            clear hp1 hp2 hp3 hr HFree HThere
            go_wp2_with fail
            refine (pfree_at _ _ _ _ _ _ pp t wr HP.out HQ1.out HQ2.out HQ3.out).mono ?_
            rintro e w2 ⟨rfl, S', P2, O2, N2, b2⟩
            have HP2 := Lib.hid P2
            have HA2 := Lib.hid (HA.out.step O2 N2)
            have HT2 := Lib.hid (HT.out.step O2 N2)
            have HB2 := Lib.hid (HBl.out.trans b2)
            clear P2 O2 N2 b2 HP HA HT HBl c0 c1
            have c2 := HT2.out.flagAt hκl FLκ.out
            have f2 := HT2.out.row.frozenAt κ
            go_wp2_with fail
            go_quiet (fail)
            have HP3 := Lib.hid (HP2.out.below (Below.drewN' (Below.refl _ _) nq))
            have HA3 := Lib.hid (HA2.out.below (Below.drewN' (Below.refl _ _) nq))
            have HT3 := Lib.hid (HT2.out.below (Below.drewN' (Below.refl _ _) nq))
            have HB3 := Lib.hid (Below.drewN' HB2.out nq)
            clear c2 f2 HP2 HA2 HT2 HB2
            generalize w2.drewN nq = w3 at *
            have c2 := HT3.out.flagAt hκl FLκ.out
            have f2 := HT3.out.row.frozenAt κ
            obtain ⟨P4, T4, b4⟩ := Beside.put HP3.out HT3.out κ (.bool false)
            rw [← bCells_set] at T4
            have HP4 := Lib.hid P4
            have HT4 := Lib.hid T4
            have HA4 := Lib.hid (HA3.out.apart ((Only.refl [gU] w3).setCell ⟨gU, κ, none⟩ (.inl (by simp)) (.bool false)) hAT.out)
            have HB4 := Lib.hid (HB3.out.trans b4)
            clear P4 T4 b4 HP3 HA3 HT3 HB3
            go_wp2_with fail
            generalize w3.setCell ⟨gU, κ, none⟩ (.bool false) = w4 at *
            clear c2 f2
            have HU3 := HU2
            clear HU2
            go_wp2_with fail
            go_loopw [15] (fun i wr => ∃ q : Nat, q ≤ L ∧ i = .int .i64 q ∧ PB w.heap.size wr w.heap.size M (freeP pl pp) (100 + j) S' ∧ Beside w.heap.size wr S' 27 2 (.slice (some ⟨gA, 0, none⟩) (L) c') (L) (hCells (hs)) ∧ Beside w.heap.size wr S' 4 1 (.slice (some ⟨gU, 0, none⟩) (L) d') (L) (bCells (fl.set κ false)) ∧ Below w.heap.size w wr) (fun i _ => L - (intOf i).toNat)
            case atStart => exact ⟨0, by omega, rfl, HP4.out, HA4.out, HT4.out, HB4.out⟩
            case round =>
              clear HP4 HA4 HT4 HB4
              obtain ⟨q, hq, rfl, hp, ha, ht, hb⟩ := hrel
              have JP := Lib.hid hp
              have JA := Lib.hid ha
              have JT := Lib.hid ht
              have JB := Lib.hid hb
              clear hp ha ht hb
              by_cases hqn : q < L
              · have hqn' : (q : Int) < ((L : Nat) : Int) := by omega
                have hqn2 := hqn'
                push_cast at hqn2
                have hqh : q < (hs).length := by rw [HLn.out]; exact hqn
                have FL := Lib.hid (HU3.out.flag q hqh)
                have GE := Lib.hid (List.getElem?_eq_getElem hqh)
                generalize (hs)[q] = h at *
                obtain ⟨p', t'⟩ := h
                have hgA : gA < wr.heap.size := owns_lt JA.out.row rfl
                have hgU : gU < wr.heap.size := owns_lt JT.out.row rfl
                obtain ⟨c0, c1, _, _⟩ := JA.out.hand hqn GE.out
                have c2 := JT.out.flagAt hqn FL.out
                have K0 : ∀ s : Later wr.heap.size wr, s.w.cell? ⟨gA, q * 2, none⟩ = some (.int .i64 p') := fun s => (s.h.cell (p := ⟨gA, q * 2, none⟩) hgA).trans c0
                have K1 : ∀ s : Later wr.heap.size wr, s.w.cell? ⟨gA, q * 2 + 1, none⟩ = some (.int .i64 t') := fun s => (s.h.cell (p := ⟨gA, q * 2 + 1, none⟩) hgA).trans c1
                have K2 : ∀ s : Later wr.heap.size wr, s.w.cell? ⟨gU, q, none⟩ = some (.bool (hasP (freeP pl pp) p' t')) := fun s => (s.h.cell (p := ⟨gU, q, none⟩) hgU).trans c2
                have PH := Lib.hid (fun w' (hb : Below wr.heap.size wr w') => poolHas_any w.heap.size M (freeP pl pp) _ S' p' t' w' (JP.out.pool.below hb))
                clear c0 c1 c2 FL GE
                generalize hasP (freeP pl pp) p' t' = r at *
                cases r
                all_goals
                  go_wp2_with fail
                  refine region_later (by kernel_rfl) (by kernel_rfl) ?_
                  repeat (go_big_quiet_step (first | (with_reducible exact later_call _ (Nat.le_refl _) (PH.out _ (Later.h _)))))
                  refine wpQuiet_nil ?_
                  rintro w' ⟨s, rfl⟩
                  have b := s.h
                  generalize s.w = wq at *
                  have JP1 := Lib.hid (JP.out.below b)
                  have JA1 := Lib.hid (JA.out.below b)
                  have JT1 := Lib.hid (JT.out.below b)
                  have JB1 := Lib.hid (JB.out.trans (b.mono JP.out.room))
                  clear K0 K1 K2 PH b
                  go_wp2_with fail
                  go_roundw
                  case rel => exact ⟨q + 1, by omega, by go_num, JP1.out, JA1.out, JT1.out, JB1.out⟩
                  case measure => simp [intOf]; omega
              · have hqn' : ¬ (q : Int) < ((L : Nat) : Int) := by omega
                have hqn2 := hqn'
                push_cast at hqn2
                go_wp2_with fail
                go_roundw
                case rel => exact ⟨j + 1, freeP pl pp, S', hs, fl.set κ false, some ⟨gA, 0, none⟩, c', some ⟨gU, 0, none⟩, d', L, by omega, by go_num, by have := HCF.out; congr 1; omega, rfl, rfl, HLn.out, by omega, HU3.out, JP.out.mono (by push_cast; omega) (by push_cast; omega), JA.out, JT.out, JB.out⟩
                case measure => simp [intOf]; omega
          · have hr' : hasP pl p t = false := by simpa using hr
            rw [hr'] at FLκ
            have HNo := Lib.hid hr'
            clear hr hr' HFree HThere
            go_wp2_with fail
            refine (free_no _ _ _ _ _ p t wr HP.out.pool HNo.out).mono ?_
            rintro e w2 ⟨rfl, b2⟩
            have HP2 := Lib.hid (HP.out.below b2)
            have HA2 := Lib.hid (HA.out.below b2)
            have HT2 := Lib.hid (HT.out.below b2)
            have HB2 := Lib.hid (HBl.out.trans (b2.mono hzw))
            clear b2 HP HA HT HBl c0 c1
            have c2 := HT2.out.flagAt hκl FLκ.out
            have f2 := HT2.out.row.frozenAt κ
            go_wp2_with fail
            go_quiet (fail)
            have HP3 := Lib.hid (HP2.out.below (Below.drewN' (Below.refl _ _) nq))
            have HA3 := Lib.hid (HA2.out.below (Below.drewN' (Below.refl _ _) nq))
            have HT3 := Lib.hid (HT2.out.below (Below.drewN' (Below.refl _ _) nq))
            have HB3 := Lib.hid (Below.drewN' HB2.out nq)
            clear c2 f2 HP2 HA2 HT2 HB2
            generalize w2.drewN nq = w3 at *
            have c2 := HT3.out.flagAt hκl FLκ.out
            have f2 := HT3.out.row.frozenAt κ
            obtain ⟨P4, T4, b4⟩ := Beside.put HP3.out HT3.out κ (.bool false)
            rw [← bCells_set] at T4
            have HP4 := Lib.hid P4
            have HT4 := Lib.hid T4
            have HA4 := Lib.hid (HA3.out.apart ((Only.refl [gU] w3).setCell ⟨gU, κ, none⟩ (.inl (by simp)) (.bool false)) hAT.out)
            have HB4 := Lib.hid (HB3.out.trans b4)
            clear P4 T4 b4 HP3 HA3 HT3 HB3
            go_wp2_with fail
            generalize w3.setCell ⟨gU, κ, none⟩ (.bool false) = w4 at *
            clear c2 f2
            have HU3 : Hid (Unl pl hs (fl.set κ false)) := Lib.hid (by rw [set_same FLκ.out]; exact HU.out)
            go_wp2_with fail
            go_loopw [15] (fun i wr => ∃ q : Nat, q ≤ L ∧ i = .int .i64 q ∧ PB w.heap.size wr w.heap.size M (pl) (100 + j) S ∧ Beside w.heap.size wr S 27 2 (.slice (some ⟨gA, 0, none⟩) (L) c') (L) (hCells (hs)) ∧ Beside w.heap.size wr S 4 1 (.slice (some ⟨gU, 0, none⟩) (L) d') (L) (bCells (fl.set κ false)) ∧ Below w.heap.size w wr) (fun i _ => L - (intOf i).toNat)
            case atStart => exact ⟨0, by omega, rfl, HP4.out, HA4.out, HT4.out, HB4.out⟩
            case round =>
              clear HP4 HA4 HT4 HB4
              obtain ⟨q, hq, rfl, hp, ha, ht, hb⟩ := hrel
              have JP := Lib.hid hp
              have JA := Lib.hid ha
              have JT := Lib.hid ht
              have JB := Lib.hid hb
              clear hp ha ht hb
              by_cases hqn : q < L
              · have hqn' : (q : Int) < ((L : Nat) : Int) := by omega
                have hqn2 := hqn'
                push_cast at hqn2
                have hqh : q < (hs).length := by rw [HLn.out]; exact hqn
                have FL := Lib.hid (HU3.out.flag q hqh)
                have GE := Lib.hid (List.getElem?_eq_getElem hqh)
                generalize (hs)[q] = h at *
                obtain ⟨p', t'⟩ := h
                have hgA : gA < wr.heap.size := owns_lt JA.out.row rfl
                have hgU : gU < wr.heap.size := owns_lt JT.out.row rfl
                obtain ⟨c0, c1, _, _⟩ := JA.out.hand hqn GE.out
                have c2 := JT.out.flagAt hqn FL.out
                have K0 : ∀ s : Later wr.heap.size wr, s.w.cell? ⟨gA, q * 2, none⟩ = some (.int .i64 p') := fun s => (s.h.cell (p := ⟨gA, q * 2, none⟩) hgA).trans c0
                have K1 : ∀ s : Later wr.heap.size wr, s.w.cell? ⟨gA, q * 2 + 1, none⟩ = some (.int .i64 t') := fun s => (s.h.cell (p := ⟨gA, q * 2 + 1, none⟩) hgA).trans c1
                have K2 : ∀ s : Later wr.heap.size wr, s.w.cell? ⟨gU, q, none⟩ = some (.bool (hasP (pl) p' t')) := fun s => (s.h.cell (p := ⟨gU, q, none⟩) hgU).trans c2
                have PH := Lib.hid (fun w' (hb : Below wr.heap.size wr w') => poolHas_any w.heap.size M (pl) _ S p' t' w' (JP.out.pool.below hb))
                clear c0 c1 c2 FL GE
                generalize hasP (pl) p' t' = r at *
                cases r
                all_goals
                  go_wp2_with fail
                  refine region_later (by kernel_rfl) (by kernel_rfl) ?_
                  repeat (go_big_quiet_step (first | (with_reducible exact later_call _ (Nat.le_refl _) (PH.out _ (Later.h _)))))
                  refine wpQuiet_nil ?_
                  rintro w' ⟨s, rfl⟩
                  have b := s.h
                  generalize s.w = wq at *
                  have JP1 := Lib.hid (JP.out.below b)
                  have JA1 := Lib.hid (JA.out.below b)
                  have JT1 := Lib.hid (JT.out.below b)
                  have JB1 := Lib.hid (JB.out.trans (b.mono JP.out.room))
                  clear K0 K1 K2 PH b
                  go_wp2_with fail
                  go_roundw
                  case rel => exact ⟨q + 1, by omega, by go_num, JP1.out, JA1.out, JT1.out, JB1.out⟩
                  case measure => simp [intOf]; omega
              · have hqn' : ¬ (q : Int) < ((L : Nat) : Int) := by omega
                have hqn2 := hqn'
                push_cast at hqn2
                go_wp2_with fail
                go_roundw
                case rel => exact ⟨j + 1, pl, S, hs, fl.set κ false, some ⟨gA, 0, none⟩, c', some ⟨gU, 0, none⟩, d', L, by omega, by go_num, rfl, rfl, rfl, HLn.out, by omega, HU3.out, JP.out.mono (by push_cast; omega) (by push_cast; omega), JA.out, JT.out, JB.out⟩
                case measure => simp [intOf]; omega
end Go.Proofs.YtpnpmellohacoaaDoor
