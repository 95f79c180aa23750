import Derived.Test.YtinnogplnpmcmaaJoinQ
import Derived.Deep.RegionLawGrows
import Derived.Deep.RegionLaw
import Derived.Deep.CutBlock
import Derived.Deep.RegionHeld3
import Derived.Deep.DeepCutAuto
import Derived.Test.YtinnogplnpmcmaaLaneF
/- quoinlaw2.RectJoins answers true. -/
namespace Go.Proofs.Ytinnogplnpmcmaa
open Go.RowKit
set_option linter.unusedVariables false
set_option linter.unusedSimpArgs false

theorem rect_info : (Try.prog.info? 23).map (fun i => (i.zero, i.size, i.bytes)) = some (some (.agg #[.int .i64 0, .int .i64 0, .int .i64 0, .int .i64 0]), 4, 32) := by kernel_rfl
theorem and255i (n : Int) : bits .and .i64 n 255 = n % 256 := and_mask_i64 n 8 (by decide)
def tames (small : Bool) (l : List Q) : List Q := l.map (tameQ small)
theorem tames_succ (small : Bool) (l : List Q) (k : Nat) (h : k < l.length) : tames small (l.take (k + 1)) = tames small (l.take k) ++ [tameQ small l[k]] := by
  rw [List.take_succ_eq_append_getElem h]; unfold tames; rw [List.map_append]; rfl
theorem flat4_one (q : Q) : flat4 [q] = [.int .i64 q.x, .int .i64 q.y, .int .i64 q.a, .int .i64 q.b] := rfl

theorem Row.cells {w : World} {B : Nat} {ad : Addr} {xs : List Value} (h : Row w B (some ad) xs) : ∀ j u, xs[j]? = some u → w.cell? (ad.add j) = some u := by
  intro j u hu
  obtain ⟨hj, rfl⟩ := List.getElem?_eq_some_iff.1 hu
  obtain ⟨ad', e, _, hc⟩ := h (by omega)
  injection e with e
  subst e
  exact hc j hj
theorem flat4_cell (l : List Q) : ∀ u ∈ flat4 l, u.oneCell' = true := by
  induction l with
  | nil => simp [flat4]
  | cons q r ih =>
    intro u hu
    simp only [flat4, List.mem_cons] at hu
    rcases hu with rfl | rfl | rfl | rfl | hu
    · rfl
    · rfl
    · rfl
    · rfl
    · exact ih u hu
/-- A slice of the call's own. -/
def ownT (B0 : Nat) (e : TypeId) (size n : Nat) (xs : List Value) : Told := fun v w => ∃ A c, v = .slice A n c ∧ w.ownsRow B0 e size (.slice A n c) n xs
theorem ownT_steady (B0 : Nat) (e : TypeId) (size n : Nat) (xs : List Value) : Steady (ownT B0 e size n xs) := fun v w w' hb ⟨A, c, h1, h2⟩ => ⟨A, c, h1, own_below h2 hb (Nat.le_refl _)⟩
theorem own_base {w : World} {base base' : Nat} {e : TypeId} {size n : Nat} {v : Value} {xs : List Value} (h : w.ownsRow base e size v n xs) (hb : base' ≤ base) : w.ownsRow base' e size v n xs := by
  refine ⟨h.1, ?_⟩
  rcases h.2 with h0 | ⟨g, cap, cur, h1, h2, h3⟩
  · exact .inl h0
  · exact .inr ⟨g, cap, cur, h1, by omega, h3⟩
/-- 'append([]T{}, xs...)': a new block. -/
theorem append_told {ops : Array Oper} {o : Oper} {a : Act} {w : World} {B0 : Nat} (hB : B0 ≤ w.heap.size) (hg : o.guard = none) (s x : Operand) (hop : o.op = .call { callee := .builtin .append, args := #[s, x], argTypes := #[28, 28] })
    (hs : madeT 0 23 [] (a.eval s) w) (ad : Addr) (m c : Nat) (news : List Value) (hx : a.eval x = .slice (some ad) m c) (hn : news.length = m * 4) (hc : ∀ j u, news[j]? = some u → w.cell? (ad.add j) = some u) (h1c : ∀ u ∈ news, u.oneCell' = true) (hm0 : 0 < m) (hm : m ≤ 1000) :
    givesBy Try.prog ops o a w (ownT B0 23 4 m news) := by
  have hw : Region.wanted o (yielded ops a.tmps) = true := by simp [Region.wanted, hg]
  refine ⟨hw, fun K Q hK => ?_⟩
  obtain ⟨i0, hi0, hz0, hz1, hz2⟩ := info_parts rect_info
  obtain ⟨g, hs1, hs2⟩ := hs
  have := step_append_grows (P := Try.prog) (ops := ops) (o := o) (a := a) (w := w) (K := K) (Q := Q) (E := True) hg s x 28 hop 23 i0 _ 4 32 Try.underlying28 hi0 hz0 hz1 hz2 rfl (by decide) (some ⟨g, 0, none⟩) 0 0 [] hs1 (fun h => by cases h) rfl
    (fun b _ j u hu => by simp at hu) ad m c news hx hn hc h1c (by omega) (by unfold maxLen; omega) (by omega) (fun v' w' r1 r2 => by
      rw [Nat.zero_add, List.nil_append] at r1
      obtain ⟨A, cc, rfl⟩ := own_shape r1
      exact hK _ _ ⟨r2.os, r2.tape, r2.output, r2.size, fun b hb => r2.block b hb (by simp)⟩ ⟨A, cc, rfl, own_base r1 hB⟩)
  rwa [if_pos hw] at this
theorem add_one (a : Addr) (j : Nat) : a.add (j + 1) = ⟨a.block, a.off + (j + 1), none⟩ := rfl
theorem Row.quadA {w : World} {B : Nat} {A : Option Addr} {qs : List Q} (h : Row w B A (flat4 qs)) {k : Nat} (hk : k < qs.length) :
    ∃ ad, A = some ad ∧ ad.block < B ∧ w.cell? (ad.add (k * 4)) = some (.int .i64 qs[k].x) ∧ w.cell? ⟨(ad.add (k * 4)).block, (ad.add (k * 4)).off + 1, none⟩ = some (.int .i64 qs[k].y) ∧
      w.cell? ⟨(ad.add (k * 4)).block, (ad.add (k * 4)).off + 2, none⟩ = some (.int .i64 qs[k].a) ∧ w.cell? ⟨(ad.add (k * 4)).block, (ad.add (k * 4)).off + 3, none⟩ = some (.int .i64 qs[k].b) := by
  obtain ⟨ad, e, hb, g0, g1, g2, g3⟩ := h.quad hk
  rw [← add_of_add] at g1 g2 g3
  exact ⟨ad, e, hb, g0, g1, g2, g3⟩

set_option maxRecDepth 100000 in
set_option maxHeartbeats 8000000 in
theorem joins_walk (A : Option Addr) (c : Nat) (l : List Q) (cut : Int) (small : Bool) (lc : -9223372036854775808 ≤ cut) (uc : cut ≤ 9223372036854775807)
    (w : World) (hr : Row w w.heap.size A (flat4 l)) (hl : ∀ q ∈ l, I64q q) (hc : l.length ≤ c) (hm : c ≤ maxLen) :
    Calls Try.prog 4 #[.slice A l.length c, .int .i64 cut, .bool small] w fun e w' => e = .returned (.bool true) ∧ Below w.heap.size w w' := by
  unfold maxLen at hm
  have HL := Lib.hid hl
  clear hl
  go_enter Try.func4, Try.ntmps4
  go_upto_block 0 with fail
  go_cut [7] (fun v wr => ∃ (k : Nat) (A1 : Option Addr) (c1 : Nat), k ≤ l.length ∧ k ≤ 20 ∧ (k = l.length ∨ k = 20) ∧ v = .slice A1 k c1 ∧
      wr.ownsRow w.heap.size 23 4 (.slice A1 k c1) k (flat4 (tames small (l.take k))) ∧ Below w.heap.size w wr)
  case first =>
    go_wp2_with fail
    go_loopw [7, 8] (fun v i wr => ∃ (k : Nat) (A1 : Option Addr) (c1 : Nat), k ≤ l.length ∧ k ≤ 20 ∧ i = .int .i64 k ∧ v = .slice A1 k c1 ∧
        wr.ownsRow w.heap.size 23 4 (.slice A1 k c1) k (flat4 (tames small (l.take k))) ∧ Below w.heap.size w wr) (fun _ i _ => 20 - (intOf i).toNat)
    case atStart => exact ⟨0, none, 0, Nat.zero_le _, by omega, rfl, rfl, World.ownsRow_nil _ _ _ _, Below.refl _ _⟩
    case round =>
      obtain ⟨k, A1, c1, hk, hk20, rfl, rfl, hown, hbel⟩ := hrel
      by_cases hlt : k < l.length ∧ k < 20
      · obtain ⟨hlt, hlt2⟩ := hlt
        obtain ⟨ad, rfl, had, e0, e1, e2, e3⟩ := (hr.below hbel).quadA hlt
        have HT := Lib.hid (fun w => tame_q small l[k] w (HL.out _ (List.getElem_mem hlt)))
        have E1 := Lib.hid (tames_succ small l k hlt)
        have hi1 : (k : Int) < (l.length : Int) := by omega
        have hi2 : (k : Int) < 20 := by omega
        have HR := Lib.hid hr
        clear hr
        generalize l[k] = q at *
        go_wp2_with fail
        refine (HT.out _).mono ?_; rintro e w1 ⟨rfl, hb1⟩
        have hown1 := own_below hown hb1 (Nat.le_refl _)
        have hbel1 := hbel.trans (hb1.mono hbel.size)
        clear hown hbel hb1 e0 e1 e2 e3
        generalize tameQ small q = q' at *
        go_wp2_with (at_builtin; refine wpList_new rfl (.tmp 28) (.tmp 35) _ rfl w.heap.size 23 4 32 (.agg #[.int .i64 0, .int .i64 0, .int .i64 0, .int .i64 0]) Try.underlying28 rect_info rfl (by decide) _ _ _ _ rfl hown1 rfl ⟨by omega, by unfold maxLen; omega, hbel1.size⟩ rfl (by simp [Value.oneCell']) ?_; intro A2 c2 w2 hown2 hbel2)
        go_roundw
        case rel => exact ⟨k + 1, A2, c2, by omega, by omega, by go_num, rfl, by rw [E1.out, flat4_append, flat4_one]; exact hown2, hbel1.trans hbel2⟩
        case measure => simp [intOf]; omega
      · have hkc : (¬ k < l.length) ∨ (k < l.length ∧ ¬ (k : Int) < 20) := by omega
        have HO := Lib.hid hown
        have HBl := Lib.hid hbel
        clear hr hown hbel
        rcases hkc with hx | ⟨hx, hx2⟩
        all_goals
          go_wp2_with fail
          go_meet
          exact ⟨k, A1, c1, by omega, by omega, by omega, rfl, HO.out, HBl.out⟩
  case rest =>
    obtain ⟨k, A1, c1, hk, hk20, hke, rfl, hown, hbel⟩ := hcut
    by_cases h0 : k = 0
    · subst h0
      obtain rfl : l = [] := List.eq_nil_of_length_eq_zero (by omega)
      have HB := Lib.hid hbel
      clear hbel hown hr hke
      go_wp2_with fail
      refine (join_none _ none 0).mono ?_; rintro e w1 ⟨rfl, hb1⟩
      have HB1 := Lib.hid (HB.out.trans (hb1.mono HB.out.size))
      clear hb1 HB
      go_wp2_with fail
      refine (awake_any _).mono ?_; rintro e w2 ⟨rfl, hb2⟩
      have HB2 := Lib.hid (HB1.out.trans (hb2.mono HB1.out.size))
      clear hb2 HB1
      go_wp2
      go_ret
      exact ⟨rfl, HB2.out⟩
    · have hkp : 0 < k := by omega
      have hql : (tames small (l.take k)).length = k := by simp [tames]; omega
      have hqf : ∀ q ∈ tames small (l.take k), Fine q := fun q hq => by
        obtain ⟨q', _, rfl⟩ := List.mem_map.1 hq
        exact tame_fine small q'
      have hrow := row_of_own hown
      obtain ⟨g, rfl⟩ : ∃ g, A1 = some ⟨g, 0, none⟩ := by
        rcases hown.2 with ⟨_, h1⟩ | ⟨g, cap, cur, h1, _⟩
        · exact absurd h1 h0
        · injection h1 with h1
          exact ⟨g, h1⟩
      have hc1 : k ≤ c1 ∧ c1 ≤ 9223372036854775807 := by
        rcases hown.2 with ⟨_, h1⟩ | ⟨g', cap, cur, h1, _, _, h2, h3, _⟩
        · exact absurd h1 h0
        · injection h1 with h4 h5 h6
          subst h6
          unfold maxLen at h3
          exact ⟨h2, by omega⟩
      obtain ⟨hc1, hc1'⟩ := hc1
      generalize tames small (l.take k) = qs at *
      have HQ := Lib.hid hqf
      have HN := Lib.hid hql
      have HB := Lib.hid hbel
      have HRow := Lib.hid hrow
      have a255 := and255i cut
      obtain ⟨κ, hκ⟩ : ∃ κ : Nat, cut % 256 % (k : Int) = (κ : Int) := ⟨(cut % 256 % (k : Int)).toNat, by rw [Int.toNat_of_nonneg (Int.emod_nonneg _ (by omega))]⟩
      have hκ1 : κ < k := by
        have := Int.emod_lt_of_pos (cut % 256) (show 0 < (k : Int) by omega)
        omega
      have hk0 : (0 : Int) < (k : Int) := by omega
      have hkne : ((k : Int) == 0) = false := by rw [beq_eq_false_iff_ne]; omega
      clear hqf hql hbel hrow hr hown lc uc HL h0 hke
      go_wp2_with fail
      have hs0 : ∀ q ∈ qs, q.small := fun q hq => (HQ.out q hq).small
      obtain ⟨J, hJ⟩ : ∃ J, joinQ qs = J := ⟨_, rfl⟩
      have hIs : IsJoin qs J := by rw [← hJ]; exact joinQ_is qs (by rw [HN.out]; exact hkp)
      refine (join_is _ g 0 c1 k qs J HRow.out HN.out hkp (by omega) hc1 hc1' hs0 hJ).mono ?_; rintro e w1 ⟨rfl, hb1⟩
      have hR1 : Row w1 w1.heap.size (some ⟨g, 0, none⟩) (flat4 qs) := (HRow.out.below hb1).more hb1.size
      have HB1 := HB.out.trans (hb1.mono HB.out.size)
      clear hb1 HB HRow
      go_wp2_with fail
      obtain ⟨w2, hw2⟩ : ∃ w2, w1.alloc (.cells #[.int .i64 J.x, .int .i64 J.y, .int .i64 J.a, .int .i64 J.b] 23) = w2 := ⟨_, rfl⟩
      have hR2 : Row w2 w2.heap.size (some ⟨g, 0, none⟩) (flat4 qs) := by rw [← hw2]; exact (hR1.alloc (Nat.le_refl _) _).more (by simp)
      have J2 : Whole w2 w1.heap.size 23 [.int .i64 J.x, .int .i64 J.y, .int .i64 J.a, .int .i64 J.b] := by rw [← hw2]; exact Whole.mk w1 _ _
      have HB2 := Lib.hid (show Below w.heap.size w w2 by rw [← hw2]; exact HB1.alloc HB1.size _)
      rw [hw2]
      clear hw2 HB1 hR1 hκ a255 hk0 hkne
      have hκ2 : (κ : Int) + 1 ≤ (c1 : Int) := by omega
      have hκ3 : κ + 1 ≤ c1 := by omega
      have hκ4 : κ ≤ k := by omega
      have hκ5 : ¬ c1 = κ := by omega
      have hκ6 : (κ : Int) < (k : Int) := by omega
      have hκ7 : IntKind.i64.wrap ((κ : Int) + 1) = (κ : Int) + 1 := IntWalk.i64_in _ (by omega)
      have hκ8 : ((κ : Int) + 1).toNat = κ + 1 := by omega
      have hκ9 : (0 : Int) ≤ (κ : Int) + 1 := by omega
      have hκ10 : (κ : Int) ≤ (k : Int) := by omega
      have hκ11 : (k : Int) ≤ (c1 : Int) := by omega
      have hk0 : (0 : Int) < (k : Int) := by omega
      obtain ⟨had, e0, e1, e2, e3⟩ := hR2.quad2 (show 0 < qs.length by rw [HN.out]; exact hkp)
      simp only [Nat.zero_mul, Nat.add_zero, Nat.zero_add] at e0 e1 e2 e3
      have q0s := hs0 _ (List.getElem_mem (show 0 < qs.length by rw [HN.out]; exact hkp))
      obtain ⟨q0, hq0⟩ : ∃ q0, qs[0]'(by rw [HN.out]; exact hkp) = q0 := ⟨_, rfl⟩
      rw [hq0] at e0 e1 e2 e3 q0s
      have HQ0 := Lib.hid hq0
      have HJ := Lib.hid hJ
      have HS0 := Lib.hid hs0
      have HR2 := Lib.hid hR2
      have HIs := Lib.hid hIs
      have HQS := Lib.hid q0s
      have KG0 : ∀ s : Later w2.heap.size w2, s.w.cell? ⟨g, 0, none⟩ = some (.int .i64 q0.x) := fun s => (s.h.cell (p := ⟨g, 0, none⟩) had).trans e0
      have KG1 : ∀ s : Later w2.heap.size w2, s.w.cell? ⟨g, 1, none⟩ = some (.int .i64 q0.y) := fun s => (s.h.cell (p := ⟨g, 1, none⟩) had).trans e1
      have KG2 : ∀ s : Later w2.heap.size w2, s.w.cell? ⟨g, 2, none⟩ = some (.int .i64 q0.a) := fun s => (s.h.cell (p := ⟨g, 2, none⟩) had).trans e2
      have KG3 : ∀ s : Later w2.heap.size w2, s.w.cell? ⟨g, 3, none⟩ = some (.int .i64 q0.b) := fun s => (s.h.cell (p := ⟨g, 3, none⟩) had).trans e3
      have KJ0 : ∀ s : Later w2.heap.size w2, s.w.cell? ⟨w1.heap.size, 0, none⟩ = some (.int .i64 J.x) := fun s => (J2.under s.h J2.size).four.1
      have KJ1 : ∀ s : Later w2.heap.size w2, s.w.cell? ⟨w1.heap.size, 1, none⟩ = some (.int .i64 J.y) := fun s => (J2.under s.h J2.size).four.2.1
      have KJ2 : ∀ s : Later w2.heap.size w2, s.w.cell? ⟨w1.heap.size, 2, none⟩ = some (.int .i64 J.a) := fun s => (J2.under s.h J2.size).four.2.2.1
      have KJ3 : ∀ s : Later w2.heap.size w2, s.w.cell? ⟨w1.heap.size, 3, none⟩ = some (.int .i64 J.b) := fun s => (J2.under s.h J2.size).four.2.2.2
      have HJ2 := Lib.hid J2
      clear hJ hIs hs0 hR2 J2 hq0 e0 e1 e2 e3 q0s
      refine region_float [] [18] [0, 1, 2, 3, 4, 5, 6, 7, 8, 9, 10, 11, 12, 13] [14, 15, 16, 17, 19] (by kernel_rfl) (by kernel_rfl) (fun _ _ _ _ _ h => h) ?_
      simp only [pick, List.map_cons, List.map_nil, List.getD_cons_zero, List.getD_cons_succ]
      refine wpQuiet_nil ?_
      repeat (go_big_quiet_step (fail))
      refine wpQuiet_nil ⟨rfl, ?_⟩
      refine laneO_run 4 (by kernel_rfl) ?_
      simp only [List.take_succ_cons, List.take_zero, List.drop_succ_cons, List.drop_zero]
      repeat (go_big_quiet_step (fail))
      refine wpQuiet_nil ?_
      obtain ⟨J1, hJ1⟩ : ∃ J1, joinQ (qs.take (κ + 1)) = J1 := ⟨_, rfl⟩
      have hs1 : ∀ q ∈ qs.take (κ + 1), q.small := fun q hq => HS0.out q (List.mem_of_mem_take hq)
      have HC1 := Lib.hid (fun (w : World) (hb : Below w2.heap.size w2 w) => join_is w g 0 c1 (κ + 1) (qs.take (κ + 1)) J1 (by have := ((HR2.out.below hb).more hb.size).take ((κ + 1) * 4); rwa [flat4_take] at this) (by simp [HN.out]; omega) (by omega) (by omega) hκ3 hc1' hs1 hJ1)
      have HJ1 := Lib.hid hJ1
      have HS1 := Lib.hid hs1
      clear hJ1 hs1
      refine laneO_call (v := qv J1) (by kernel_rfl) (by rfl) (fun C hC h0 => ?_) ?_
      focus (go_big_quiet_op; exact ⟨_, fun w hw => (HC1.out w (h0 w hw)).mono fun e w' ⟨he, hb⟩ => ⟨he, hC _ _ hw hb⟩, rfl⟩)
      simp only [Act.put, List.setIfInBounds_toArray, List.set_cons_zero, List.set_cons_succ]
      refine laneO_told (madeT 0 23 []) (madeT_steady _ _ _) (by kernel_rfl) rfl (fun w hw => .inl ⟨by rfl, ?_⟩) ?_
      · unfold gives
        simp [go_sem]
        exact madeT_new 0 23 #[] w
      refine laneO_run 3 (by kernel_rfl) ?_
      simp only [List.take_succ_cons, List.take_zero, List.drop_succ_cons, List.drop_zero]
      repeat (go_big_quiet_step (fail))
      refine wpQuiet_nil ?_
      refine laneO_by (ownT w2.heap.size 23 4 (k - κ) (flat4 (qs.drop κ))) (ownT_steady _ _ _ _ _) rfl (fun a' w hb hm => ?_) ?_
      · have m58 : madeT 0 23 [] (a'.tmps.getD 58 undef) w := hm 58 (by simp [Oper.looksAt, Op.operands, Call.operands])
        have m61 : a'.tmps.getD 61 undef = .slice (some ⟨g, κ * 4, none⟩) (k - κ) (c1 - κ) := hm 61 (by simp [Oper.looksAt, Op.operands, Call.operands])
        have hrow := (HR2.out.below hb).drop (κ * 4)
        rw [flat4_drop, at_add, Nat.zero_add] at hrow
        exact append_told hb.size rfl (.tmp 58) (.tmp 61) rfl m58 ⟨g, κ * 4, none⟩ (k - κ) (c1 - κ) (flat4 (qs.drop κ)) m61 (by rw [flat4_length]; simp [HN.out]) hrow.cells (flat4_cell _) (by omega) (by omega)
      refine laneO_run 3 (by kernel_rfl) ?_
      simp only [List.take_succ_cons, List.take_zero, List.drop_succ_cons, List.drop_zero]
      repeat (go_big_quiet_step (fail))
      refine wpQuiet_nil ?_
      refine laneO_told (madeT 1 23 [.int .i64 q0.x, .int .i64 q0.y, .int .i64 q0.a, .int .i64 q0.b]) (madeT_steady _ _ _) (by kernel_rfl) rfl (fun w hw => .inl ⟨by rfl, ?_⟩) ?_
      · unfold gives
        simp [go_sem]
        exact madeT_new 1 23 #[.int .i64 q0.x, .int .i64 q0.y, .int .i64 q0.a, .int .i64 q0.b] w
      refine laneO_tail (by simp) (by rfl) rfl rfl fun w3 hb3 => ?_
      intro x66 hx66 x62 hx62 x58 hx58
      obtain ⟨g6, rfl, h66⟩ := hx66
      obtain ⟨A6, c6, rfl, own6⟩ := hx62
      clear hx58 KG0 KG1 KG2 KG3 KJ0 KJ1 KJ2 KJ3
      simp only [fillAll, Act.put, List.setIfInBounds_toArray, List.set_cons_zero, List.set_cons_succ]
      have hb3 : Below w2.heap.size w2 w3 := hb3
      refine tail_step (by rfl) fun K hK => ?_
      refine wp_push_all (.tmp 62) (.tmp 66) _ rfl w2.heap.size 23 4 32 (.agg #[.int .i64 0, .int .i64 0, .int .i64 0, .int .i64 0]) Try.underlying28 rect_info rfl (by decide) (k - κ) c6 A6 _ rfl own6 _ 1 1 (some ⟨g6, 0, none⟩) [.int .i64 q0.x, .int .i64 q0.y, .int .i64 q0.a, .int .i64 q0.b] rfl (fun h => by cases h) rfl (row_told h66) (by simp [Value.oneCell']) (by unfold maxLen; omega) (by omega) hb3.size fun A7 c7 w4 own7 hb7 => ?_
      have hb4 : Below w2.heap.size w2 w4 := hb3.trans hb7
      refine hK _ _ hb4 ?_
      clear hK K own6 h66 hb7 hb3
      simp only [Act.put, List.setIfInBounds_toArray, List.set_cons_zero, List.set_cons_succ]
      obtain ⟨g7, rfl⟩ : ∃ g, A7 = some ⟨g, 0, none⟩ := by
        rcases own7.2 with ⟨_, h1⟩ | ⟨g, cap, cur, h1, _⟩
        · omega
        · injection h1 with h1
          exact ⟨g, h1⟩
      have hc7 : k - κ + 1 ≤ c7 ∧ c7 ≤ 9223372036854775807 := by
        rcases own7.2 with ⟨_, h1⟩ | ⟨g', cap, cur, h1, _, _, h2, h3, _⟩
        · omega
        · injection h1 with h4 h5 h6
          subst h6
          unfold maxLen at h3
          exact ⟨h2, by omega⟩
      have hq7 : (flat4 (qs.drop κ) ++ [.int .i64 q0.x, .int .i64 q0.y, .int .i64 q0.a, .int .i64 q0.b]) = flat4 (qs.drop κ ++ [q0]) := by rw [flat4_append]; rfl
      rw [hq7] at own7
      obtain ⟨J3, hJ3⟩ : ∃ J3, joinQ (qs.drop κ ++ [q0]) = J3 := ⟨_, rfl⟩
      have hs3 : ∀ q ∈ qs.drop κ ++ [q0], q.small := fun q hq => by
        rcases List.mem_append.1 hq with h | h
        · exact HS0.out q (List.mem_of_mem_drop h)
        · simp at h; subst h; exact HQS.out
      have hj3s : J3.small := by rw [← hJ3]; exact joinQ_small _ hs3 (by simp)
      have hj1s : J1.small := by rw [← HJ1.out]; exact joinQ_small _ HS1.out (by simp [HN.out]; omega)
      have hpart : ar J1 J3 = J := by
        rw [← HJ1.out, ← hJ3, ← HJ.out, ← joinQ_parted qs κ (by rw [HN.out]; exact hκ1)]
        rw [HQ0.out]
      refine tail_call1 (v := qv J3) rfl (by rfl) rfl Try.func10 (by kernel_rfl) rfl (join_is w4 g7 0 c7 (k - κ + 1) _ J3 (row_of_own own7) (by simp [HN.out]) (by omega) (by omega) hc7.1 hc7.2 hs3 hJ3) (fun w5 hb5 => hb4.trans (hb5.mono hb4.size)) fun w5 hb5 => ?_
      have hb5 : Below w2.heap.size w2 w5 := hb4.trans (hb5.mono hb4.size)
      clear own7 hq7 hc7 hJ3 hs3
      simp only [Act.put, List.setIfInBounds_toArray, List.set_cons_zero, List.set_cons_succ]
      refine tail_step (by rfl) fun K hK => ?_
      go_simp
      refine hK _ _ (Below.alloc hb5 hb5.size _) ?_
      clear hK K
      refine tail_call1 (v := qv J) rfl (by rfl) rfl Try.func10 (by kernel_rfl) rfl (join_new w5 _ 2 [J1, J3] _ _ J rfl rfl rfl (by decide) (by decide) (by intro q hq; simp at hq; rcases hq with rfl | rfl <;> first | exact hj1s | exact hj3s) hpart) (fun w6 hb6 => (Below.alloc hb5 hb5.size _).trans (hb6.mono (by simp; have := hb5.size; omega))) fun w6 hb6 => ?_
      have hb6 : Below w2.heap.size w2 w6 := (Below.alloc hb5 hb5.size _).trans (hb6.mono (by simp; have := hb5.size; omega))
      simp only [Act.put, List.setIfInBounds_toArray, List.set_cons_zero, List.set_cons_succ]
      refine tail_step (by rfl) fun K hK => ?_
      go_simp
      refine hK _ _ hb6 ?_
      clear hK K
      refine tail_end ?_
      have HB6 := Lib.hid (HB2.out.trans (hb6.mono HB2.out.size))
      have J6 := HJ2.out.under hb6 HJ2.out.size
      have R6 := Lib.hid ((HR2.out.below hb6).more hb6.size)
      have sj6 : J.small := by rw [← HJ.out]; exact joinQ_small qs HS0.out (by rw [HN.out]; exact hkp)
      clear HC1 HB2 HJ2 HR2 hb4 hb5 hb6 hj1s hj3s hpart HJ1 HS1 HQ0 HQS had
      go_wp2_with fail
      have J6h := Lib.hid J6
      clear J6
      have hgJ : w1.heap.size < w6.heap.size := J6h.out.size
      have hg6 : g < w6.heap.size := (R6.out.quad2 (show 0 < qs.length by rw [HN.out]; exact hkp)).1
      go_loopw [11, 12, 13, 14, 15] (fun v1 v2 v3 v4 i wx => ∃ j : Nat, j ≤ k ∧ i = .int .i64 j ∧ v1 = .bool (leftB J (qs.take j)) ∧ v2 = .bool (topB' J (qs.take j)) ∧ v3 = .bool (rightB J (qs.take j)) ∧ v4 = .bool (lowB J (qs.take j)) ∧ Below w6.heap.size w6 wx) (fun _ _ _ _ i _ => k - (intOf i).toNat)
      case atStart => exact ⟨0, Nat.zero_le _, rfl, rfl, rfl, rfl, rfl, Below.refl _ _⟩
      case round =>
        obtain ⟨j, hj, rfl, rfl, rfl, rfl, rfl, hbx⟩ := hrel
        have hsz := hbx.size
        by_cases hjk : j < k
        · have hjl : j < qs.length := by rw [HN.out]; exact hjk
          have hji : (j : Int) < (k : Int) := by omega
          have hj0 : (0 : Int) ≤ (j : Int) := by omega
          have Jx := J6h.out.under hbx hgJ
          have Rx := (R6.out.below hbx).quad2 hjl
          have hab := HIs.out.about _ (List.getElem_mem hjl)
          have hqf := HQ.out _ (List.getElem_mem hjl)
          have E1 := Lib.hid (any_take_succ (fun q => q.x == J.x) qs j hjl)
          have E2 := Lib.hid (any_take_succ (fun q => q.y == J.y) qs j hjl)
          have E3 := Lib.hid (any_take_succ (fun q => q.x + q.a == J.x + J.a) qs j hjl)
          have E4 := Lib.hid (any_take_succ (fun q => q.y + q.b == J.y + J.b) qs j hjl)
          generalize qs[j] = q at *
          obtain ⟨hmb, hmq⟩ := meet_in J q hab (by unfold Fine at hqf; omega)
          have HMJ := Lib.hid (meet_q J q true q sj6 hqf.small hmb hmq)
          obtain ⟨_, r0, r1, r2, r3⟩ := Rx
          simp only [Nat.zero_add] at r0 r1 r2 r3
          obtain ⟨j0, j1, j2, j3⟩ := Jx.four
          have HBx := Lib.hid hbx
          have hJx : w1.heap.size < wr.heap.size := by omega
          have hgx : g < wr.heap.size := by omega
          have HQF := Lib.hid hqf
          clear hbx Jx hmb hmq hab hqf hsz
          obtain ⟨f1, hf1⟩ : ∃ f, leftB J (qs.take j) = f := ⟨_, rfl⟩
          rw [hf1]
          have H1 := Lib.hid hf1
          clear hf1
          obtain ⟨f2, hf2⟩ : ∃ f, topB' J (qs.take j) = f := ⟨_, rfl⟩
          rw [hf2]
          have H2 := Lib.hid hf2
          clear hf2
          obtain ⟨f3, hf3⟩ : ∃ f, rightB J (qs.take j) = f := ⟨_, rfl⟩
          rw [hf3]
          have H3 := Lib.hid hf3
          clear hf3
          obtain ⟨f4, hf4⟩ : ∃ f, lowB J (qs.take j) = f := ⟨_, rfl⟩
          rw [hf4]
          have H4 := Lib.hid hf4
          clear hf4
          go_upto_block 3 with fail
          go_cut [11, 12, 13, 14] (fun s1 s2 s3 s4 wz => s1 = .bool (f1 || q.x == J.x) ∧ s2 = .bool (f2 || q.y == J.y) ∧ s3 = .bool (f3 || q.x + q.a == J.x + J.a) ∧ s4 = .bool (f4 || q.y + q.b == J.y + J.b) ∧ Below wr.heap.size wr wz)
          case first =>
            go_upto_region 16 with fail
            go_cut [16, 17] (fun s16 s17 wy => ∃ gm : Nat, s16 = .pointer (some ⟨gm, 0, none⟩) ∧ s17 = .bool true ∧ Whole wy gm 23 [.int .i64 q.x, .int .i64 q.y, .int .i64 q.a, .int .i64 q.b] ∧ Below wr.heap.size wr wy)
            case first =>
             as_aux_lemma =>
              go_region_held3 (fun w' => Below wr.heap.size wr w' ∧ ∀ b o, b < wr.heap.size → w'.cell? ⟨b, o, none⟩ = wr.cell? ⟨b, o, none⟩)
                (((try go_split_ands); refine (fun h => ⟨h, (bcell h).1⟩) ?_; first | assumption | exact Below.drew (Below.refl _ _) | exact Below.drew (by assumption) | exact Below.alloc hw5 hw5.size _ | exact Below.alloc (by assumption) (Below.size (by assumption)) _ | exact Below.setCell (Below.setCell (Below.setCell (Below.setCell hw5 (by simp) _) (by simp) _) (by simp) _) (by simp) _ | exact Below.setCell (Below.setCell (Below.setCell (Below.setCell (by assumption) (by first | omega | exact Below.size (by assumption)) _) (by first | omega | exact Below.size (by assumption)) _) (by first | omega | exact Below.size (by assumption)) _) (by first | omega | exact Below.size (by assumption)) _))
                (first | (go_at_call 11; refine (HMJ.out _).mono ?_; rintro e w5 ⟨rfl, hb5⟩; have hw5 : Below wr.heap.size wr w5 := (by (try go_split_ands); exact Below.trans (by assumption) (hb5.mono (Below.size (by assumption)))); obtain ⟨hc5, hf5⟩ := bcell hb5; have hz5 := hw5.size))
              all_goals
                go_wp2_with fail
                go_meet
                first | exact ⟨_, rfl, rfl, Whole.mk w5 _ _, Below.alloc hw5 hw5.size _⟩ | exact ⟨_, rfl, rfl, (Whole.under (w := (wr.alloc (.cells #[.int .i64 0, .int .i64 0, .int .i64 0, .int .i64 0] 23)).drew) (show Whole _ wr.heap.size 23 _ from Whole.mk wr 23 #[.int .i64 0, .int .i64 0, .int .i64 0, .int .i64 0]) hb5 (by first | omega | simp)).putFour _ _ _ _, below_put4 hw5 (Nat.le_refl _) _ _ _ _⟩
            case rest =>
              obtain ⟨gm, rfl, rfl, hwm, hby⟩ := hcut
              obtain ⟨m0, m1, m2, m3⟩ := hwm.four
              have y0 := (hby.cell (p := ⟨g, j * 4, none⟩) hgx).trans r0
              have y1 := (hby.cell (p := ⟨g, j * 4 + 1, none⟩) hgx).trans r1
              have y2 := (hby.cell (p := ⟨g, j * 4 + 2, none⟩) hgx).trans r2
              have y3 := (hby.cell (p := ⟨g, j * 4 + 3, none⟩) hgx).trans r3
              have z0 := (hby.cell (p := ⟨w1.heap.size, 0, none⟩) hJx).trans j0
              have z1 := (hby.cell (p := ⟨w1.heap.size, 1, none⟩) hJx).trans j1
              have z2 := (hby.cell (p := ⟨w1.heap.size, 2, none⟩) hJx).trans j2
              have z3 := (hby.cell (p := ⟨w1.heap.size, 3, none⟩) hJx).trans j3
              have HBy := Lib.hid hby
              clear r0 r1 r2 r3 j0 j1 j2 j3 hwm hby
              go_wp2_with fail
              go_quiet (fail)
              clear m0 m1 m2 m3
              have hq8 := HQF.out
              unfold Fine at hq8
              obtain ⟨⟨a0, a1⟩, ⟨a2, a3⟩, ⟨a4, a5⟩, a6, a7⟩ := hq8
              have sj7 := sj6
              obtain ⟨⟨b0, b1⟩, ⟨b2, b3⟩, ⟨b4, b5⟩, b6, b7⟩ := sj7
              have i1 := IntWalk.i64_in (q.x + q.a) (by omega)
              have i2 := IntWalk.i64_in (q.y + q.b) (by omega)
              have i3 := IntWalk.i64_in (J.x + J.a) (by omega)
              have i4 := IntWalk.i64_in (J.y + J.b) (by omega)
              go_wp2_with fail
              try simp only [List.append_eq, List.cons_append, List.nil_append]
              refine wp_region_quiet_lit (by kernel_rfl) (by kernel_rfl) ?_
              cases f1 <;> cases f2 <;> cases f3 <;> cases f4
              all_goals
                as_aux_lemma =>
                  repeat (go_big_quiet_step (fail))
                  refine wpQuiet_nil ?_
                  rintro w9 ⟨n9, rfl⟩
                  go_wp2_with fail
                  go_meet
                  first | exact ⟨by simp, by simp, by simp, by simp, below_drewN (below_drewN HBy.out _) _⟩ | exact ⟨by simp, by simp, by simp, by simp, below_drewN HBy.out _⟩
          case rest =>
            obtain ⟨rfl, rfl, rfl, rfl, hbz⟩ := hcut
            have HBz := Lib.hid (HBx.out.trans (hbz.mono HBx.out.size))
            clear hbz r0 r1 r2 r3 j0 j1 j2 j3
            go_wp2_with fail
            go_roundw
            case rel => exact ⟨j + 1, by omega, by go_num, congrArg Value.bool (by rw [← H1.out]; exact E1.out.symm), congrArg Value.bool (by rw [← H2.out]; exact E2.out.symm), congrArg Value.bool (by rw [← H3.out]; exact E3.out.symm), congrArg Value.bool (by rw [← H4.out]; exact E4.out.symm), HBz.out⟩
            case measure => simp [intOf]; omega
        · obtain rfl : j = k := by omega
          have hall := all_sides HIs.out
          have htk : qs.take j = qs := List.take_of_length_le (by rw [HN.out]; exact Nat.le_refl _)
          rw [htk, hall.1, hall.2.1, hall.2.2.1, hall.2.2.2]
          have HBx := Lib.hid (HB6.out.trans (hbx.mono HB6.out.size))
          have hji : ¬ (j : Int) < (j : Int) := by omega
          clear htk hall hbx hsz
          go_wp2_with fail
          refine (awake_any _).mono ?_; rintro e w5 ⟨rfl, hb5⟩
          have HBw := Lib.hid (HBx.out.trans (hb5.mono HBx.out.size))
          clear hb5
          go_wp2
          go_ret
          exact ⟨rfl, HBw.out⟩
end Go.Proofs.Ytinnogplnpmcmaa
