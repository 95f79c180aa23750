import Derived.Test.YteaenomfighaoaaZQ
import Derived.Test.YteaenomfighaoaaShelf
import Derived.Laws.CopyOwn
import Derived.Deep.RegionLaw
import Derived.OwnWalk
import Derived.BigRegion
/- along.margins, ahead, behind; slices.Repeat of one. -/
namespace Go.Proofs.Yteaenomfighaoaa
open Go Go.RowKit
set_option linter.unusedVariables false
set_option linter.unusedSimpArgs false
set_option maxRecDepth 20000
set_option maxHeartbeats 4000000

theorem margins_any (p : Addr) (x : Al) (zb : x.ab = true → x.b = 0) (za : x.aa = true → x.a = 0) (W : World) (d0 : W.cell? p = some (.int .i64 x.b)) (d1 : W.cell? ⟨p.block, p.off + 1, none⟩ = some (.int .i64 x.a)) (d3 : W.cell? ⟨p.block, p.off + 3, none⟩ = some (.bool x.ab)) (d4 : W.cell? ⟨p.block, p.off + 4, none⟩ = some (.bool x.aa)) :
    Calls Try.prog 13 #[.pointer (some p)] W fun e w' => e = .returned (.tuple #[.int .i64 x.b, .int .i64 x.a]) ∧ Below W.heap.size W w' := by
  have c0 : ∀ q, (W.drewN q).cell? p = some (.int .i64 x.b) := fun q => d0
  have c1 : ∀ q, (W.drewN q).cell? ⟨p.block, p.off + 1, none⟩ = some (.int .i64 x.a) := fun q => d1
  have D3 := Lib.hid d3
  have D4 := Lib.hid d4
  have ZB := Lib.hid zb
  have ZA := Lib.hid za
  clear d0 d1 d3 d4 zb za
  obtain ⟨b, hb⟩ : ∃ b, x.b = b := ⟨_, rfl⟩
  obtain ⟨a, ha⟩ : ∃ a, x.a = a := ⟨_, rfl⟩
  rw [hb] at c0 ZB ⊢
  rw [ha] at c1 ZA ⊢
  clear hb ha
  go_enter Try.func13, Try.ntmps13
  go_upto_region 1 with fail
  go_quiet (fail)
  have d3 : (W.drewN nq).cell? ⟨p.block, p.off + 3, none⟩ = some (.bool x.ab) := D3.out
  have d4 : (W.drewN nq).cell? ⟨p.block, p.off + 4, none⟩ = some (.bool x.aa) := D4.out
  have B := Lib.hid (Below.drewN' (Below.refl W.heap.size W) nq)
  clear c0 c1 D3 D4
  generalize W.drewN nq = w1 at *
  obtain ⟨ab, hab⟩ : ∃ b, x.ab = b := ⟨_, rfl⟩
  obtain ⟨aa, haa⟩ : ∃ b, x.aa = b := ⟨_, rfl⟩
  rw [hab] at d3 ZB
  rw [haa] at d4 ZA
  clear hab haa
  cases ab with
  | true =>
    obtain rfl := ZB.out rfl
    cases aa with
    | true =>
      obtain rfl := ZA.out rfl
      go_wp2_with fail
      go_ret2
      exact ⟨rfl, B.out⟩
    | false =>
      go_wp2_with fail
      go_ret2
      exact ⟨rfl, B.out⟩
  | false =>
    cases aa with
    | true =>
      obtain rfl := ZA.out rfl
      go_wp2_with fail
      go_ret2
      exact ⟨rfl, B.out⟩
    | false =>
      go_wp2_with fail
      go_ret2
      exact ⟨rfl, B.out⟩
theorem ahead_any (i : Nat) (hi : i ≤ 1000000) (W : World) : Calls Try.prog 15 #[.int .i64 i] W fun e w' => e = .returned (.int .i64 ((2 * i : Nat) : Int)) ∧ W = w' := by
  go_enter Try.func15, Try.ntmps15
  go_wp2_with fail
  go_ret
  exact ⟨ret_int (by omega), rfl⟩
theorem behind_any (i : Nat) (hi : i ≤ 1000000) (W : World) : Calls Try.prog 19 #[.int .i64 i] W fun e w' => e = .returned (.int .i64 ((2 * i + 1 : Nat) : Int)) ∧ W = w' := by
  go_enter Try.func19, Try.ntmps19
  go_wp2_with fail
  go_ret
  exact ⟨ret_int (by omega), rfl⟩

/-! ### slices.Repeat of one -/
theorem rowG_whole {w : World} {B : Nat} {e : TypeId} {g n : Nat} {xs : List Value} (h : RowG w B e g n xs) (hx : xs.length = n) : Whole w g e xs := by
  rcases h.2 with ⟨h0, -⟩ | ⟨g', cap, cur, hv, -, hg, -, -, hs, ht⟩
  · cases h0
  · injection hv with h1 h2 h3
    injection h1 with h1
    injection h1 with h1
    subst h1 h3
    rw [Nat.mul_one] at hs ht
    rw [← ht, List.take_of_length_le (by rw [Array.length_toList]; omega)]
    exact hg
theorem splice_rep {α : Type} (o z : α) {m k q : Nat} (h : k + q ≤ m) : splice (List.replicate k o ++ List.replicate (m - k) z) k (List.replicate q o) = List.replicate (k + q) o ++ List.replicate (m - (k + q)) z := by
  unfold splice
  rw [List.take_append_of_le_length (by simp), List.length_replicate, List.take_of_length_le (by simp), List.drop_append, List.length_replicate, List.drop_of_length_le (by simp), List.nil_append, List.drop_replicate, ← List.append_assoc, List.replicate_append_replicate]
  rw [show k + q - k = q by omega, show m - k - q = m - (k + q) by omega]
def repV (m k : Nat) : List Value := List.replicate k (.int .i64 1) ++ List.replicate (m - k) (.int .i64 0)
theorem repV_len {m k : Nat} (h : k ≤ m) : (repV m k).length = m := by simp [repV]; omega
theorem repV_zero (m : Nat) : repV m 0 = List.replicate m (.int .i64 0) := by simp [repV]
theorem repV_all (m : Nat) : repV m m = i64s (onesA m) := by simp [repV, i64s, onesA]
theorem repV_get {m k j : Nat} (h : j < k) : (repV m k)[j]? = some (.int .i64 1) := by
  unfold repV; rw [List.getElem?_append_left (by simpa using h)]; simp [h]
theorem repeat_any (gs m : Nat) (hm : m ≤ 1000000) (W : World) (hS : Whole W gs 2 [.int .i64 1]) :
    Calls Try.prog 33 #[.slice (some ⟨gs, 0, none⟩) 1 1, .int .i64 m] W fun e w' => ∃ A c, e = .returned (.slice A m c) ∧ Row w' w'.heap.size A (i64s (onesA m)) ∧ Below W.heap.size W w' := by
  have HM := Lib.hid (fun w => Try.bits_Mul 1 m (by omega) (by omega) w)
  rw [Nat.one_mul, Nat.div_eq_of_lt (by omega), Nat.mod_eq_of_lt (by omega)] at HM
  have hgs := hS.size
  have HS := Lib.hid hS
  clear hS
  obtain ⟨i0, hi0, hz0, hz1, hz2⟩ := info_parts (show (Try.prog.info? 2).map (fun i => (i.zero, i.size, i.bytes)) = some (some (.int .i64 0), 1, 8) from by kernel_rfl)
  have e1 : IntKind.u64.wrap (m : Int) = m := by rw [IntKind.wrap_u64]; omega
  go_enter Try.func33, Try.ntmps33
  go_wp2_with fail
  refine (HM.out _).mono ?_
  rintro e w1 ⟨rfl, rfl⟩
  go_upto_region 7 with (at_make; refine wpList_make_full _ rfl _ _ 24 rfl w1.heap.size 2 i0 (.int .i64 0) 1 Try.underlying24 hi0 hz0 hz1 .i64 .i64 _ _ m rfl rfl (by omega) (by omega) (by rw [hz2]; omega) (by unfold maxLen; omega) (Nat.le_refl _) ?_; intro w2 q1 q2; have O1 := Lib.hid q1; have G1 := Lib.hid (Only.of_grown q2); clear q1 q2)
  have GR : Hid (RowG w2 w1.heap.size 2 w1.heap.size m (repV m 0)) := Lib.hid (by
    have e1 : (madeCells (Value.int .i64 0).cells (m * 1)).toList = List.replicate m (Value.int .i64 0) := by rw [Nat.mul_one]; exact toList_madeCells_one _ _
    have o := O1.out
    rw [e1, ← repV_zero] at o
    exact o)
  have BW : Hid (Below w1.heap.size w1 w2) := Lib.hid ((Below.refl _ _).trans (G1.out.below (by simp) (Nat.le_refl _)))
  have X0 : Hid (Whole w2 w1.heap.size 2 (repV m 0)) := Lib.hid (rowG_whole GR.out (repV_len (Nat.zero_le _)))
  have S0 := Lib.hid (HS.out.under BW.out hgs)
  clear O1 G1 GR HM hi0 hz0 hz1 hz2 e1
  obtain ⟨g, hg⟩ : ∃ g, w1.heap.size = g := ⟨_, rfl⟩
  rw [hg] at X0 BW hgs ⊢
  have HG := Lib.hid hg
  clear hg
  obtain ⟨k, hk⟩ : ∃ k, min 1 m = k := ⟨_, rfl⟩
  have hk2 : k ≤ m ∧ (0 < m → 0 < k) := by omega
  have HK : Hid (k = Nat.min 1 m) := Lib.hid hk.symm
  have RL := Lib.hid (splice_rep (α := Value) (.int .i64 1) (.int .i64 0) (m := m) (k := 0) (q := k) (by omega))
  have HX : Hid (∀ j v, (List.replicate k (Value.int .i64 1))[j]? = some v → w2.cell? ((⟨gs, 0, none⟩ : Addr).add j) = some v) := Lib.hid (fun j v hj => by
    have hjq : j < k := by
      rcases Nat.lt_or_ge j k with h | h
      · exact h
      · rw [List.getElem?_eq_none (by simpa using h)] at hj; cases hj
    obtain rfl : j = 0 := by omega
    rw [head_add]
    have h := S0.out.cell 0
    rw [List.getElem?_eq_getElem (by simpa using hjq), List.getElem_replicate] at hj
    rw [← hj]; exact h)
  go_upto_region 8 with (refine wpList_copy_splice rfl (.tmp 31) (.tmp 32) 24 24 rfl 2 Try.underlying24 (by kernel_rfl) (some ⟨g, 0, none⟩) (some ⟨gs, 0, none⟩) m m 1 1 rfl rfl g 0 (repV m 0) 2 X0.out (List.replicate k (.int .i64 1)) (by rw [List.length_replicate]; exact HK.out) (fun h => ⟨rfl, _, rfl, HX.out⟩) (by rw [List.length_replicate, repV_len (Nat.zero_le _)]; omega) (by intro v hv; rw [List.eq_of_mem_replicate hv]; rfl) g w1 BW.out (Nat.le_refl _) ?_; intro w3 q1 q2)
  have X1 : Hid (Whole w3 g 2 (repV m k)) := Lib.hid (by
    have h := q1.out
    have e : splice (repV m 0) 0 (List.replicate k (.int .i64 1)) = repV m k := by
      have := RL.out
      rw [Nat.zero_add] at this
      exact this
    rw [e] at h
    exact h)
  have B1 := Lib.hid q2
  clear q1 q2 X0 BW S0 RL hgs HS HX
  clear hk
  go_wp2_with fail
  go_loopw [8] (fun v8 wr => ∃ k : Nat, v8 = .int .i64 k ∧ k ≤ m ∧ (0 < m → 0 < k) ∧ Hid (Whole wr g 2 (repV m k)) ∧ Hid (Below g w1 wr)) (fun v8 _ => m - (intOf v8).toNat)
  case atStart => exact ⟨k, rfl, hk2.1, hk2.2, X1, B1⟩
  case round =>
    clear X1 B1 hk2
    obtain ⟨k, rfl, hk, hk2, X1, B1⟩ := hrel
    by_cases hlt : k < m
    · have hltz : (k : Int) < m := by omega
      obtain ⟨q, hq⟩ : ∃ q, min k (m - k) = q := ⟨_, rfl⟩
      have RL := Lib.hid (splice_rep (α := Value) (.int .i64 1) (.int .i64 0) (m := m) (k := k) (q := q) (by omega))
      have HK : Hid (q = Nat.min k (m - k)) := Lib.hid hq.symm
      have hk0 : 0 < k := hk2 (by omega)
      have hq2 : q ≤ k ∧ q ≤ m - k ∧ 0 < q := by omega
      have hmk : ¬ m = k := by omega
      have HXX : Hid (∀ w, Whole w g 2 (repV m k) → ∀ j v, (List.replicate q (Value.int .i64 1))[j]? = some v → w.cell? ((⟨g, 0, none⟩ : Addr).add j) = some v) := Lib.hid (fun w hw j v hj => by
        have hjq : j < q := by
          rcases Nat.lt_or_ge j q with h | h
          · exact h
          · rw [List.getElem?_eq_none (by simpa using h)] at hj; cases hj
        rw [head_add]
        have h := hw.cell j
        rw [repV_get (by omega)] at h
        rw [List.getElem?_eq_getElem (by simpa using hjq), List.getElem_replicate] at hj
        rw [← hj]; exact h)
      go_upto_region 9 with fail
      refine region_lane [0, 1, 2, 4, 5] [3, 6] [7, 8, 9] (by kernel_rfl) (by kernel_rfl) (by intro _ _ _ _ _ h; exact h) ?_
      simp only [pick, List.map_cons, List.map_nil, List.getD_cons_zero, List.getD_cons_succ, List.drop_succ_cons, List.drop_zero]
      repeat (go_big_quiet_step (fail))
      refine wpQuiet_nil ⟨rfl, ?_⟩
      refine laneO_fixed (v := .slice (some ⟨g, k, none⟩) (m - k) (m - k)) (by kernel_rfl) (fun w hw => .inl ⟨by rfl, by unfold gives; simp [go_sem, hk, hmk]; exact Behind.refl _⟩) ?_
      simp only [Act.put, List.setIfInBounds_toArray, List.set_cons_zero, List.set_cons_succ]
      refine laneO_fixed (v := .slice (some ⟨g, 0, none⟩) k m) (by kernel_rfl) (fun w hw => .inl ⟨by rfl, by unfold gives; simp [go_sem, hk]; exact Behind.refl _⟩) ?_
      simp only [Act.put, List.setIfInBounds_toArray, List.set_cons_zero, List.set_cons_succ]
      refine laneO_end0 rfl rfl fun w4 hb4 => ?_
      have X4 := Lib.hid (X1.out.under hb4 X1.out.size)
      have B4 := Lib.hid (B1.out.trans (hb4.mono (Nat.le_of_lt X1.out.size)))
      have HX := Lib.hid (HXX.out w4 X4.out)
      clear X1 B1 hb4
      go_wp2_with (refine wpList_copy_splice rfl (.tmp 41) (.tmp 44) 24 24 rfl 2 Try.underlying24 (by kernel_rfl) (some ⟨g, k, none⟩) (some ⟨g, 0, none⟩) (m - k) (m - k) k m rfl rfl g k (repV m k) 2 X4.out (List.replicate q (.int .i64 1)) (by rw [List.length_replicate]; exact HK.out) (fun h => ⟨rfl, _, rfl, HX.out⟩) (by rw [List.length_replicate, repV_len hk]; omega) (by intro v hv; rw [List.eq_of_mem_replicate hv]; rfl) g w1 B4.out (Nat.le_refl _) ?_; intro w3 q1 q2)
      have X2 : Hid (Whole w3 g 2 (repV m (k + q))) := Lib.hid (by
        have h := q1.out
        have e : splice (repV m k) k (List.replicate q (.int .i64 1)) = repV m (k + q) := RL.out
        rw [e] at h
        exact h)
      have B2 := Lib.hid q2
      clear q1 q2 X4 B4 RL HX HXX HK hq
      go_wp2_with fail
      go_roundw
      case rel => exact ⟨k + q, by go_num, by omega, fun _ => by omega, X2, B2⟩
      case measure => simp [intOf] <;> omega
    · obtain rfl : k = m := by omega
      have hltz : ¬ (k : Int) < k := by omega
      have RR : Row wr wr.heap.size (some ⟨g, 0, none⟩) (i64s (onesA k)) := fun hne => ⟨_, rfl, X1.out.size, fun i hi => by
        rw [head_add]
        have h := X1.out.cell i
        rw [repV_all] at h
        exact h.trans (List.getElem?_eq_getElem hi)⟩
      have R := Lib.hid RR
      clear RR
      go_wp2_with fail
      go_ret
      exact ⟨_, ⟨_, rfl⟩, R.out, HG.out ▸ B1.out⟩
end Go.Proofs.Yteaenomfighaoaa
