import Derived.Test.YtnhhalhaefeoeaaStak
/- quoinlaw16: awake answers true; Same; Tame. -/
namespace Go.Proofs.Ytnhhalhaefeoeaa
open Go Go.RowKit
set_option linter.unusedVariables false
set_option linter.unusedSimpArgs false
set_option maxRecDepth 20000
set_option maxHeartbeats 4000000

theorem fone_any (n : Int) (W : World) : Calls Try.prog 13 #[.int .i64 n] W fun e w' => e = .returned (.agg #[.int .i64 (max n 0), .int .i64 (min n 0)]) ∧ Below W.heap.size W w' := by
  go_enter Try.func13, Try.ntmps13
  go_wp2
  exact cells_end (n := 2) fd_flat rfl W.heap.size rfl [.int .i64 (max n 0), .int .i64 (min n 0)] rfl 25 (Whole.mk W 25 #[.int .i64 (max n 0), .int .i64 (min n 0)]) rfl ⟨rfl, ((Below.refl _ _).alloc (Nat.le_refl _) _)⟩
theorem fone_num (n p q : Int) (hp : max n 0 = p) (hq : min n 0 = q) (W : World) : Calls Try.prog 13 #[.int .i64 n] W fun e w' => e = .returned (.agg #[.int .i64 p, .int .i64 q]) ∧ Below W.heap.size W w' := by
  subst hp hq
  exact fone_any n W
def ld3 : List Ld := [⟨10, ⟨5, 0⟩, ⟨8, 0⟩, false⟩, ⟨0, ⟨3, 0⟩, ⟨20, 0⟩, true⟩, ⟨4, ⟨0, -6⟩, ⟨7, 0⟩, false⟩]
theorem ld3_ok : ∀ x ∈ ld3, LdOk x := by
  intro x hx
  simp only [ld3, List.mem_cons, List.not_mem_nil, or_false] at hx
  rcases hx with rfl | rfl | rfl <;> exact ⟨by decide, by decide, by decide, by decide, by decide, by decide, by decide, by decide, by decide, by decide, by decide⟩
abbrev ld3C : Array Value := #[.int .i64 10, .int .i64 5, .int .i64 0, .int .i64 8, .int .i64 0, .bool false, .int .i64 0, .int .i64 3, .int .i64 0, .int .i64 20, .int .i64 0, .bool true, .int .i64 4, .int .i64 0, .int .i64 (-6), .int .i64 7, .int .i64 0, .bool false]
/-- Three places of one's own, as the walk reads them. -/
def Three (w : World) (g : Nat) (a b c : Int) : Prop := g < w.heap.size ∧ w.cell? ⟨g, 0, none⟩ = some (.int .i64 a) ∧ w.cell? ⟨g, 1, none⟩ = some (.int .i64 b) ∧ w.cell? ⟨g, 2, none⟩ = some (.int .i64 c)
theorem Three.below {w w' : World} {g : Nat} {a b c : Int} (h : Three w g a b c) (hb : Below w.heap.size w w') : Three w' g a b c :=
  ⟨Nat.lt_of_lt_of_le h.1 hb.size, (hb.cell (p := ⟨g, 0, none⟩) h.1).trans h.2.1, (hb.cell (p := ⟨g, 1, none⟩) h.1).trans h.2.2.1, (hb.cell (p := ⟨g, 2, none⟩) h.1).trans h.2.2.2⟩
theorem three_of {w : World} {B : Nat} {A : Option Addr} {c : Nat} {x y z : Int} (h : w.ownsRow B 2 1 (.slice A 3 c) 3 (i64s [x, y, z])) : ∃ g, A = some ⟨g, 0, none⟩ ∧ 3 ≤ c ∧ Three w g x y z := by
  obtain ⟨g, c', e, hc, -, hg⟩ := owns_some h (by decide)
  injection e with e1 _ e2
  subst e1 e2
  exact ⟨g, rfl, hc, hg, h.cellAt 0 (by decide), h.cellAt 1 (by decide), h.cellAt 2 (by decide)⟩
theorem stack3 (top bottom : Bool) (x y z : Int) (v : Value) (hv : sdV (endS (runS (startS top) ld3) bottom) = v) (ha : atL (startS top) ld3 = [x, y, z]) (g0 c : Nat) (w : World) (hR : Row w w.heap.size (some ⟨g0, 0, none⟩) ld3C.toList) :
    Calls Try.prog 10 #[.slice (some ⟨g0, 0, none⟩) 3 c, .bool top, .bool bottom] w fun e w' => ∃ g c', e = .returned (.tuple #[.slice (some ⟨g, 0, none⟩) 3 c', v]) ∧ 3 ≤ c' ∧ Three w' g x y z ∧ Below w.heap.size w w' := by
  refine (stack_any ld3 (by decide) ld3_ok (some ⟨g0, 0, none⟩) c top bottom w (by simpa [ld3, ldC] using hR)).mono ?_
  rintro e w' ⟨A', c', rfl, ho, hb⟩
  rw [ha] at ho
  obtain ⟨g, rfl, hc, h3⟩ := three_of ho
  exact ⟨g, c', by rw [hv]; rfl, hc, h3, hb⟩
theorem kawake_any (W : World) : Calls Try.prog 9 #[] W fun e w' => e = .returned (.bool true) ∧ Below W.heap.size W w' := by
  have S1 := Lib.hid (fun g0 c w hR => stack3 true true 0 18 24 (.agg #[.int .i64 5, .int .i64 0, .int .i64 7, .int .i64 0, .bool false, .int .i64 28]) (by kernel_rfl) (by kernel_rfl) g0 c w hR)
  have S2 := Lib.hid (fun g0 c w hR => stack3 false false 5 23 29 (.agg #[.int .i64 0, .int .i64 0, .int .i64 0, .int .i64 0, .bool false, .int .i64 40]) (by kernel_rfl) (by kernel_rfl) g0 c w hR)
  have S3 := Lib.hid (fun w => stack_any [] (by decide) (by simp) none 0 true true w (Row.nil _ _ _))
  rw [show sdV (endS (runS (startS true) []) true) = .agg #[.int .i64 0, .int .i64 0, .int .i64 0, .int .i64 0, .bool true, .int .i64 0] by kernel_rfl] at S3
  go_enter Try.func9, Try.ntmps9
  go_wp2_with fail
  refine (fone_num (5) 5 0 rfl rfl _).mono ?_
  rintro e w1 ⟨rfl, hb⟩
  have B1 := Lib.hid (hb)
  clear hb
  go_wp2_with fail
  refine (fone_num (8) 8 0 rfl rfl _).mono ?_
  rintro e w2 ⟨rfl, hb⟩
  have B2 := Lib.hid (B1.out.trans (hb.mono B1.out.size))
  clear hb B1
  go_wp2_with fail
  refine (fone_num (3) 3 0 rfl rfl _).mono ?_
  rintro e w3 ⟨rfl, hb⟩
  have B3 := Lib.hid (B2.out.trans (hb.mono B2.out.size))
  clear hb B2
  go_wp2_with fail
  refine (fone_num (20) 20 0 rfl rfl _).mono ?_
  rintro e w4 ⟨rfl, hb⟩
  have B4 := Lib.hid (B3.out.trans (hb.mono B3.out.size))
  clear hb B3
  go_wp2_with fail
  refine (fone_num (-6) 0 (-6) rfl rfl _).mono ?_
  rintro e w5 ⟨rfl, hb⟩
  have B5 := Lib.hid (B4.out.trans (hb.mono B4.out.size))
  clear hb B4
  go_wp2_with fail
  refine (fone_num (7) 7 0 rfl rfl _).mono ?_
  rintro e w6 ⟨rfl, hb⟩
  have B6 := Lib.hid (B5.out.trans (hb.mono B5.out.size))
  clear hb B5
  have B7 := Lib.hid (B6.out.alloc B6.out.size (.cells ld3C 27))
  have R7 := Lib.hid ((row_new w6 ld3C 27).more (B' := (w6.alloc (.cells ld3C 27)).heap.size) (by simp))
  clear B6
  go_wp2_with fail
  refine (S1.out _ _ _ R7.out).mono ?_
  rintro e w7 ⟨g1, c1, rfl, l1, T7, hb⟩
  have B8 := Lib.hid ((B7.out.trans (hb.mono B7.out.size)).alloc (by have := hb.size; have := B7.out.size; omega) (.cells #[.int .i64 5, .int .i64 0, .int .i64 7, .int .i64 0, .bool false, .int .i64 28] 31))
  have R8 := Lib.hid ((((R7.out.below hb).more hb.size).below (w' := w7.alloc (.cells #[.int .i64 5, .int .i64 0, .int .i64 7, .int .i64 0, .bool false, .int .i64 28] 31)) ((Below.refl _ w7).alloc (Nat.le_refl _) _)).more (B' := (w7.alloc (.cells #[.int .i64 5, .int .i64 0, .int .i64 7, .int .i64 0, .bool false, .int .i64 28] 31)).heap.size) (by simp))
  have V8 := Lib.hid (Whole.mk w7 31 #[.int .i64 5, .int .i64 0, .int .i64 7, .int .i64 0, .bool false, .int .i64 28])
  have T8 := Lib.hid (T7.below ((Below.refl _ w7).alloc (Nat.le_refl _) (.cells #[.int .i64 5, .int .i64 0, .int .i64 7, .int .i64 0, .bool false, .int .i64 28] 31)))
  clear hb R7 B7 T7 S1
  go_upto_region 4 with fail
  generalize w7.alloc _ = u8 at *
  generalize w7.heap.size = s1 at *
  go_wp2_with fail
  refine (S2.out _ _ _ R8.out).mono ?_
  rintro e w9 ⟨g2, c2, rfl, l2, T9, hb⟩
  have B9 := Lib.hid ((B8.out.trans (hb.mono B8.out.size)).alloc (by have := hb.size; have := B8.out.size; omega) (.cells #[.int .i64 0, .int .i64 0, .int .i64 0, .int .i64 0, .bool false, .int .i64 40] 31))
  have V9 := Lib.hid ((V8.out.under hb V8.out.size).made (.cells #[.int .i64 0, .int .i64 0, .int .i64 0, .int .i64 0, .bool false, .int .i64 40] 31))
  have T1 := Lib.hid ((T8.out.below hb).below ((Below.refl _ w9).alloc (Nat.le_refl _) (.cells #[.int .i64 0, .int .i64 0, .int .i64 0, .int .i64 0, .bool false, .int .i64 40] 31)))
  have T2 := Lib.hid (T9.below ((Below.refl _ w9).alloc (Nat.le_refl _) (.cells #[.int .i64 0, .int .i64 0, .int .i64 0, .int .i64 0, .bool false, .int .i64 40] 31)))
  have U9 := Lib.hid (Whole.mk w9 31 #[.int .i64 0, .int .i64 0, .int .i64 0, .int .i64 0, .bool false, .int .i64 40])
  clear hb R8 B8 T8 S2 V8 T9
  go_upto_region 5 with fail
  generalize w9.alloc _ = u10 at *
  generalize w9.heap.size = s2 at *
  go_wp2_with fail
  refine (S3.out _).mono ?_
  rintro e w11 ⟨A3, c3, rfl, -, hb⟩
  have B11 := Lib.hid ((B9.out.trans (hb.mono B9.out.size)).alloc (by have := hb.size; have := B9.out.size; omega) (.cells #[.int .i64 0, .int .i64 0, .int .i64 0, .int .i64 0, .bool true, .int .i64 0] 31))
  have V1 := Lib.hid ((V9.out.under hb V9.out.size).made (.cells #[.int .i64 0, .int .i64 0, .int .i64 0, .int .i64 0, .bool true, .int .i64 0] 31))
  have V2 := Lib.hid ((U9.out.under hb U9.out.size).made (.cells #[.int .i64 0, .int .i64 0, .int .i64 0, .int .i64 0, .bool true, .int .i64 0] 31))
  have Q1 := Lib.hid ((T1.out.below hb).below ((Below.refl _ w11).alloc (Nat.le_refl _) (.cells #[.int .i64 0, .int .i64 0, .int .i64 0, .int .i64 0, .bool true, .int .i64 0] 31)))
  have Q2 := Lib.hid ((T2.out.below hb).below ((Below.refl _ w11).alloc (Nat.le_refl _) (.cells #[.int .i64 0, .int .i64 0, .int .i64 0, .int .i64 0, .bool true, .int .i64 0] 31)))
  have V3 := Lib.hid (Whole.mk w11 31 #[.int .i64 0, .int .i64 0, .int .i64 0, .int .i64 0, .bool true, .int .i64 0])
  clear hb B9 T1 T2 S3 V9 U9
  go_upto_region 6 with fail
  generalize w11.alloc _ = w0 at *
  generalize w11.heap.size = s3 at *
  have Y10 : ∀ t : Later w0.heap.size w0, t.w.cell? ⟨g1, 0, none⟩ = some (.int .i64 0) := fun t => (Q1.out.below t.h).2.1
  have Y11 : ∀ t : Later w0.heap.size w0, t.w.cell? ⟨g1, 1, none⟩ = some (.int .i64 18) := fun t => (Q1.out.below t.h).2.2.1
  have Y12 : ∀ t : Later w0.heap.size w0, t.w.cell? ⟨g1, 2, none⟩ = some (.int .i64 24) := fun t => (Q1.out.below t.h).2.2.2
  have Y20 : ∀ t : Later w0.heap.size w0, t.w.cell? ⟨g2, 0, none⟩ = some (.int .i64 5) := fun t => (Q2.out.below t.h).2.1
  have Y22 : ∀ t : Later w0.heap.size w0, t.w.cell? ⟨g2, 2, none⟩ = some (.int .i64 29) := fun t => (Q2.out.below t.h).2.2.2
  
  refine region_lane [] (List.range 57) [57] (by kernel_rfl) (by kernel_rfl) (fun _ _ _ _ _ h => h) ?_
  simp only [pick, List.map_nil]
  refine wpQuiet_nil ⟨rfl, ?_⟩
  rw [show List.range 57 = [0, 1, 2, 3, 4, 5, 6, 7, 8, 9, 10, 11, 12, 13, 14, 15, 16, 17, 18, 19, 20, 21, 22, 23, 24, 25, 26, 27, 28, 29, 30, 31, 32, 33, 34, 35, 36, 37, 38, 39, 40, 41, 42, 43, 44, 45, 46, 47, 48, 49, 50, 51, 52, 53, 54, 55, 56] from rfl]
  simp only [List.map_cons, List.map_nil, List.getD_cons_zero, List.getD_cons_succ, List.drop_succ_cons, List.drop_zero]
  refine laneO_run 1 (by kernel_rfl) ?_
  simp only [List.take_succ_cons, List.take_zero, List.drop_succ_cons, List.drop_zero]
  repeat (go_big_quiet_step (fail))
  refine wpQuiet_nil ?_
  refine laneO_fixed (v := .int .i64 3) (by kernel_rfl) (fun w hw => .inl ⟨by rfl, ?_⟩) ?_
  focus (unfold gives; simp [go_sem]; exact Behind.refl w)
  simp only [Act.put, List.setIfInBounds_toArray, List.set_cons_zero, List.set_cons_succ]
  refine laneO_run 20 (by kernel_rfl) ?_
  simp only [List.take_succ_cons, List.take_zero, List.drop_succ_cons, List.drop_zero]
  repeat (go_big_quiet_step (fail))
  refine wpQuiet_nil ?_
  refine laneO_fixed (v := .agg #[.int .i64 5, .int .i64 0, .int .i64 7, .int .i64 0, .bool false, .int .i64 28]) (by kernel_rfl) (fun w hw => .inl ⟨by rfl, cells_gives sd_flat (.tmp 4) rfl _ rfl [.int .i64 5, .int .i64 0, .int .i64 7, .int .i64 0, .bool false, .int .i64 28] rfl 31 (V1.out.under hw V1.out.size)⟩) ?_
  simp only [Act.put, List.setIfInBounds_toArray, List.set_cons_zero, List.set_cons_succ]
  refine laneO_run 1 (by kernel_rfl) ?_
  simp only [List.take_succ_cons, List.take_zero, List.drop_succ_cons, List.drop_zero]
  repeat (go_big_quiet_step (fail))
  refine wpQuiet_nil ?_
  refine laneO_call (v := (.agg #[.int .i64 5, .int .i64 0])) (by kernel_rfl) (by rfl) (fun C hC h0 => ?_) ?_
  focus (go_big_quiet_op; exact ⟨_, fun w hw => (fone_num 5 5 0 rfl rfl w).mono fun e w' ⟨he, hb⟩ => ⟨he, hC _ _ hw hb⟩, rfl⟩)
  simp only [Act.put, List.setIfInBounds_toArray, List.set_cons_zero, List.set_cons_succ]
  refine laneO_run 1 (by kernel_rfl) ?_
  simp only [List.take_succ_cons, List.take_zero, List.drop_succ_cons, List.drop_zero]
  repeat (go_big_quiet_step (fail))
  refine wpQuiet_nil ?_
  refine laneO_call (v := (.agg #[.int .i64 7, .int .i64 0])) (by kernel_rfl) (by rfl) (fun C hC h0 => ?_) ?_
  focus (go_big_quiet_op; exact ⟨_, fun w hw => (fone_num 7 7 0 rfl rfl w).mono fun e w' ⟨he, hb⟩ => ⟨he, hC _ _ hw hb⟩, rfl⟩)
  simp only [Act.put, List.setIfInBounds_toArray, List.set_cons_zero, List.set_cons_succ]
  refine laneO_fixed (v := .agg #[.int .i64 5, .int .i64 0, .int .i64 7, .int .i64 0, .bool false, .int .i64 28]) (by kernel_rfl) (fun w hw => .inl ⟨by rfl, built_gives _ _ rfl _ (by kernel_rfl)⟩) ?_
  simp only [Act.put, List.setIfInBounds_toArray, List.set_cons_zero, List.set_cons_succ]
  refine laneO_run 4 (by kernel_rfl) ?_
  simp only [List.take_succ_cons, List.take_zero, List.drop_succ_cons, List.drop_zero]
  repeat (go_big_quiet_step (fail))
  refine wpQuiet_nil ?_
  refine laneO_fixed (v := .int .i64 3) (by kernel_rfl) (fun w hw => .inl ⟨by rfl, ?_⟩) ?_
  focus (unfold gives; simp [go_sem]; exact Behind.refl w)
  simp only [Act.put, List.setIfInBounds_toArray, List.set_cons_zero, List.set_cons_succ]
  refine laneO_run 15 (by kernel_rfl) ?_
  simp only [List.take_succ_cons, List.take_zero, List.drop_succ_cons, List.drop_zero]
  repeat (go_big_quiet_step (fail))
  refine wpQuiet_nil ?_
  refine laneO_fixed (v := .agg #[.int .i64 0, .int .i64 0, .int .i64 0, .int .i64 0, .bool false, .int .i64 40]) (by kernel_rfl) (fun w hw => .inl ⟨by rfl, cells_gives sd_flat (.tmp 6) rfl _ rfl [.int .i64 0, .int .i64 0, .int .i64 0, .int .i64 0, .bool false, .int .i64 40] rfl 31 (V2.out.under hw V2.out.size)⟩) ?_
  simp only [Act.put, List.setIfInBounds_toArray, List.set_cons_zero, List.set_cons_succ]
  refine laneO_fixed (v := .agg #[.int .i64 0, .int .i64 0, .int .i64 0, .int .i64 0, .bool false, .int .i64 40]) (by kernel_rfl) (fun w hw => .inl ⟨by rfl, built_gives _ _ rfl _ (by kernel_rfl)⟩) ?_
  simp only [Act.put, List.setIfInBounds_toArray, List.set_cons_zero, List.set_cons_succ]
  refine laneO_run 3 (by kernel_rfl) ?_
  simp only [List.take_succ_cons, List.take_zero, List.drop_succ_cons, List.drop_zero]
  repeat (go_big_quiet_step (fail))
  refine wpQuiet_nil ?_
  refine laneO_fixed (v := .agg #[.int .i64 0, .int .i64 0, .int .i64 0, .int .i64 0, .bool true, .int .i64 0]) (by kernel_rfl) (fun w hw => .inl ⟨by rfl, cells_gives sd_flat (.tmp 8) rfl _ rfl [.int .i64 0, .int .i64 0, .int .i64 0, .int .i64 0, .bool true, .int .i64 0] rfl 31 (V3.out.under hw V3.out.size)⟩) ?_
  simp only [Act.put, List.setIfInBounds_toArray, List.set_cons_zero, List.set_cons_succ]
  refine laneO_fixed (v := .agg #[.int .i64 0, .int .i64 0, .int .i64 0, .int .i64 0, .bool true, .int .i64 0]) (by kernel_rfl) (fun w hw => .inl ⟨by rfl, built_gives _ _ rfl _ (by kernel_rfl)⟩) ?_
  simp only [Act.put, List.setIfInBounds_toArray, List.set_cons_zero, List.set_cons_succ]
  refine laneO_run 2 (by kernel_rfl) ?_
  simp only [List.take_succ_cons, List.take_zero, List.drop_succ_cons, List.drop_zero]
  repeat (go_big_quiet_step (fail))
  refine wpQuiet_nil ?_
  refine laneO_end0 rfl rfl fun w12 hb0 => ?_
  clear Y10 Y11 Y12 Y20 Y22 V1 V2 V3 Q1 Q2
  go_wp2_with fail
  go_ret
  exact ⟨rfl, B11.out.trans (hb0.mono B11.out.size)⟩
theorem ksame_any (A B : Option Addr) (c d n : Nat) (zs : List Int) (w : World) (C D : Nat) (hr : Row w C A (i64s zs)) (hs : Row w D B (i64s zs)) (hn : zs.length = n) (hm : n ≤ 9223372036854775807) :
    Calls Try.prog 12 #[.slice A n c, .slice B n d] w fun e w' => e = .returned (.bool true) ∧ ∃ k, w' = w.drewN k := by
  have HN := Lib.hid hn
  clear hn
  go_enter Try.func12, Try.ntmps12
  go_wp2
  go_loopw [5] (fun i wr => ∃ k q : Nat, k ≤ n ∧ i = .int .i64 k ∧ wr = w.drewN q) (fun i _ => n - (intOf i).toNat)
  case atStart => exact ⟨0, 0, Nat.zero_le _, rfl, rfl⟩
  case round =>
    obtain ⟨k, q, hk, rfl, rfl⟩ := hrel
    by_cases hlt : k < n
    · obtain ⟨ad, rfl, _, hc⟩ := hr.int (show k < zs.length by rw [HN.out]; exact hlt)
      obtain ⟨ae, rfl, _, hd⟩ := hs.int (show k < zs.length by rw [HN.out]; exact hlt)
      clear hr hs
      generalize zs[k]'_ = z at *
      have hlt' : (k : Int) < (n : Int) := by omega
      go_wp2
      go_quiet (fail)
      go_wp2
      go_roundw
      case rel => exact ⟨k + 1, _, by omega, by go_num, rfl⟩
      case measure => simp [intOf]; omega
    · go_wp2
      go_ret
      exact ⟨rfl, _, rfl⟩
end Go.Proofs.Ytnhhalhaefeoeaa
