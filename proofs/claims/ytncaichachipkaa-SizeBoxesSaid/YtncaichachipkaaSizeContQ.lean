import Derived.Test.YtncaichachipkaaSizeBackQ
/- size.content answers ctn; size.Least, Most, Outer. -/
namespace Go.Proofs.Ytncaichachipkaa
open Go Go.RowKit
set_option linter.unusedVariables false
set_option linter.unusedSimpArgs false
set_option maxRecDepth 20000
set_option maxHeartbeats 4000000

theorem ctn_bd (zs : List Int) (least : Bool) (b : Bx) (hF : b.k = 2 → I64 (linesZ zs least b.runs)) : I64 (ctn zs least b) := by
  rw [ctn_kds]
  unfold partZ
  split
  · rename_i h; exact hF h
  · split
    · exact heldT_bd _
    · have : ∀ l : List Int, (∀ x ∈ l, I64 x) → I64 (l.foldr max 0) := by
        intro l
        induction l with
        | nil => intro _; unfold I64; simp
        | cons x l ih =>
          intro h
          have h1 := ih fun y hy => h y (by simp [hy])
          have h2 := h x (by simp)
          simp only [List.foldr_cons]
          unfold I64 at *
          omega
      refine this _ fun x hx => ?_
      rw [outs_map] at hx
      obtain ⟨c, _, rfl⟩ := List.mem_map.1 hx
      exact outerZ_bd _ _
theorem widL_bd (ks : List Int) (B : Int) (hB : 0 ≤ B) : ∀ (l : List Gl) (hl : ∀ x ∈ l, -B ≤ x.adv ∧ x.adv ≤ B) (r : Option Int) (M : Option Int) (K : Int) (hK : 0 ≤ K) (hr : ∀ v, r = some v → -K ≤ v ∧ v ≤ K) (hM : ∀ v, M = some v → -(K + B * l.length) ≤ v ∧ v ≤ K + B * l.length), ∀ v, widL ks l r M = some v → -(K + B * l.length) ≤ v ∧ v ≤ K + B * l.length
  | [], hl, r, M, K, hK, hr, hM, v, hv => by
    simp only [List.length_nil, Int.natCast_zero, Int.mul_zero, Int.add_zero] at hM ⊢
    cases r with
    | none => simp only [widL] at hv; exact hM v hv
    | some r0 =>
      simp only [widL, Option.some.injEq] at hv
      have h1 := hr r0 rfl
      subst hv
      unfold maxO
      split
      · exact h1
      · rename_i m
        have h2 := hM m rfl
        split <;> omega
  | x :: l, hl, r, M, K, hK, hr, hM, v, hv => by
    have hx := hl x (by simp)
    have hl' : ∀ y ∈ l, -B ≤ y.adv ∧ y.adv ≤ B := fun y hy => hl y (by simp [hy])
    have hlen : ((x :: l).length : Int) = (l.length : Int) + 1 := by simp
    have hmul : B * ((l.length : Int) + 1) = B * l.length + B := by rw [Int.mul_add, Int.mul_one]
    have hnn : 0 ≤ B * (l.length : Int) := Int.mul_nonneg hB (by omega)
    rw [hlen, hmul] at hM ⊢
    have key : ∀ (r' M' : Option Int), (∀ v, r' = some v → -(K + B) ≤ v ∧ v ≤ K + B) → (∀ v, M' = some v → -(K + B + B * l.length) ≤ v ∧ v ≤ K + B + B * l.length) → widL ks l r' M' = some v → -(K + (B * l.length + B)) ≤ v ∧ v ≤ K + (B * l.length + B) := fun r' M' h1 h2 h3 => by
      have := widL_bd ks B hB l hl' r' M' (K + B) (by omega) h1 h2 v h3
      omega
    cases r with
    | none =>
      simp only [widL] at hv
      split at hv
      · exact key none M (fun v h => by cases h) (fun v h => by have := hM v h; omega) hv
      · exact key (some x.adv) M (fun v h => by injection h with h; omega) (fun v h => by have := hM v h; omega) hv
    | some r0 =>
      have h1 := hr r0 rfl
      simp only [widL] at hv
      split at hv
      · refine key none _ (fun v h => by cases h) (fun v h => ?_) hv
        injection h with h
        subst h
        unfold maxO
        split
        · omega
        · rename_i m
          have h2 := hM m rfl
          split <;> omega
      · exact key (some (r0 + x.adv)) M (fun v h => by injection h with h; omega) (fun v h => by have := hM v h; omega) hv
theorem widZ_bd (ks : List Int) (g : List Gl) (hg : FineG g) : I64 (widZ ks g) := by
  unfold widZ
  cases h : widL ks g none none with
  | none => unfold I64; simp
  | some v =>
    have h1 := widL_bd ks 1099511627776 (by decide) g hg.2 none none 0 (by decide) (fun v h => by cases h) (fun v h => by cases h) v h
    have h2 := hg.1
    simp only [Option.getD_some]
    unfold I64
    omega
theorem linesZ_bd (zs : List Int) (least : Bool) (rs : List Rn) (h : FineR zs rs) : I64 (linesZ zs least rs) := widZ_bd _ _ h.2.2
theorem content_any (zs : List Int) (hz : zs.length = 256) (b : Bx) (least : Bool) (g q gm : Nat) (W : World) (hb : BoxAt W (· < W.heap.size) b g q) (hm : Whole W gm 25 (i64s zs)) (hF : FineB zs b) (hc : b.cnt ≤ 1073741824) :
    Calls Try.prog 13 #[.pointer (some ⟨gm, 0, none⟩), .pointer (some ⟨g, q, none⟩), .bool least] W fun e w' => e = .returned (.int .i64 (ctn zs least b)) ∧ Below W.heap.size W w' := by
  have PA := Lib.hid (parts_any b g q W hb hc)
  have HB := Lib.hid hb
  have HM := Lib.hid hm
  have HF := Lib.hid hF
  clear hb hm hF
  go_enter Try.func13, Try.ntmps13
  go_wp2_with fail
  refine PA.out.mono ?_
  rintro e w1 ⟨T, A, n, c, rfl, F, P⟩
  obtain rfl := P.len
  have hT : T.length ≤ 1073741824 := by have := F.small; omega
  obtain ⟨gl, c1, hv, -, -, -⟩ := owns_some P.own (by omega)
  injection hv with e1 e2 e3
  subst e1
  clear e2 e3 c1 PA
  have S0 : Hid (CoSt W w1 zs least b g q T gl c T.length) := Lib.hid ⟨by rw [tks_end]; exact P.own, P.low⟩
  have HBX : Hid (∀ k, k ≤ T.length → BoxAt W (· < W.heap.size) (ptAt b g q T k).bx (ptAt b g q T k).g (ptAt b g q T k).q) := Lib.hid fun k hk => by
    cases k with
    | zero => exact HB.out
    | succ k => rw [ptAt_succ b g q T k hk]; exact P.at_ _ (List.getElem_mem hk)
  have HFN : Hid (∀ k, k ≤ T.length → (ptAt b g q T k).bx.k = 2 → FineR zs (ptAt b g q T k).bx.runs) := Lib.hid fun k hk => by
    rw [ptAt_bx b g q T k hk]
    exact (F.all (FineB zs) HF.out (fun x h => h.kds) T.length k hk hk).runs
  have HCT : Hid (∀ k, k ≤ T.length → partZ zs least (ptAt b g q T k).bx.k (ptAt b g q T k).bx.st (ptAt b g q T k).bx.runs (accP zs least T k k).sum ((accP zs least T k k).foldr max 0) = ctn zs least (ptAt b g q T k).bx) := Lib.hid fun k hk => by
    rw [ptAt_bx b g q T k hk]; exact accP_ctn zs least F k hk
  have HUP := Lib.hid F.up
  have HCP : Hid (∀ k w, k ≤ T.length → CoSt W w zs least b g q T gl c k → Calls Try.prog 22 #[.pointer (some ⟨gl, k * 5, none⟩), .pointer (some ⟨gm, 0, none⟩), .bool least] w fun e w' => e = .returned (.int .i64 (ctn zs least (ptAt b g q T k).bx)) ∧ Below w.heap.size w w') := Lib.hid fun k w hk S => by
    rw [← HCT.out k hk]
    exact content_part (ptAt b g q T k) _ _ zs hz least (accP_tot zs least T k k hT) gl (k * 5) gm w (S.range k (by omega)) ((HBX.out k hk).keep fun x hx => ⟨by have := S.low.size; omega, S.low.block x hx⟩) S.far.2 (HM.out.under S.low HM.out.size) (HFN.out k hk)
  clear P F HCT
  go_upto_region 3 with fail
  go_loopw [8] (fun v8 wr => ∃ i : Nat, v8 = .int .i64 i ∧ i ≤ T.length ∧ Hid (CoSt W wr zs least b g q T gl c i)) (fun v8 _ => (intOf v8).toNat)
  case atStart => exact ⟨T.length, by go_num, Nat.le_refl _, S0⟩
  case round =>
    clear S0
    obtain ⟨i, rfl, hi, S⟩ := hrel
    cases i with
    | succ j =>
      have hj : j < T.length := hi
      have hpos : (0 : Int) < ((j + 1 : Nat) : Int) := by omega
      have hjn : ((j + 1 : Nat) : Int) < ((T.length + 1 : Nat) : Int) := by omega
      have hpa : (⟨gl, 0, none⟩ : Addr).add ((j + 1) * 5) = ⟨gl, (j + 1) * 5, none⟩ := head_add _ _
      have hu : T[j].in_ < T.length + 1 := by have := (HUP.out j hj).1; omega
      have hin : (T[j].in_ : Int) < ((T.length + 1 : Nat) : Int) := by omega
      have hpi : (⟨gl, 0, none⟩ : Addr).add (T[j].in_ * 5) = ⟨gl, T[j].in_ * 5, none⟩ := head_add _ _
      have CP := Lib.hid (fun w S => HCP.out (j + 1) w hj S)
      have BX := HBX.out (j + 1) hj
      have RG := Lib.hid (fun w (S : CoSt W w zs least b g q T gl c (j + 1)) => part_cells (S.range (j + 1) (by omega)))
      have FN := HFN.out (j + 1) hj
      have hcv : I64 (ctn zs least (ptAt b g q T (j + 1)).bx) := ctn_bd zs least _ fun h => linesZ_bd _ _ _ (FN h)
      rw [ptAt_succ b g q T j hj] at CP BX RG hcv
      obtain ⟨-, hsl, hsz, hst, -, -⟩ := BX.cells
      have OU : Hid (∀ w, Below W.heap.size W w → Calls Try.prog 12 #[.pointer (some ⟨T[j].g, T[j].q + 2, none⟩), .int .i64 (ctn zs least T[j].bx)] w fun e w' => e = .returned (.int .i64 (ouP zs least T[j])) ∧ Below w.heap.size w w') := Lib.hid fun w hb =>
        outer_any T[j].bx.st hsl hsz T[j].g (T[j].q + 2) _ hcv w (by have := BX.1; have := hb.size; simp only at *; omega) (range_keep hst (hb.block _ BX.1))
      have AD : Hid (∀ w, CoSt W w zs least b g q T gl c (j + 1) → Calls Try.prog 21 #[.pointer (some ⟨gl, T[j].in_ * 5, none⟩), .int .i64 (ouP zs least T[j])] w fun e w' => e = .returned (.tuple #[]) ∧ CoSt W w' zs least b g q T gl c j) := Lib.hid fun w S =>
        (add_part (ptAt b g q T T[j].in_) _ _ _ (accP_tot zs least T (j + 1) T[j].in_ hT) (outerZ_bd _ _) gl (T[j].in_ * 5) w S.far.2 (S.range _ hu) (fun k => S.own.frozenAt _)).mono fun e w' h => ⟨h.1, S.added hj hu h⟩
      clear BX FN hcv hsl hsz hst hu
      generalize ctn zs least T[j].bx = cv at *
      generalize ouP zs least T[j] = ov at *
      generalize T[j].in_ = ki at *
      generalize T[j].g = bg at *
      generalize T[j].q = bq at *
      generalize hqq : (j + 1) * 5 = qq at *
      go_upto_region 6 with fail
      have Y0 := Lib.hid (fun t : Later wr.heap.size wr => RG.out t.w (S.out.behind t.h))
      have y0 : ∀ t : Later wr.heap.size wr, t.w.cell? ⟨gl, qq, none⟩ = some (.pointer (some ⟨bg, bq, none⟩)) := fun t => (Y0.out t).1
      have y1 : ∀ t : Later wr.heap.size wr, t.w.cell? ⟨gl, qq + 1, none⟩ = some (.int .i64 ki) := fun t => (Y0.out t).2.1
      refine region_lane [] (List.range 17) [17] (by kernel_rfl) (by kernel_rfl) (fun _ _ _ _ _ h => h) ?_
      simp only [pick, List.map_nil]
      refine wpQuiet_nil ⟨rfl, ?_⟩
      rw [show List.range 17 = [0, 1, 2, 3, 4, 5, 6, 7, 8, 9, 10, 11, 12, 13, 14, 15, 16] from rfl]
      simp only [List.map_cons, List.map_nil, List.getD_cons_zero, List.getD_cons_succ, List.drop_succ_cons, List.drop_zero]
      refine laneO_run 15 (by kernel_rfl) ?_
      simp only [List.take_succ_cons, List.take_zero, List.drop_succ_cons, List.drop_zero]
      repeat (go_big_quiet_step (fail))
      refine wpQuiet_nil ?_
      refine laneO_call (v := .int .i64 cv) (by kernel_rfl) (by rfl) (fun C hC h0 => ?_) ?_
      focus (go_big_quiet_op; exact ⟨_, fun w hw => (CP.out w (S.out.behind (h0 w hw))).mono fun e w' ⟨he, hb⟩ => ⟨he, hC _ _ hw hb⟩, rfl⟩)
      simp only [Act.put, List.setIfInBounds_toArray, List.set_cons_zero, List.set_cons_succ]
      refine laneO_call (v := .int .i64 ov) (by kernel_rfl) (by rfl) (fun C hC h0 => ?_) ?_
      focus (go_big_quiet_op; exact ⟨_, fun w hw => (OU.out w (S.out.behind (h0 w hw)).low).mono fun e w' ⟨he, hb⟩ => ⟨he, hC _ _ hw hb⟩, rfl⟩)
      simp only [Act.put, List.setIfInBounds_toArray, List.set_cons_zero, List.set_cons_succ]
      refine laneO_end0 rfl rfl fun w2 hb0 => ?_
      have S2 := Lib.hid (S.out.behind hb0)
      clear y0 y1 Y0 hb0 S
      go_wp2_with fail
      refine (AD.out _ S2.out).mono ?_
      rintro e w3 ⟨rfl, h3⟩
      have S3 := Lib.hid h3
      clear h3 S2
      go_wp2
      go_roundw
      case rel => exact ⟨j, by go_num, by omega, S3⟩
      case measure => simp [intOf]
    | zero =>
      have CP := Lib.hid (HCP.out 0 _ (Nat.zero_le _) S.out)
      have hz0 : (0 : Int) < ((T.length + 1 : Nat) : Int) := by omega
      have hpa : (⟨gl, 0, none⟩ : Addr).add 0 = ⟨gl, 0, none⟩ := rfl
      have HL := Lib.hid S.out.low
      clear HCP S
      go_wp2_with fail
      refine CP.out.mono ?_
      rintro e w' ⟨rfl, hb'⟩
      have H2 := Lib.hid (HL.out.trans (hb'.mono HL.out.size))
      go_wp2
      go_ret
      exact ⟨ret_int rfl, H2.out⟩
end Go.Proofs.Ytncaichachipkaa
