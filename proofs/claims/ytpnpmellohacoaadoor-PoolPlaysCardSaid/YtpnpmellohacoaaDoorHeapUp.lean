import Derived.Test.YtpnpmellohacoaaDoorHeapLeaf
/- container/heap over pool's numbers: up, down, Push, Pop by their contracts. -/
namespace Go.Proofs.YtpnpmellohacoaaDoor
open Go Go.RowKit
set_option linter.unusedVariables false
set_option linter.unusedSimpArgs false

theorem loadFirst (a : Addr) (v : Value) (w : World) (h : w.cell? a = some v) : (loadVar 49 a).run Tryd.prog w = .ok v w := by
  simp [loadVar, isAgg, underlying, Tryd.underlying49, h, Result.andThen]
theorem nilLess (a : Addr) (w : World) : (nilAhead 224 55 (.pointer (some a)) "Less").run Tryd.prog w = .ok (some false) w := by kernel_rfl
theorem nilSwap (a : Addr) (w : World) : (nilAhead 224 55 (.pointer (some a)) "Swap").run Tryd.prog w = .ok (some false) w := by kernel_rfl
theorem nilLen (a : Addr) (w : World) : (nilAhead 224 55 (.pointer (some a)) "Len").run Tryd.prog w = .ok (some false) w := by kernel_rfl
theorem nilPush (a : Addr) (w : World) : (nilAhead 224 55 (.pointer (some a)) "Push").run Tryd.prog w = .ok (some false) w := by kernel_rfl
theorem nilPop (a : Addr) (w : World) : (nilAhead 224 55 (.pointer (some a)) "Pop").run Tryd.prog w = .ok (some false) w := by kernel_rfl
theorem methPush (a : Addr) (w : World) : (Go.method 224 55 (.pointer (some a)) "Push").run Tryd.prog w = .ok (54, .pointer (some a)) w := by kernel_rfl
theorem methPop (a : Addr) (w : World) : (Go.method 224 55 (.pointer (some a)) "Pop").run Tryd.prog w = .ok (53, .pointer (some a)) w := by kernel_rfl
theorem methLess0 (a : Addr) (w : World) : (Go.method 224 55 (.pointer (some a)) "Less").run Tryd.prog w = ((loadVar 49 a) >>= fun v => pure (51, v) : Sem (FuncId × Value)).run Tryd.prog w := by kernel_rfl
theorem methSwap0 (a : Addr) (w : World) : (Go.method 224 55 (.pointer (some a)) "Swap").run Tryd.prog w = ((loadVar 49 a) >>= fun v => pure (52, v) : Sem (FuncId × Value)).run Tryd.prog w := by kernel_rfl
theorem methLen0 (a : Addr) (w : World) : (Go.method 224 55 (.pointer (some a)) "Len").run Tryd.prog w = ((loadVar 49 a) >>= fun v => pure (50, v) : Sem (FuncId × Value)).run Tryd.prog w := by kernel_rfl
theorem methLess (a : Addr) (v : Value) (w : World) (h : w.cell? a = some v) : (Go.method 224 55 (.pointer (some a)) "Less").run Tryd.prog w = .ok (51, v) w := by
  rw [methLess0, Sem.run_bind, loadFirst a v w h]; rfl
theorem methSwap (a : Addr) (v : Value) (w : World) (h : w.cell? a = some v) : (Go.method 224 55 (.pointer (some a)) "Swap").run Tryd.prog w = .ok (52, v) w := by
  rw [methSwap0, Sem.run_bind, loadFirst a v w h]; rfl
theorem methLen (a : Addr) (v : Value) (w : World) (h : w.cell? a = some v) : (Go.method 224 55 (.pointer (some a)) "Len").run Tryd.prog w = .ok (50, v) w := by
  rw [methLen0, Sem.run_bind, loadFirst a v w h]; rfl

theorem LessB_true {x y : Int} (h : x < y) : LessB x y = true := by simp [LessB, h]
theorem LessB_false {x y : Int} (h : y ≤ x) : LessB x y = false := by simp [LessB]; omega

theorem less_at {I J : Int} (b n c i j : Nat) (zs : List Int) (w : World) (x y : Int) (h : Hid (w.ownsRow 0 3 1 (.slice (some ⟨b, 0, none⟩) n c) n (i64s zs))) (hI : I = i) (hJ : J = j) (hi : i < n) (hj : j < n) (hn : n ≤ 9223372036854775807) (r : Bool) (hr : Hid (LessB (at0 zs i) (at0 zs j) = r)) :
    Calls Tryd.prog 51 #[.slice (some ⟨b, 0, none⟩) n c, .int .i64 I, .int .i64 J] w fun e w' => e = .returned (.bool r) ∧ Only [] w w' := by
  subst hI hJ
  have := less_any b n c i j zs w h.out hi hj hn
  rw [hr.out] at this
  exact this
theorem swap_at {I J : Int} (b n c i j : Nat) (zs : List Int) (w : World) (h : Hid (w.ownsRow 0 3 1 (.slice (some ⟨b, 0, none⟩) n c) n (i64s zs))) (hI : I = i) (hJ : J = j) (hi : i < n) (hj : j < n) (hn : n ≤ 9223372036854775807) :
    Calls Tryd.prog 52 #[.slice (some ⟨b, 0, none⟩) n c, .int .i64 I, .int .i64 J] w fun e w' => e = .returned (.tuple #[]) ∧ w'.ownsRow 0 3 1 (.slice (some ⟨b, 0, none⟩) n c) n (i64s (sw zs i j)) ∧ Only [b] w w' := by
  subst hI hJ
  exact swap_any b n c i j zs w h.out hi hj hn

def UpPost (g b n c : Nat) (M PV : Value) (zs : List Int) (w : World) (e : Ending) (w' : World) : Prop :=
  e = .returned (.tuple #[]) ∧ ∃ zs', HpAt w' g M PV (.slice (some ⟨b, 0, none⟩) n c) zs' ∧ zs'.Perm zs ∧ Heap zs' ∧ Only [b] w w'
theorem up_any (g b n c j : Nat) (M PV : Value) (zs : List Int) (w : World) (h : HpAt w g M PV (.slice (some ⟨b, 0, none⟩) n c) zs) (hz : zs.length = n) (hn : n ≤ 1000000) (hj : j < n) (hu : HUp zs j) :
    Calls Tryd.prog 22 #[.iface 55 (.pointer (some ⟨g, 2, none⟩)), .int .i64 j] w (UpPost g b n c M PV zs w) := by
  have H := Lib.hid h
  have HZ := Lib.hid hz
  have HU := Lib.hid hu
  clear h hz hu
  go_enter Tryd.func22, Tryd.ntmps22
  go_wp2
  go_loopw [1] (fun i wr => ∃ (k : Nat) (zs' : List Int), k < n ∧ i = .int .i64 k ∧ HpAt wr g M PV (.slice (some ⟨b, 0, none⟩) n c) zs' ∧ zs'.length = n ∧ HUp zs' k ∧ zs'.Perm zs ∧ Only [b] w wr) (fun i _ => (intOf i).toNat)
  case atStart => exact ⟨j, zs, hj, rfl, H.out, HZ.out, HU.out, List.Perm.refl _, Only.refl _ _⟩
  case round =>
    obtain ⟨k, zs', hk, rfl, h, hl, hu, hp, ho⟩ := hrel
    have c2 : wr.cell? ⟨g, 2, none⟩ = some (.slice (some ⟨b, 0, none⟩) n c) := h.whole.cell 2
    have hgs := h.whole.size
    have hgb : g ≠ b := by have := h.ne; simp [Value.ownBlock] at this; omega
    have mL := methLess ⟨g, 2, none⟩ _ wr c2
    have nL := nilLess
    have nS := nilSwap
    have hrow := h.row
    rw [hl] at hrow
    have HR := Lib.hid hrow
    have H2 := Lib.hid h
    have HL := Lib.hid hl
    have HUk := Lib.hid hu
    have HP := Lib.hid hp
    have HO := Lib.hid ho
    clear h hl hu hp ho hrow
    by_cases hk0 : k = 0
    · subst hk0
      go_wp2
      exact bodyPost_end (v := .tuple #[]) (results_none (by kernel_rfl) _ _ _) rfl ⟨rfl, zs', H2.out, HP.out, hup_done HUk.out (.inl rfl), HO.out⟩
    · obtain ⟨m, rfl⟩ : ∃ m, k = m + 1 := ⟨k - 1, by omega⟩
      have q1 : ((m : Int) / 2 == (m : Int) + 1) = false := by rw [beq_eq_false_iff_ne]; omega
      have hm2 : m / 2 < n := by omega
      by_cases hlt : at0 zs' (m + 1) < at0 zs' (m / 2)
      · have HL1 := Lib.hid (LessB_true hlt)
        have HLT := Lib.hid hlt
        clear hlt hk0
        go_wp2_with fail
        refine (less_at b n c (m + 1) (m / 2) zs' wr 0 0 HR (by omega) (by omega) hk hm2 (by omega) true HL1).mono ?_
        rintro e w1 ⟨rfl, ho1⟩
        have hW1 := ho1.whole H2.out.whole (by simp)
        have c3 : w1.cell? ⟨g, 2, none⟩ = some (.slice (some ⟨b, 0, none⟩) n c) := hW1.cell 2
        have mS := methSwap ⟨g, 2, none⟩ _ w1 c3
        have HR1 := Lib.hid (ho1.owns HR.out (fun k _ => by simp))
        have HW1 := Lib.hid hW1
        have HO1 := Lib.hid (HO.out.trans ho1 (by simp))
        clear ho1 hW1 mL c2
        go_wp2_with fail
        refine (swap_at b n c (m / 2) (m + 1) zs' w1 HR1 (by omega) (by omega) hm2 hk (by omega)).mono ?_
        rintro e w2 ⟨rfl, hr2, ho2⟩
        have HR2 := Lib.hid hr2
        have HW2 := Lib.hid (ho2.whole HW1.out (by simpa using hgb))
        have HO2 := Lib.hid (HO1.out.trans ho2 (by simp))
        clear hr2 ho2 mS c3
        go_wp2
        have hs := hup_step HUk.out (by omega) (by rw [HL.out]; exact hk) (by simpa using HLT.out)
        have hlen : (sw zs' (m / 2) (m + 1)).length = n := by rw [sw_length]; exact HL.out
        refine ⟨⟨m / 2, sw zs' (m / 2) (m + 1), hm2, by rw [Int.natCast_ediv]; rfl, ⟨HW2.out, by rw [hlen]; exact HR2.out⟩, hlen, by simpa using hs, (sw_perm zs' _ _ (by rw [HL.out]; exact hm2) (by rw [HL.out]; exact hk)).trans HP.out, HO2.out⟩, ?_⟩
        simp only [intOf]
        omega
      · have HL1 := Lib.hid (LessB_false (Int.not_lt.1 hlt))
        have HLT := Lib.hid (Int.not_lt.1 hlt)
        clear hlt hk0
        go_wp2_with fail
        refine (less_at b n c (m + 1) (m / 2) zs' wr 0 0 HR (by omega) (by omega) hk hm2 (by omega) false HL1).mono ?_
        rintro e w1 ⟨rfl, ho1⟩
        have hH1 := Lib.hid (H2.out.only ho1 (by simp) (fun k _ => by simp))
        have HO1 := Lib.hid (HO.out.trans ho1 (by simp))
        clear ho1 mL c2
        go_wp2
        exact bodyPost_end (v := .tuple #[]) (results_none (by kernel_rfl) _ _ _) rfl ⟨rfl, zs', hH1.out, HP.out, hup_done HUk.out (.inr (by simpa using HLT.out)), HO1.out⟩

def DownPost (g b n c : Nat) (M PV : Value) (zs : List Int) (w : World) (e : Ending) (w' : World) : Prop :=
  (∃ r, e = .returned (.bool r)) ∧ ∃ zs', HpAt w' g M PV (.slice (some ⟨b, 0, none⟩) (n + 1) c) zs' ∧ zs'.Perm zs ∧ HeapN zs' n ∧ at0 zs' n = at0 zs n ∧ Only [b] w w'
set_option maxHeartbeats 4000000 in
set_option maxRecDepth 20000 in
theorem down_any (g b n c : Nat) (M PV : Value) (zs : List Int) (w : World) (h : HpAt w g M PV (.slice (some ⟨b, 0, none⟩) (n + 1) c) zs) (hz : zs.length = n + 1) (hn : n ≤ 1000000) (hu : HDown zs n 0) :
    Calls Tryd.prog 27 #[.iface 55 (.pointer (some ⟨g, 2, none⟩)), .int .i64 0, .int .i64 n] w (DownPost g b n c M PV zs w) := by
  have H := Lib.hid h
  have HZ := Lib.hid hz
  have HU := Lib.hid hu
  clear h hz hu
  go_enter Tryd.func27, Tryd.ntmps27
  go_wp2
  go_loopw [7] (fun i wr => ∃ (k : Nat) (zs' : List Int), k ≤ n ∧ i = .int .i64 k ∧ HpAt wr g M PV (.slice (some ⟨b, 0, none⟩) (n + 1) c) zs' ∧ zs'.length = n + 1 ∧ HDown zs' n k ∧ zs'.Perm zs ∧ at0 zs' n = at0 zs n ∧ Only [b] w wr) (fun i _ => n - (intOf i).toNat)
  case atStart => exact ⟨0, zs, by omega, rfl, H.out, HZ.out, HU.out, List.Perm.refl _, rfl, Only.refl _ _⟩
  case round =>
    obtain ⟨k, zs', hk, rfl, h, hl, hu, hp, hat, ho⟩ := hrel
    have c2 : wr.cell? ⟨g, 2, none⟩ = some (.slice (some ⟨b, 0, none⟩) (n + 1) c) := h.whole.cell 2
    have hgs := h.whole.size
    have hgb : g ≠ b := by have := h.ne; simp [Value.ownBlock] at this; omega
    have mL := methLess ⟨g, 2, none⟩ _ wr c2
    have nL := nilLess
    have nS := nilSwap
    have hrow := h.row
    rw [hl] at hrow
    have HR := Lib.hid hrow
    have H2 := Lib.hid h
    have HL := Lib.hid hl
    have HUk := Lib.hid hu
    have HP := Lib.hid hp
    have HO := Lib.hid ho
    have HA := Lib.hid hat
    clear h hl hu hp ho hrow hat
    have hc1 : ∀ i, 0 < i → (i - 1) / 2 = k → i = 2 * k + 1 ∨ i = 2 * k + 2 := by intro i _ _; omega
    have HC : Hid (∀ i, 0 < i → (i - 1) / 2 = k → i = 2 * k + 1 ∨ i = 2 * k + 2) := hc1
    clear hc1
    by_cases hj1 : 2 * k + 1 < n
    · have q1 : ¬ (n : Int) ≤ 2 * (k : Int) + 1 := by omega
      have HR0 := HR
      have HW0 := Lib.hid H2.out.whole
      have HO0 := HO
      by_cases hj2 : 2 * k + 2 < n
      · by_cases hlt : at0 zs' (2 * k + 2) < at0 zs' (2 * k + 1)
        · have HM : Hid (∀ i, 0 < i → i < n → (i - 1) / 2 = k → at0 zs' (2 * k + 2) ≤ at0 zs' i) := fun i i0 hi hp => by
            rcases HC.out i i0 hp with rfl | rfl
            · omega
            · exact Int.le_refl _
          have hjn : 2 * k + 2 < n := hj2
          have hj0 : 0 < 2 * k + 2 := by omega
          have hjp : Hid ((2 * k + 2 - 1) / 2 = k) := Lib.hid (by omega)
          have HL0 := Lib.hid (LessB_true hlt)
          clear hlt
          have q2 : 2 * (k : Int) + 2 < (n : Int) := by omega
          have q3 : 2 * (k : Int) + 1 + 1 < (n : Int) := by omega
          go_wp2_with fail
          refine (less_at b (n + 1) c (2 * k + 2) (2 * k + 1) zs' wr 0 0 HR (by omega) (by omega) (by omega) (by omega) (by omega) true HL0).mono ?_
          rintro e w1 ⟨rfl, ho1⟩
          have hW1 := ho1.whole H2.out.whole (by simp)
          have c1 : w1.cell? ⟨g, 2, none⟩ = some (.slice (some ⟨b, 0, none⟩) (n + 1) c) := hW1.cell 2
          have HR1 := Lib.hid (ho1.owns HR.out (fun k _ => by simp))
          have HW1 := Lib.hid hW1
          have HO1 := Lib.hid (HO.out.trans ho1 (by simp))
          clear ho1 hW1 mL c2
          have mL1b := methLess ⟨g, 2, none⟩ _ w1 c1
          by_cases hlt : at0 zs' (2 * k + 2) < at0 zs' k
          · have HL1 := Lib.hid (LessB_true hlt)
            have HLT := Lib.hid hlt
            clear hlt
            go_wp2_with fail
            refine (less_at b (n + 1) c (2 * k + 2) k zs' w1 0 0 HR1 (by omega) (by omega) (by omega) (by omega) (by omega) true HL1).mono ?_
            rintro e w3 ⟨rfl, ho3⟩
            have hW3 := ho3.whole HW1.out (by simp)
            have c3 : w3.cell? ⟨g, 2, none⟩ = some (.slice (some ⟨b, 0, none⟩) (n + 1) c) := hW3.cell 2
            have mS := methSwap ⟨g, 2, none⟩ _ w3 c3
            have HR3 := Lib.hid (ho3.owns HR1.out (fun k _ => by simp))
            have HW3 := Lib.hid hW3
            have HO3 := Lib.hid (HO1.out.trans ho3 (by simp))
            clear ho3 hW3 mL1b c1
            go_wp2_with fail
            refine (swap_at b (n + 1) c k (2 * k + 2) zs' w3 HR3 (by omega) (by omega) (by omega) (by omega) (by omega)).mono ?_
            rintro e w4 ⟨rfl, hr4, ho4⟩
            have HR4 := Lib.hid hr4
            have HW4 := Lib.hid (ho4.whole HW3.out (by simpa using hgb))
            have HO4 := Lib.hid (HO3.out.trans ho4 (by simp))
            clear hr4 ho4 mS c3
            go_wp2
            have hs := hdown_step HUk.out (by rw [HL.out]; omega) hjn hj0 hjp.out HLT.out HM.out
            have hlen : (sw zs' k (2 * k + 2)).length = n + 1 := by rw [sw_length]; exact HL.out
            have ha : at0 (sw zs' k (2 * k + 2)) n = at0 zs n := by
              rw [sw_at _ _ _ _ (by rw [HL.out]; omega) (by rw [HL.out]; omega), if_neg (by omega), if_neg (by omega)]; exact HA.out
            refine ⟨⟨2 * k + 2, sw zs' k (2 * k + 2), by omega, by push_cast; first | rfl | (congr 1; omega), ⟨HW4.out, by rw [hlen]; exact HR4.out⟩, hlen, hs, (sw_perm zs' _ _ (by rw [HL.out]; omega) (by rw [HL.out]; omega)).trans HP.out, ha, HO4.out⟩, ?_⟩
            simp only [intOf]
            omega
          · have HL1 := Lib.hid (LessB_false (Int.not_lt.1 hlt))
            have HLT := Lib.hid (Int.not_lt.1 hlt)
            clear hlt
            go_wp2_with fail
            refine (less_at b (n + 1) c (2 * k + 2) k zs' w1 0 0 HR1 (by omega) (by omega) (by omega) (by omega) (by omega) false HL1).mono ?_
            rintro e w3 ⟨rfl, ho3⟩
            have HW3 := Lib.hid (ho3.whole HW1.out (by simp))
            have HR3 := Lib.hid (ho3.owns HR1.out (fun k _ => by simp))
            have HO3 := Lib.hid (HO1.out.trans ho3 (by simp))
            clear ho3 mL1b c1
            go_wp2
            go_ret
            exact ⟨⟨_, rfl⟩, zs', ⟨HW3.out, by rw [HL.out]; exact HR3.out⟩, HP.out, hdown_done HUk.out (fun i i0 hi hp => Int.le_trans HLT.out (HM.out i i0 hi hp)), HA.out, HO3.out⟩
        · have HM : Hid (∀ i, 0 < i → i < n → (i - 1) / 2 = k → at0 zs' (2 * k + 1) ≤ at0 zs' i) := fun i i0 hi hp => by
            rcases HC.out i i0 hp with rfl | rfl
            · exact Int.le_refl _
            · omega
          have hjn : 2 * k + 1 < n := hj1
          have hj0 : 0 < 2 * k + 1 := by omega
          have hjp : Hid ((2 * k + 1 - 1) / 2 = k) := Lib.hid (by omega)
          have HL0 := Lib.hid (LessB_false (Int.not_lt.1 hlt))
          clear hlt
          have q2 : 2 * (k : Int) + 2 < (n : Int) := by omega
          have q3 : 2 * (k : Int) + 1 + 1 < (n : Int) := by omega
          go_wp2_with fail
          refine (less_at b (n + 1) c (2 * k + 2) (2 * k + 1) zs' wr 0 0 HR (by omega) (by omega) (by omega) (by omega) (by omega) false HL0).mono ?_
          rintro e w1 ⟨rfl, ho1⟩
          have hW1 := ho1.whole H2.out.whole (by simp)
          have c1 : w1.cell? ⟨g, 2, none⟩ = some (.slice (some ⟨b, 0, none⟩) (n + 1) c) := hW1.cell 2
          have HR1 := Lib.hid (ho1.owns HR.out (fun k _ => by simp))
          have HW1 := Lib.hid hW1
          have HO1 := Lib.hid (HO.out.trans ho1 (by simp))
          clear ho1 hW1 mL c2
          have mL1b := methLess ⟨g, 2, none⟩ _ w1 c1
          by_cases hlt : at0 zs' (2 * k + 1) < at0 zs' k
          · have HL1 := Lib.hid (LessB_true hlt)
            have HLT := Lib.hid hlt
            clear hlt
            go_wp2_with fail
            refine (less_at b (n + 1) c (2 * k + 1) k zs' w1 0 0 HR1 (by omega) (by omega) (by omega) (by omega) (by omega) true HL1).mono ?_
            rintro e w3 ⟨rfl, ho3⟩
            have hW3 := ho3.whole HW1.out (by simp)
            have c3 : w3.cell? ⟨g, 2, none⟩ = some (.slice (some ⟨b, 0, none⟩) (n + 1) c) := hW3.cell 2
            have mS := methSwap ⟨g, 2, none⟩ _ w3 c3
            have HR3 := Lib.hid (ho3.owns HR1.out (fun k _ => by simp))
            have HW3 := Lib.hid hW3
            have HO3 := Lib.hid (HO1.out.trans ho3 (by simp))
            clear ho3 hW3 mL1b c1
            go_wp2_with fail
            refine (swap_at b (n + 1) c k (2 * k + 1) zs' w3 HR3 (by omega) (by omega) (by omega) (by omega) (by omega)).mono ?_
            rintro e w4 ⟨rfl, hr4, ho4⟩
            have HR4 := Lib.hid hr4
            have HW4 := Lib.hid (ho4.whole HW3.out (by simpa using hgb))
            have HO4 := Lib.hid (HO3.out.trans ho4 (by simp))
            clear hr4 ho4 mS c3
            go_wp2
            have hs := hdown_step HUk.out (by rw [HL.out]; omega) hjn hj0 hjp.out HLT.out HM.out
            have hlen : (sw zs' k (2 * k + 1)).length = n + 1 := by rw [sw_length]; exact HL.out
            have ha : at0 (sw zs' k (2 * k + 1)) n = at0 zs n := by
              rw [sw_at _ _ _ _ (by rw [HL.out]; omega) (by rw [HL.out]; omega), if_neg (by omega), if_neg (by omega)]; exact HA.out
            refine ⟨⟨2 * k + 1, sw zs' k (2 * k + 1), by omega, by push_cast; first | rfl | (congr 1; omega), ⟨HW4.out, by rw [hlen]; exact HR4.out⟩, hlen, hs, (sw_perm zs' _ _ (by rw [HL.out]; omega) (by rw [HL.out]; omega)).trans HP.out, ha, HO4.out⟩, ?_⟩
            simp only [intOf]
            omega
          · have HL1 := Lib.hid (LessB_false (Int.not_lt.1 hlt))
            have HLT := Lib.hid (Int.not_lt.1 hlt)
            clear hlt
            go_wp2_with fail
            refine (less_at b (n + 1) c (2 * k + 1) k zs' w1 0 0 HR1 (by omega) (by omega) (by omega) (by omega) (by omega) false HL1).mono ?_
            rintro e w3 ⟨rfl, ho3⟩
            have HW3 := Lib.hid (ho3.whole HW1.out (by simp))
            have HR3 := Lib.hid (ho3.owns HR1.out (fun k _ => by simp))
            have HO3 := Lib.hid (HO1.out.trans ho3 (by simp))
            clear ho3 mL1b c1
            go_wp2
            go_ret
            exact ⟨⟨_, rfl⟩, zs', ⟨HW3.out, by rw [HL.out]; exact HR3.out⟩, HP.out, hdown_done HUk.out (fun i i0 hi hp => Int.le_trans HLT.out (HM.out i i0 hi hp)), HA.out, HO3.out⟩
      · have HM : Hid (∀ i, 0 < i → i < n → (i - 1) / 2 = k → at0 zs' (2 * k + 1) ≤ at0 zs' i) := fun i i0 hi hp => by
          rcases HC.out i i0 hp with rfl | rfl
          · exact Int.le_refl _
          · omega
        have q2 : ¬ 2 * (k : Int) + 2 < (n : Int) := by omega
        have q3 : ¬ 2 * (k : Int) + 1 + 1 < (n : Int) := by omega
        have hjn : 2 * k + 1 < n := hj1
        have hj0 : 0 < 2 * k + 1 := by omega
        have hjp : Hid ((2 * k + 1 - 1) / 2 = k) := Lib.hid (by omega)
        have c0 := c2
        clear mL
        have mL0b := methLess ⟨g, 2, none⟩ _ wr c0
        by_cases hlt : at0 zs' (2 * k + 1) < at0 zs' k
        · have HL1 := Lib.hid (LessB_true hlt)
          have HLT := Lib.hid hlt
          clear hlt
          go_wp2_with fail
          refine (less_at b (n + 1) c (2 * k + 1) k zs' wr 0 0 HR0 (by omega) (by omega) (by omega) (by omega) (by omega) true HL1).mono ?_
          rintro e w3 ⟨rfl, ho3⟩
          have hW3 := ho3.whole HW0.out (by simp)
          have c3 : w3.cell? ⟨g, 2, none⟩ = some (.slice (some ⟨b, 0, none⟩) (n + 1) c) := hW3.cell 2
          have mS := methSwap ⟨g, 2, none⟩ _ w3 c3
          have HR3 := Lib.hid (ho3.owns HR0.out (fun k _ => by simp))
          have HW3 := Lib.hid hW3
          have HO3 := Lib.hid (HO0.out.trans ho3 (by simp))
          clear ho3 hW3 mL0b c0
          go_wp2_with fail
          refine (swap_at b (n + 1) c k (2 * k + 1) zs' w3 HR3 (by omega) (by omega) (by omega) (by omega) (by omega)).mono ?_
          rintro e w4 ⟨rfl, hr4, ho4⟩
          have HR4 := Lib.hid hr4
          have HW4 := Lib.hid (ho4.whole HW3.out (by simpa using hgb))
          have HO4 := Lib.hid (HO3.out.trans ho4 (by simp))
          clear hr4 ho4 mS c3
          go_wp2
          have hs := hdown_step HUk.out (by rw [HL.out]; omega) hjn hj0 hjp.out HLT.out HM.out
          have hlen : (sw zs' k (2 * k + 1)).length = n + 1 := by rw [sw_length]; exact HL.out
          have ha : at0 (sw zs' k (2 * k + 1)) n = at0 zs n := by
            rw [sw_at _ _ _ _ (by rw [HL.out]; omega) (by rw [HL.out]; omega), if_neg (by omega), if_neg (by omega)]; exact HA.out
          refine ⟨⟨2 * k + 1, sw zs' k (2 * k + 1), by omega, by push_cast; first | rfl | (congr 1; omega), ⟨HW4.out, by rw [hlen]; exact HR4.out⟩, hlen, hs, (sw_perm zs' _ _ (by rw [HL.out]; omega) (by rw [HL.out]; omega)).trans HP.out, ha, HO4.out⟩, ?_⟩
          simp only [intOf]
          omega
        · have HL1 := Lib.hid (LessB_false (Int.not_lt.1 hlt))
          have HLT := Lib.hid (Int.not_lt.1 hlt)
          clear hlt
          go_wp2_with fail
          refine (less_at b (n + 1) c (2 * k + 1) k zs' wr 0 0 HR0 (by omega) (by omega) (by omega) (by omega) (by omega) false HL1).mono ?_
          rintro e w3 ⟨rfl, ho3⟩
          have HW3 := Lib.hid (ho3.whole HW0.out (by simp))
          have HR3 := Lib.hid (ho3.owns HR0.out (fun k _ => by simp))
          have HO3 := Lib.hid (HO0.out.trans ho3 (by simp))
          clear ho3 mL0b c0
          go_wp2
          go_ret
          exact ⟨⟨_, rfl⟩, zs', ⟨HW3.out, by rw [HL.out]; exact HR3.out⟩, HP.out, hdown_done HUk.out (fun i i0 hi hp => Int.le_trans HLT.out (HM.out i i0 hi hp)), HA.out, HO3.out⟩
    · have q1 : (n : Int) ≤ 2 * (k : Int) + 1 := by omega
      go_wp2
      go_ret
      exact ⟨⟨_, rfl⟩, zs', H2.out, HP.out, hdown_done HUk.out (fun i i0 hi hp => by rcases HC.out i i0 hp with rfl | rfl <;> omega), HA.out, HO.out⟩
end Go.Proofs.YtpnpmellohacoaaDoor
