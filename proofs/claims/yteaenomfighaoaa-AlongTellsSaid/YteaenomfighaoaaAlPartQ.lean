import Derived.Test.YteaenomfighaoaaAlLeafQ
import Derived.Test.YteaenomfighaoaaZQ
import Derived.Test.YteaenomfighaoaaExactSumQ
import Derived.Test.YteaenomfighaoaaTotSubQ
/- along.left, autos. -/
namespace Go.Proofs.Yteaenomfighaoaa
open Go Go.RowKit
set_option linter.unusedVariables false
set_option linter.unusedSimpArgs false
set_option maxRecDepth 20000
set_option maxHeartbeats 4000000

theorem sum_flatA : FlatT Try.prog 36 2 := ⟨⟨_, Try.underlying36, rfl⟩, by kernel_rfl⟩
abbrev SumC (n : Int) : List Value := [.int .i64 (tH n), .int .u64 (tL n)]
abbrev SumV (w : World) (g : Nat) (n : Int) : Prop := Whole w g 36 (SumC n)
theorem of_lit (zs : List Int) (hz : ∀ z ∈ zs, I64 z) (hl : zs.length ≤ 1000) (g : Nat) (w : World) (h : Whole w g 2 (i64s zs)) :
    Calls Try.prog 17 #[.slice (some ⟨g, 0, none⟩) zs.length zs.length] w fun e w' => e = .returned (totV zs.sum) ∧ Below w.heap.size w w' :=
  of_any zs hz hl _ _ w fun _ => ⟨_, rfl, h.size, fun i hi => by rw [head_add]; exact (h.cell i).trans (List.getElem?_eq_getElem hi)⟩
theorem of_one1 (x : Int) (hx : I64 x) (g : Nat) (w : World) (h : Whole w g 2 [.int .i64 x]) :
    Calls Try.prog 17 #[.slice (some ⟨g, 0, none⟩) 1 1] w fun e w' => e = .returned (totV x) ∧ Below w.heap.size w w' := by
  have := of_lit [x] (fun z hz => by simp at hz; rw [hz]; exact hx) (by simp) g w h
  simpa using this
theorem of_made3 (x y z : Int) (hx : I64 x) (hy : I64 y) (hz : I64 z) (w : World) (v : Value) (h : madeT 3 2 [.int .i64 x, .int .i64 y, .int .i64 z] v w) :
    Calls Try.prog 17 #[v] w fun e w' => e = .returned (totV (x + y + z)) ∧ Below w.heap.size w w' := by
  obtain ⟨g, rfl, hg⟩ := h
  have := of_lit [x, y, z] (fun u hu => by simp only [List.mem_cons, List.not_mem_nil, or_false] at hu; rcases hu with rfl | rfl | rfl <;> assumption) (by simp) g w hg
  rw [show [x, y, z].sum = x + y + z by simp; omega] at this
  exact this
theorem intA_info : (Try.prog.info? 3).map (fun i => (i.zero, i.size, i.bytes)) = some (some (.int .i64 0), 1, 8) := by kernel_rfl
def natV (l : List Nat) : List Value := l.map fun (n : Nat) => Value.int .i64 (n : Int)
theorem natV_app (a b : List Nat) : natV (a ++ b) = natV a ++ natV b := by simp [natV]
theorem natV_get {l : List Nat} {k : Nat} (h : k < l.length) : (natV l)[k]? = some (.int .i64 ((l.getD k 0 : Nat) : Int)) := by simp [natV, List.getD, h]
theorem al_len {l : List Al} {n : Nat} (h : l.length = n) : l.length ≤ n ∧ n ≤ l.length := by omega
theorem tot_sm {n : Int} (h0 : -9000000000000000000 ≤ n) (h1 : n ≤ 9000000000000000000) : Tot n := by unfold Tot; omega
theorem i64_sm {n : Int} (h0 : -9000000000000000000 ≤ n) (h1 : n ≤ 9000000000000000000) : I64 n := by unfold I64; omega
theorem left_any (l : List Al) (A : Option Addr) (c : Nat) (inner : Int) (W : World) (hR : Row W W.heap.size A (l.flatMap alC)) (hok : ∀ x ∈ l, AlOk x) (hl5 : l.length ≤ 100) (hi : -35184372088832 ≤ inner ∧ inner ≤ 35184372088832) :
    Calls Try.prog 23 #[.slice A l.length c, .int .i64 inner] W fun e w' => e = .returned (totV (freeA inner l)) ∧ Below W.heap.size W w' := by
  have HR := Lib.hid hR
  have HOK := Lib.hid hok
  have NB := Lib.hid (fun k => needA_takebd hok hl5 k)
  obtain ⟨n, hn⟩ : ∃ n, l.length = n := ⟨_, rfl⟩
  have HL := Lib.hid hn
  rw [hn] at hl5 ⊢
  clear hR hok hn
  have O1 := Lib.hid (fun g w h => of_one1 inner (i64_sm (by omega) (by omega)) g w h)
  go_enter Try.func23, Try.ntmps23
  have L1 : Hid (Whole ((W.alloc (.cells #[.int .i64 0, .int .u64 0] 36)).alloc (.cells #[.int .i64 inner] 2)) (W.heap.size + 1) 2 [.int .i64 inner]) := Lib.hid (by
    have h := Whole.mk (W.alloc (.cells #[.int .i64 0, .int .u64 0] 36)) 2 #[.int .i64 inner]
    simpa using h)
  go_wp2_with fail
  refine (O1.out _ _ L1.out).mono ?_
  rintro e w1 ⟨rfl, hb1⟩
  have Z1 : Hid (SumV w1 W.heap.size 0) := Lib.hid (((Whole.mk W 36 #[.int .i64 0, .int .u64 0]).made _).under hb1 (by simp; omega))
  have B1 := Lib.hid ((((Below.refl W.heap.size W).alloc (Nat.le_refl _) _).alloc (by simp) _).trans (hb1.mono (by simp; omega)))
  clear hb1 O1
  go_upto_region 2 with fail
  have S1 : Hid (SumV (w1.alloc (.cells #[.int .i64 (tH inner), .int .u64 (tL inner)] 36)) w1.heap.size inner) := Lib.hid (Whole.mk w1 36 #[.int .i64 (tH inner), .int .u64 (tL inner)])
  have Z2 := Lib.hid (Z1.out.made (.cells #[.int .i64 (tH inner), .int .u64 (tL inner)] 36))
  have B2 := Lib.hid (B1.out.alloc B1.out.size (.cells #[.int .i64 (tH inner), .int .u64 (tL inner)] 36))
  have hg1 := Z1.out.size
  clear Z1 B1
  generalize w1.alloc _ = w2 at *
  obtain ⟨g, hg⟩ : ∃ g, w1.heap.size = g := ⟨_, rfl⟩
  rw [hg] at S1 hg1 ⊢
  clear hg
  go_wp2_with fail
  go_loopw [14] (fun v14 wr => ∃ k : Nat, v14 = .int .i64 k ∧ k ≤ n ∧ Hid (SumV wr g (inner - needA (l.take k))) ∧ Hid (SumV wr W.heap.size 0) ∧ Hid (Below W.heap.size W wr)) (fun v14 _ => n - (intOf v14).toNat)
  case atStart => exact ⟨0, rfl, Nat.zero_le _, by rw [show inner - needA (l.take 0) = inner by simp [needA]]; exact S1, Z2, B2⟩
  case round =>
    clear S1 Z2 B2
    obtain ⟨k, rfl, hk, S1, Z1, B1⟩ := hrel
    generalize wr = w3 at *
    have n0 := NB.out k
    by_cases hlt : k < n
    · have hltz : (k : Int) < n := by omega
      have hkl : k < l.length := by rw [HL.out]; exact hlt
      obtain ⟨a1, rfl, hab1, d0, d1, d2, d3, d4⟩ := Row.al (HR.out.below B1.out) hkl
      have hx := HOK.out _ (List.getElem_mem hkl)
      have NT := Lib.hid (needA_take l hkl)
      have n1 := NB.out (k + 1)
      rw [NT.out] at n1
      obtain ⟨x, hxe⟩ : ∃ x, l[k] = x := ⟨_, rfl⟩
      rw [hxe] at d0 d1 d2 d3 d4 hx NT n1
      clear hxe
      have MA := Lib.hid (margins_any (a1.add (k * 5)) x hx.zb hx.za w3 d0 d1 d3 d4)
      obtain ⟨⟨b0, b1⟩, ⟨a0, a9⟩, s0, s1⟩ := (show ((-1099511627776 ≤ x.b ∧ x.b ≤ 1099511627776) ∧ (-1099511627776 ≤ x.a ∧ x.a ≤ 1099511627776) ∧ 0 ≤ x.s ∧ x.s ≤ 1099511627776) from ⟨⟨hx.b0, hx.b1⟩, ⟨hx.a0, hx.a1⟩, hx.s0, hx.s1⟩)
      clear hx
      obtain ⟨s, hs⟩ : ∃ s, needA (l.take k) = s := ⟨_, rfl⟩
      rw [hs] at n0 n1 NT S1
      clear hs
      have NT2 : Hid (inner - s - (x.b + x.s + x.a) = inner - needA (l.take (k + 1))) := Lib.hid (by rw [NT.out]; omega)
      have MI := Lib.hid (fun w => minus_any (inner - s) (x.b + x.s + x.a) (tot_sm (by omega) (by omega)) (tot_sm (by omega) (by omega)) w)
      rw [NT2.out] at MI
      have OM := Lib.hid (fun v w h => of_made3 x.b x.s x.a (i64_sm (by omega) (by omega)) (i64_sm (by omega) (by omega)) (i64_sm (by omega) (by omega)) w v h)
      have hsz := B1.out.size
      clear d0 d1 d3 d4
      go_wp2_with fail
      refine MA.out.mono ?_
      rintro e w4 ⟨rfl, hb⟩
      have S4 := Lib.hid (S1.out.under hb S1.out.size)
      have Z4 := Lib.hid (Z1.out.under hb Z1.out.size)
      have B4 := Lib.hid (B1.out.trans (hb.mono hsz))
      have D2 : Hid (w4.cell? ⟨(a1.add (k * 5)).block, (a1.add (k * 5)).off + 2, none⟩ = some (.int .i64 x.s)) := Lib.hid ((hb.cell (p := ⟨(a1.add (k * 5)).block, (a1.add (k * 5)).off + 2, none⟩) (by rw [add_block]; omega)).trans d2)
      have hab4 : a1.block < w4.heap.size := Nat.lt_of_lt_of_le hab1 (Nat.le_trans hsz hb.size)
      clear hb MA S1 Z1 B1 d2
      obtain ⟨m1, hm1⟩ : ∃ m, x.b = m := ⟨_, rfl⟩
      obtain ⟨m2, hm2⟩ : ∃ m, x.s = m := ⟨_, rfl⟩
      obtain ⟨m3, hm3⟩ : ∃ m, x.a = m := ⟨_, rfl⟩
      rw [hm1, hm2, hm3] at MI OM
      rw [hm2] at D2
      rw [hm1, hm3]
      clear hm1 hm2 hm3 b0 b1 a0 a9 s0 s1 n1
      go_upto_region 6 with fail
      have YS := Lib.hid (fun w (hw : Behind w4 w) => S4.out.under hw S4.out.size)
      have d2 : ∀ t : Later w4.heap.size w4, t.w.cell? ⟨(a1.add (k * 5)).block, (a1.add (k * 5)).off + 2, none⟩ = some (.int .i64 m2) := fun t => (t.h.cell (p := ⟨(a1.add (k * 5)).block, (a1.add (k * 5)).off + 2, none⟩) (by rw [add_block]; exact hab4)).trans D2.out
      refine region_lane [] [0, 1, 2, 3, 4, 5, 6, 7, 8, 9, 10] [11] (by kernel_rfl) (by kernel_rfl) (fun _ _ _ _ _ h => h) ?_
      simp only [pick, List.map_nil]
      refine wpQuiet_nil ⟨rfl, ?_⟩
      simp only [List.map_cons, List.map_nil, List.getD_cons_zero, List.getD_cons_succ, List.drop_succ_cons, List.drop_zero]
      refine laneO_fixed (v := totV (inner - s)) (by kernel_rfl) (fun w hw => .inl ⟨by rfl, cells_gives sum_flatA (.tmp 5) rfl g rfl [.int .i64 (tH (inner - s)), .int .u64 (tL (inner - s))] rfl 36 (YS.out w hw)⟩) ?_
      simp only [Act.put, List.setIfInBounds_toArray, List.set_cons_zero, List.set_cons_succ]
      refine laneO_run 7 (by kernel_rfl) ?_
      simp only [List.take_succ_cons, List.take_zero, List.drop_succ_cons, List.drop_zero]
      repeat (go_big_quiet_step (fail))
      refine wpQuiet_nil ?_
      refine laneO_told (madeT 3 2 [.int .i64 m1, .int .i64 m2, .int .i64 m3]) (madeT_steady _ _ _) (by kernel_rfl) rfl (fun w hw => .inl ⟨by rfl, ?_⟩) ?_
      focus (unfold gives; simp [go_sem]; exact madeT_new 3 2 #[.int .i64 m1, .int .i64 m2, .int .i64 m3] w)
      refine laneO_useCall (v := totV (m1 + m2 + m3)) rfl rfl (of_decide_eq_true (by rfl)) rfl (by rfl) (by rfl) rfl Try.func17 (by kernel_rfl) rfl (fun x w hw hx => OM.out x w hx) ?_
      simp only [Act.put, List.setIfInBounds_toArray, List.set_cons_zero, List.set_cons_succ]
      refine laneO_call (v := totV (inner - needA (l.take (k + 1)))) (by kernel_rfl) (by rfl) (fun C hC h0 => ?_) ?_
      focus (go_big_quiet_op; exact ⟨_, fun w hw => (MI.out w).mono fun e w' ⟨he, hb⟩ => ⟨he, hC _ _ hw hb⟩, rfl⟩)
      simp only [Act.put, List.setIfInBounds_toArray, List.set_cons_zero, List.set_cons_succ]
      refine laneO_end (by simp) (by rfl) rfl rfl fun w5 hb0 => ?_
      rintro x1 hx1
      clear hx1
      simp only [fillAll, Act.put, List.setIfInBounds_toArray, List.set_cons_zero, List.set_cons_succ]
      have S5 := Lib.hid (S4.out.under hb0 S4.out.size)
      have Z5 := Lib.hid (Z4.out.under hb0 Z4.out.size)
      have B5 := Lib.hid (B4.out.trans (hb0.mono B4.out.size))
      have f0 := S5.out.free 0
      have f1 := S5.out.free 1
      have e0 := S5.out.cell 0
      have e1 := S5.out.cell 1
      simp only [List.getElem?_cons_zero, List.getElem?_cons_succ] at e0 e1
      have hgW : W.heap.size < g := hg1
      obtain ⟨T, hT⟩ : ∃ T, inner - needA (l.take (k + 1)) = T := ⟨_, rfl⟩
      have HT := Lib.hid hT
      rw [hT]
      clear hT
      have S6 : Hid (SumV ((w5.setCell ⟨g, 0, none⟩ (.int .i64 (tH T))).setCell ⟨g, 1, none⟩ (.int .u64 (tL T))) g T) := Lib.hid ((S5.out.put 0 _).put 1 _)
      have Z6 := Lib.hid ((Z5.out.other (p := ⟨g, 0, none⟩) (by simp; omega) (.int .i64 (tH T))).other (p := ⟨g, 1, none⟩) (by simp; omega) (.int .u64 (tL T)))
      have B6 := Lib.hid ((B5.out.setCell (p := ⟨g, 0, none⟩) (by simp; omega) (.int .i64 (tH T))).setCell (p := ⟨g, 1, none⟩) (by simp; omega) (.int .u64 (tL T)))
      clear hb0 YS d2 D2 MI OM S4 Z4 B4 NT2 NT
      go_wp2_with fail
      go_roundw
      case rel => exact ⟨k + 1, by go_num, by omega, by rw [HT.out]; exact S6, Z6, B6⟩
      case measure => simp [intOf] <;> omega
    · obtain rfl : n = k := by omega
      have hltz : ¬ (n : Int) < n := by omega
      have e1 : inner - needA (l.take n) = freeA inner l := by rw [List.take_of_length_le (by rw [HL.out]; omega)]; rfl
      rw [e1] at S1
      clear e1 n0
      obtain ⟨f, hf⟩ : ∃ f, freeA inner l = f := ⟨_, rfl⟩
      have HF := Lib.hid hf
      rw [hf] at S1
      clear hf
      have q0 := S1.out.cell 0
      have q1 := S1.out.cell 1
      have e0 := Z1.out.cell 0
      have e1 := Z1.out.cell 1
      have f0 := Z1.out.free 0
      have f1 := Z1.out.free 1
      simp only [List.getElem?_cons_zero, List.getElem?_cons_succ] at e0 e1 q0 q1
      have Z2 : Hid (SumV ((w3.setCell ⟨W.heap.size, 0, none⟩ (.int .i64 (tH f))).setCell ⟨W.heap.size, 1, none⟩ (.int .u64 (tL f))) W.heap.size f) := Lib.hid ((Z1.out.put 0 _).put 1 _)
      have B2 := Lib.hid ((B1.out.setCell (p := ⟨W.heap.size, 0, none⟩) (by simp) (.int .i64 (tH f))).setCell (p := ⟨W.heap.size, 1, none⟩) (by simp) (.int .u64 (tL f)))
      go_wp2_with fail
      exact cells_end (n := 2) sum_flatA rfl W.heap.size rfl (SumC f) rfl 36 Z2.out rfl ⟨by rw [HF.out], B2.out⟩
theorem autos_any (l : List Al) (A : Option Addr) (c : Nat) (W : World) (hR : Row W W.heap.size A (l.flatMap alC)) (hl5 : l.length ≤ 100) :
    Calls Try.prog 25 #[.slice A l.length c] W fun e w' => ∃ A' c', e = .returned (.slice A' (autosA l) c') ∧ w'.ownsRow W.heap.size 3 1 (.slice A' (autosA l) c') (autosA l) (natV (autoK l l.length)) ∧ Below W.heap.size W w' := by
  have HR := Lib.hid hR
  obtain ⟨n, hn⟩ : ∃ n, l.length = n := ⟨_, rfl⟩
  have HL := Lib.hid hn
  have AL := Lib.hid (fun k => (by have := autosA_le (l.take k); rw [List.length_take] at this; omega : autosA (l.take k) ≤ 2 * k))
  rw [hn] at hl5 ⊢
  clear hR hn
  go_enter Try.func25, Try.ntmps25
  go_wp2_with fail
  go_loopw [3, 7] (fun v3 v7 wr => ∃ (k m : Nat) (A1 : Option Addr) (c1 : Nat), v3 = .slice A1 m c1 ∧ v7 = .int .i64 k ∧ k ≤ n ∧ m ≤ 2 * k ∧ Hid (m = autosA (l.take k)) ∧ Hid (wr.ownsRow W.heap.size 3 1 (.slice A1 m c1) m (natV (autoK l k))) ∧ Hid (Below W.heap.size W wr)) (fun _ v7 _ => n - (intOf v7).toNat)
  case atStart => exact ⟨0, 0, none, 0, rfl, rfl, Nat.zero_le _, Nat.le_refl _, Lib.hid (by simp [autosA]), Lib.hid ⟨rfl, .inl ⟨rfl, rfl⟩⟩, Lib.hid (Below.refl _ _)⟩
  case round =>
    generalize wr = w1 at *
    obtain ⟨k, m, A1, c1, rfl, rfl, hk, hm, HM, O1, B1⟩ := hrel
    by_cases hlt : k < n
    · have hltz : (k : Int) < n := by omega
      have hkl : k < l.length := by rw [HL.out]; exact hlt
      obtain ⟨a1, rfl, hab1, -, -, -, d3, d4⟩ := Row.al (HR.out.below B1.out) hkl
      have AT := Lib.hid (autosA_take l hkl)
      have AI := Lib.hid (show autoI l k = (if l[k].ab then [2 * k] else []) ++ (if l[k].aa then [2 * k + 1] else []) by unfold autoI; rw [getA Al.ab false hkl, getA Al.aa false hkl])
      obtain ⟨ab, hab⟩ : ∃ b, l[k].ab = b := ⟨_, rfl⟩
      obtain ⟨aa, haa⟩ : ∃ b, l[k].aa = b := ⟨_, rfl⟩
      rw [hab] at d3 AT AI
      rw [haa] at AT AI
      clear d4 hab
      go_upto_if 14 with fail
      go_cut [3] from 15 to 19 (fun v3 wx => ∃ (A2 : Option Addr) (c2 m2 : Nat), v3 = .slice A2 m2 c2 ∧ m ≤ m2 ∧ m2 ≤ m + 1 ∧ Hid (m2 = m + bN ab) ∧ Hid (wx.ownsRow W.heap.size 3 1 (.slice A2 m2 c2) m2 (natV (autoK l k ++ if ab then [2 * k] else []))) ∧ Hid (Below W.heap.size W wx))
      case first =>
        cases ab with
        | false =>
          go_wp2_with fail
          go_meet
          exact ⟨A1, c1, m, rfl, Nat.le_refl _, by omega, Lib.hid rfl, Lib.hid (by rw [if_neg (by simp), List.append_nil]; exact O1.out), B1⟩
        | true =>
          go_wp2_with fail
          refine (ahead_any k (by omega) _).mono ?_
          rintro e w2 ⟨rfl, rfl⟩
          have O2 := Lib.hid (own_below O1.out ((Below.refl _ w1).alloc (Nat.le_refl _) (.cells #[.int .i64 ((2 * k : Nat) : Int)] 3)) (Nat.le_refl _))
          have B2 := Lib.hid (B1.out.alloc B1.out.size (.cells #[.int .i64 ((2 * k : Nat) : Int)] 3))
          clear O1 B1
          go_wp2_with (at_builtin; refine wpList_pushOne rfl (.tmp 15) (.tmp 18) _ rfl W.heap.size 3 1 8 (.int .i64 0) Try.underlying52 intA_info rfl (by decide) m (.slice A1 m c1) _ rfl O2.out B2.out.size w1.heap.size [.int .i64 ((2 * k : Nat) : Int)] rfl (Whole.mk w1 3 #[.int .i64 ((2 * k : Nat) : Int)]) rfl (by simp [Value.oneCell']) (by unfold maxLen; omega) (by omega) ?_; intro A5 c5 w5 h5 ho5 hk5)
          have O5 : Hid (w5.ownsRow W.heap.size 3 1 (.slice A5 (m + 1) c5) (m + 1) (natV (autoK l k ++ if true then [2 * k] else []))) := Lib.hid (by rw [if_pos rfl, natV_app]; exact h5)
          have B5 := Lib.hid (own_push O2.out B2.out B2.out.size ho5)
          clear h5 ho5 hk5 O2 B2
          go_wp2_with fail
          go_meet
          exact ⟨A5, c5, m + 1, rfl, by omega, by omega, Lib.hid rfl, O5, B5⟩
      case rest =>
        clear O1 d3
        obtain ⟨A2, c2, m2, rfl, h1, h2, HM2, O2, B2⟩ := hcut
        generalize wc = w2 at *
        obtain ⟨a2, he2, -, -, -, -, -, d4⟩ := Row.al (HR.out.below B2.out) hkl
        injection he2 with he2
        subst he2
        rw [haa] at d4
        clear haa
        obtain ⟨T, hT⟩ : ∃ T, (autoK l k ++ if ab then [2 * k] else []) = T := ⟨_, rfl⟩
        have HT := Lib.hid hT
        rw [hT] at O2
        clear hT
        cases aa with
        | false =>
          have O3 : Hid (w2.ownsRow W.heap.size 3 1 (.slice A2 m2 c2) m2 (natV (T ++ []))) := Lib.hid (by rw [List.append_nil]; exact O2.out)
          have AJ : Hid (autoI l k = (if ab then [2 * k] else []) ++ ([] : List Nat)) := Lib.hid AI.out
          clear O2 AI
          have O4 : Hid (w2.ownsRow W.heap.size 3 1 (.slice A2 m2 c2) m2 (natV (autoK l (k + 1)))) := Lib.hid (by
            have h := O3.out
            rw [← HT.out, List.append_assoc, ← AJ.out] at h
            exact h)
          have HM4 : Hid (m2 = autosA (l.take (k + 1))) := Lib.hid (by rw [AT.out, ← HM.out, HM2.out]; rfl)
          clear O3 HT AJ HM2 AT HM
          go_wp2_with fail
          go_roundw
          case rel => exact ⟨k + 1, m2, A2, c2, by go_num, by go_num, by omega, by omega, HM4, O4, B2⟩
          case measure => simp [intOf] <;> omega
        | true =>
          have AJ : Hid (autoI l k = (if ab then [2 * k] else []) ++ [2 * k + 1]) := Lib.hid AI.out
          clear AI
          go_wp2_with fail
          refine (behind_any k (by omega) _).mono ?_
          rintro e w3 ⟨rfl, rfl⟩
          have O3 := Lib.hid (own_below O2.out ((Below.refl _ w2).alloc (Nat.le_refl _) (.cells #[.int .i64 ((2 * k + 1 : Nat) : Int)] 3)) (Nat.le_refl _))
          have B3 := Lib.hid (B2.out.alloc B2.out.size (.cells #[.int .i64 ((2 * k + 1 : Nat) : Int)] 3))
          clear O2 B2
          go_upto_region 9 with (at_builtin; refine wpList_pushOne rfl (.tmp 25) (.tmp 28) _ rfl W.heap.size 3 1 8 (.int .i64 0) Try.underlying52 intA_info rfl (by decide) m2 (.slice A2 m2 c2) _ rfl O3.out B3.out.size w2.heap.size [.int .i64 ((2 * k + 1 : Nat) : Int)] rfl (Whole.mk w2 3 #[.int .i64 ((2 * k + 1 : Nat) : Int)]) rfl (by simp [Value.oneCell']) (by unfold maxLen; omega) (by omega) ?_; intro A5 c5 w5 h5 ho5 hk5)
          have O5 : Hid (w5.ownsRow W.heap.size 3 1 (.slice A5 (m2 + 1) c5) (m2 + 1) (natV (T ++ [2 * k + 1]))) := Lib.hid (by rw [natV_app]; exact h5)
          have B5 := Lib.hid (own_push O3.out B3.out B3.out.size ho5)
          clear h5 ho5 hk5 O3 B3
          have O4 : Hid (w5.ownsRow W.heap.size 3 1 (.slice A5 (m2 + 1) c5) (m2 + 1) (natV (autoK l (k + 1)))) := Lib.hid (by
            have h := O5.out
            rw [← HT.out, List.append_assoc, ← AJ.out] at h
            exact h)
          have HM4 : Hid ((m2 + 1) = autosA (l.take (k + 1))) := Lib.hid (by rw [AT.out, ← HM.out, HM2.out]; rfl)
          clear O5 HT AJ HM2 AT HM
          go_wp2_with fail
          go_roundw
          case rel => exact ⟨k + 1, (m2 + 1), A5, c5, by go_num, by go_num, by omega, by omega, HM4, O4, B5⟩
          case measure => simp [intOf] <;> omega
    · obtain rfl : n = k := by omega
      have hltz : ¬ (n : Int) < n := by omega
      have e1 : autosA (l.take n) = autosA l := by rw [List.take_of_length_le (by rw [HL.out]; omega)]
      have E := Lib.hid (HM.out.trans e1)
      clear HM e1
      go_wp2_with fail
      go_ret
      rw [← E.out]
      exact ⟨A1, c1, rfl, O1.out, B1.out⟩
end Go.Proofs.Yteaenomfighaoaa
