import Derived.Test.YtodnplllkpgfaaaFreeFzQ
import Derived.Test.YtodnplllkpgfaaaRefFreeQ
/- free: its line at the beginning; Resolve. -/
namespace Go.Proofs.Ytodnplllkpgfaaa
open Go Go.RowKit
set_option linter.unusedVariables false
set_option linter.unusedSimpArgs false
set_option maxRecDepth 20000
set_option maxHeartbeats 4000000

/-- The sizes before any turn. -/
def hV (l : List Fx) : List Value := l.map fun x => .int .i64 (hypF x)
theorem hV_len (l : List Fx) : (hV l).length = l.length := by simp [hV]
theorem hV_get {l : List Fx} {k : Nat} (h : k < l.length) : (hV l)[k]? = some (.int .i64 (hypF l[k])) := by simp [hV, h]
def hyS (l : List Fx) : Int := (l.map hypF).sum
theorem hyS_take (l : List Fx) {k : Nat} (h : k < l.length) : hyS (l.take (k + 1)) = hyS (l.take k) + hypF l[k] := by
  unfold hyS; rw [List.take_succ_eq_append_getElem h, List.map_append, List.sum_append]; simp
theorem arS_take (l : List Fx) {k : Nat} (h : k < l.length) : arS (l.take (k + 1)) = arS (l.take k) + l[k].around := by
  unfold arS; rw [List.take_succ_eq_append_getElem h, List.map_append, List.sum_append]; simp
theorem hyS_bd (l : List Fx) (h : ∀ x ∈ l, FxOk x) : 0 ≤ hyS l ∧ hyS l ≤ 8796093022208 * (l.length : Int) := by
  have l1 := sum_lo_by (f := hypF) (c := 0) l fun x hx => by have := hypF_bot x; have := botF_nn x; omega
  have l2 := sum_hi_by (f := hypF) (c := 8796093022208) l fun x hx => hypF_hi (h x hx)
  unfold hyS; omega
theorem arS_bd (l : List Fx) (h : ∀ x ∈ l, FxOk x) : -(8796093022208 * (l.length : Int)) ≤ arS l ∧ arS l ≤ 8796093022208 * (l.length : Int) :=
  ⟨sum_lo_by (f := Fx.around) l fun x hx => (h x hx).a0, sum_hi_by (f := Fx.around) l fun x hx => (h x hx).a1⟩
theorem grows_eq (inner : Int) (l : List Fx) : decide (hyS l < inner - arS l) = growsF inner l := by
  unfold growsF
  have e : (l.map (fun x => hypF x + x.around)).sum = hyS l + arS l := sum_add_by hypF Fx.around l
  rw [e, decide_eq_decide]; omega
section
variable {l : List Fx} {gr : Bool} {k : Nat}
theorem beg_len : (l.map (startI gr)).length = l.length := List.length_map _
/-- The second loop: one that is open has its base again. -/
theorem beg_open (h : k < l.length) (hf : (startI gr l[k]).fz = false) : (mixL (nowV (l.map (startI gr))) (hV l) k).set k (.int .i64 l[k].base) = mixL (nowV (l.map (startI gr))) (hV l) (k + 1) ∧ plcI 0 ((l.map (startI gr)).take (k + 1)) = plcI 0 ((l.map (startI gr)).take k) ++ [k] := by
  have hm : k < (l.map (startI gr)).length := by rw [List.length_map]; exact h
  have e : (l.map (startI gr))[k] = startI gr l[k] := List.getElem_map _
  refine ⟨mix_step (by rw [nowV_len, hV_len, List.length_map]) (by rw [hV_len]; exact h) ?_, ?_⟩
  · rw [nowV_get hm, e]; unfold nowI; rw [hf]; rfl
  · rw [plcI_take _ k hm, e, hf]; simp
theorem beg_frozen (h : k < l.length) (hf : (startI gr l[k]).fz = true) : mixL (nowV (l.map (startI gr))) (hV l) (k + 1) = mixL (nowV (l.map (startI gr))) (hV l) k ∧ plcI 0 ((l.map (startI gr)).take (k + 1)) = plcI 0 ((l.map (startI gr)).take k) := by
  have hm : k < (l.map (startI gr)).length := by rw [List.length_map]; exact h
  have e : (l.map (startI gr))[k] = startI gr l[k] := List.getElem_map _
  refine ⟨mix_stay (by rw [nowV_len, hV_len, List.length_map]) (by rw [hV_len]; exact h) ?_, ?_⟩
  · rw [nowV_get hm, e, hV_get h]; unfold nowI; rw [hf]; rfl
  · rw [plcI_take _ k hm, e, hf]; simp
end
theorem begin_any (l : List Fx) (A : Option Addr) (c : Nat) (inner : Int) (W : World) (hR : Row W W.heap.size A (l.flatMap fxC)) (hok : ∀ x ∈ l, FxOk x) (hl5 : l.length ≤ 500) (hr : InRoom inner) :
    Calls Try.prog 19 #[.slice A l.length c, .int .i64 inner] W fun e w' => ∃ gp gz, e = .returned (.pointer (some ⟨gp, 0, none⟩)) ∧ LnSt W w' gp gz l.length A c inner (growsF inner l) (l.map (startI (growsF inner l))) := by
  have HR := Lib.hid hR
  have HOK := Lib.hid hok
  have r1 := hr.lo
  have r2 := hr.hi
  have HB := Lib.hid (fun k => (⟨hyS_bd (l.take k) (fun x hx => hok x (List.mem_of_mem_take hx)), arS_bd (l.take k) (fun x hx => hok x (List.mem_of_mem_take hx))⟩ : (0 ≤ hyS (l.take k) ∧ hyS (l.take k) ≤ 8796093022208 * ((l.take k).length : Int)) ∧ (-(8796093022208 * ((l.take k).length : Int)) ≤ arS (l.take k) ∧ arS (l.take k) ≤ 8796093022208 * ((l.take k).length : Int))))
  obtain ⟨n, hn⟩ : ∃ n, l.length = n := ⟨_, rfl⟩
  have HN := Lib.hid hn
  rw [hn] at hl5 ⊢
  have HGR := Lib.hid (grows_eq inner l)
  obtain ⟨gr, hgr⟩ : ∃ g, growsF inner l = g := ⟨_, rfl⟩
  rw [hgr] at HGR ⊢
  clear hR hok hr hn hgr
  obtain ⟨i0, hi, hz0, hz1, hz2⟩ := info_parts i64e_info
  go_enter Try.func19, Try.ntmps19
  go_upto_region 2 with (at_make; refine wpList_make_full _ rfl _ _ 22 rfl W.heap.size 2 i0 (.int .i64 0) 1 Try.underlying22 hi hz0 hz1 .i64 .i64 _ _ n rfl rfl rfl rfl (by rw [hz2]; omega) (by unfold maxLen; omega) (Nat.le_refl _) ?_; intro w1 q1 q2; have O1 := Lib.hid q1; have G1 := Lib.hid (Only.of_grown q2); clear q1 q2)
  clear hi hz0 hz1 hz2
  have L0 : Hid (Ln W (w1.alloc (.cells #[.slice A n c, .int .i64 inner, .bool false, .slice none 0 0, .slice (some ⟨W.heap.size, 0, none⟩) n n] 45)) w1.heap.size W.heap.size n (.slice A n c) (inner - arS (l.take 0)) false none 0 0 [] (mixL (hV l) (List.replicate n (.int .i64 0)) 0)) := Lib.hid (by
    have e1 : (madeCells (Value.int .i64 0).cells (n * 1)).toList = List.replicate n (Value.int .i64 0) := by rw [Nat.mul_one]; exact toList_madeCells_one _ _
    have o := O1.out
    rw [e1] at o
    have b1 := G1.out.below (B := W.heap.size) (by simp) (Nat.le_refl _)
    have lt := o.lt W.heap.size rfl
    have e2 : inner - arS (l.take 0) = inner := by simp [arS]
    rw [mixL_zero, e2]
    exact ⟨Whole.mk w1 45 #[.slice A n c, .int .i64 inner, .bool false, .slice none 0 0, .slice (some ⟨W.heap.size, 0, none⟩) n n], own_below o ((Below.refl _ w1).alloc (Nat.le_refl _) _) (Nat.le_refl _), World.ownsRow_nil _ _ _ _, by omega, fun g hg => by simp [Value.ownBlock] at hg, b1.alloc b1.size _, b1.size⟩)
  clear O1 G1
  generalize w1.alloc _ = w2 at *
  obtain ⟨gp, hgp⟩ : ∃ g, w1.heap.size = g := ⟨_, rfl⟩
  obtain ⟨gz, hgz⟩ : ∃ g, W.heap.size = g := ⟨_, rfl⟩
  have L1 : Hid (Ln W w2 gp gz n (.slice A n c) (inner - arS (l.take 0)) false none 0 0 [] (mixL (hV l) (List.replicate n (.int .i64 0)) 0)) := by rw [← hgp, ← hgz]; exact L0
  rw [hgp, hgz]
  clear L0 hgp hgz
  go_wp2_with fail
  go_loopw [6, 18] (fun v6 v18 wr => ∃ k : Nat, v6 = .int .i64 (hyS (l.take k)) ∧ v18 = .int .i64 k ∧ k ≤ n ∧ Hid (Ln W wr gp gz n (.slice A n c) (inner - arS (l.take k)) false none 0 0 [] (mixL (hV l) (List.replicate n (.int .i64 0)) k))) (fun _ v18 _ => n - (intOf v18).toNat)
  case atStart => exact ⟨0, rfl, rfl, Nat.zero_le _, L1⟩
  case round =>
    clear L1
    obtain ⟨k, rfl, rfl, hk, L1⟩ := hrel
    have HB0 := HB.out k
    rw [List.length_take, HN.out] at HB0
    obtain ⟨⟨s0, s1⟩, ⟨t0, t1⟩⟩ := HB0
    by_cases hlt : k < n
    · have hltz : (k : Int) < n := by omega
      have hkl : k < l.length := by rw [HN.out]; exact hlt
      obtain ⟨ad, rfl, hb, X⟩ := Row.fxAt (HR.out.below L1.out.low) hkl
      have hx := HOK.out _ (List.getElem_mem hkl)
      have ST := Lib.hid (hyS_take l hkl)
      have AT := Lib.hid (arS_take l hkl)
      have hlm : (hV l).length = (List.replicate n (Value.int .i64 0)).length := by rw [hV_len, List.length_replicate, HN.out]
      have hmr : k < (List.replicate n (Value.int .i64 0)).length := by simpa using hlt
      have MS := Lib.hid (mix_step hlm hmr (hV_get hkl))
      have cz := rowG_cell (u := .int .i64 0) L1.out.zrow hlt (mix_get hlm hmr (by simp [hlt]))
      obtain ⟨x, hxe⟩ : ∃ x, l[k] = x := ⟨_, rfl⟩
      rw [hxe] at X hx ST AT MS
      have hbl : (ad.add (k * 6)).block < wr.heap.size := by have := L1.out.low.size; rw [add_block]; omega
      have HX := Lib.hid X
      have CLL : Hid (∀ w, Behind wr w → Calls Try.prog 24 #[.pointer (some (ad.add (k * 6))), .int .i64 x.base] w fun e w' => e = .returned (.int .i64 (clF x x.base)) ∧ w' = w) := Lib.hid (fun w hw => fclamp_any _ x x.base w (HX.out.below hw hbl) hx.m0)
      have c0 : ∀ t : Later wr.heap.size wr, t.w.cell? (ad.add (k * 6)) = some (.int .i64 x.base) := fun t => (t.h.cell (p := ad.add (k * 6)) hbl).trans X.c0
      have k4 : ∀ t : Later wr.heap.size wr, t.w.cell? ⟨gp, 4, none⟩ = some (.slice (some ⟨gz, 0, none⟩) n n) := fun t => (L1.out.cell.under t.h L1.out.cell.size).cell 4
      have h00 : 0 ≤ hypF x := by have := hypF_bot x; have := botF_nn x; omega
      have h1 := hypF_hi hx
      have a0 := hx.a0
      have a1 := hx.a1
      have hlmN := hlm
      clear hlm hmr hxe X hx
      go_upto_region 6 with fail
      refine region_lane [] (List.range 15) [15] (by kernel_rfl) (by kernel_rfl) (fun _ _ _ _ _ h => h) ?_
      simp only [pick, List.map_nil]
      refine wpQuiet_nil ⟨rfl, ?_⟩
      rw [show List.range 15 = [0, 1, 2, 3, 4, 5, 6, 7, 8, 9, 10, 11, 12, 13, 14] from rfl]
      simp only [List.map_cons, List.map_nil, List.getD_cons_zero, List.getD_cons_succ, List.drop_succ_cons, List.drop_zero]
      refine laneO_run 13 (by kernel_rfl) ?_
      simp only [List.take_succ_cons, List.take_zero, List.drop_succ_cons, List.drop_zero]
      repeat (go_big_quiet_step (fail))
      refine wpQuiet_nil ?_
      refine laneO_call (v := .int .i64 (clF x x.base)) (by kernel_rfl) (by rfl) (fun C hC h0 => ?_) ?_
      focus (go_big_quiet_op; exact ⟨_, fun w hw => (CLL.out w (h0 w hw)).mono fun e w' ⟨he, hb⟩ => ⟨he, hb ▸ hw⟩, rfl⟩)
      simp only [Act.put, List.setIfInBounds_toArray, List.set_cons_zero, List.set_cons_succ]
      refine laneO_run 1 (by kernel_rfl) ?_
      simp only [List.take_succ_cons, List.take_zero, List.drop_succ_cons, List.drop_zero]
      repeat (go_big_quiet_step (fail))
      refine wpQuiet_nil ?_
      refine laneO_end0 rfl rfl fun w8 hb0 => ?_
      have L2 := Lib.hid (L1.out.behind hb0)
      have X2 := Lib.hid (HX.out.below hb0 hbl)
      have cz2 := (hb0.cell (p := ⟨gz, k, none⟩) (rowG_lt L1.out.zrow).2).trans cz
      have fz2 := L2.out.zrow.frozenAt k
      clear c0 k4 CLL HX cz L1 hbl hb0
      have eh : clF x x.base = hypF x := rfl
      rw [eh]
      have L3 := L2.out.putZ k (.int .i64 (hypF x))
      rw [MS.out] at L3
      have cz3 : (w8.setCell ⟨gz, k, none⟩ (.int .i64 (hypF x))).cell? ⟨gz, k, none⟩ = some (.int .i64 (hypF x)) := by
        have h1 := L2.out.putZ k (.int .i64 (hypF x))
        exact rowG_cell h1.zrow hlt (by rw [List.getElem?_set_self (by have := h1.zrow.1; simp at this; omega)])
      have c5 : (w8.setCell ⟨gz, k, none⟩ (.int .i64 (hypF x))).cell? ⟨(ad.add (k * 6)).block, (ad.add (k * 6)).off + 5, none⟩ = some (.int .i64 x.around) := by
        have hlow := L2.out.low
        have hgz := (rowG_lt L2.out.zrow).1
        have hb1 : Below W.heap.size w8 (w8.setCell ⟨gz, k, none⟩ (.int .i64 (hypF x))) := (Below.refl _ _).setCell (p := ⟨gz, k, none⟩) hgz _
        exact (hb1.cell (p := ⟨(ad.add (k * 6)).block, (ad.add (k * 6)).off + 5, none⟩) (by rw [add_block]; exact hb)).trans X2.out.c5
      have cz3L : (mixL (hV l) (List.replicate n (.int .i64 0)) (k + 1))[k]? = some (.int .i64 (hypF x)) := by rw [← MS.out, List.getElem?_set_self (by rw [mixL_len hlmN (by rw [List.length_replicate]; omega)]; simpa using hlt)]
      have L3 := Lib.hid L3
      have k1 := L3.out.cell.cell 1
      have k4 := L3.out.cell.cell 4
      simp only [List.getElem?_cons_zero, List.getElem?_cons_succ] at k1 k4
      have f1 := L3.out.cell.free 1
      clear MS X2 hlmN
      go_upto_region 7 with fail
      clear L2 cz2 fz2
      generalize w8.setCell _ _ = w9 at *
      have L4 := Lib.hid (L3.out.putRoom (inner - arS (l.take k) - x.around))
      have LT : Hid (Ln W (w9.setCell ⟨gp, 1, none⟩ (.int .i64 (inner - arS (l.take k) - x.around))) gp gz n (.slice (some ad) n c) (inner - arS (l.take (k + 1))) false none 0 0 [] (mixL (hV l) (List.replicate n (.int .i64 0)) (k + 1))) := Lib.hid (by
        have h := L4.out
        rw [AT.out, show inner - (arS (l.take k) + x.around) = inner - arS (l.take k) - x.around by omega]
        exact h)
      have k4' := L4.out.cell.cell 4
      simp only [List.set_cons_zero, List.set_cons_succ, List.getElem?_cons_zero, List.getElem?_cons_succ] at k4'
      have cz4 : (w9.setCell ⟨gp, 1, none⟩ (.int .i64 (inner - arS (l.take k) - x.around))).cell? ⟨gz, k, none⟩ = some (.int .i64 (hypF x)) := by
        have h1 := L4.out.zrow
        exact rowG_cell h1 hlt cz3L
      clear L4 L3
      go_region
      all_goals go_wp2
      go_roundw
      case rel => exact ⟨k + 1, by rw [ST.out], by go_num, by omega, by first | exact LT | exact Lib.hid (LT.out.behind (Below.drewN' (Below.refl _ _) 1))⟩
      case measure => simp [intOf] <;> omega
    · obtain rfl : n = k := by omega
      have hltz : ¬ (n : Int) < n := by omega
      have e0 : l.take n = l := List.take_of_length_le (by rw [HN.out]; omega)
      rw [e0] at s0 s1 t0 t1 L1 ⊢
      have L2 : Hid (Ln W wr gp gz n (.slice A n c) (inner - arS l) false none 0 0 [] (hV l)) := Lib.hid (by
        have h := L1.out
        rw [mixL_end (by rw [hV_len, List.length_replicate, HN.out]) (by simp)] at h
        exact h)
      have RM : Hid (roomF inner ((l.map (startI gr)).map It.x) = inner - arS l) := Lib.hid (by
        have e : (l.map (startI gr)).map It.x = l := by rw [List.map_map]; exact List.map_id l
        rw [e]; rfl)
      clear e0 L1
      have zg : decide (hyS l < inner - arS l) = gr := HGR.out
      obtain ⟨rm, hrm⟩ : ∃ r, inner - arS l = r := ⟨_, rfl⟩
      rw [hrm] at L2 RM zg
      clear hrm
      have k1 := L2.out.cell.cell 1
      have k2 := L2.out.cell.cell 2
      simp only [List.getElem?_cons_zero, List.getElem?_cons_succ] at k1 k2
      have f2 := L2.out.cell.free 2
      have L3 : Hid (Ln W (wr.setCell ⟨gp, 2, none⟩ (.bool gr)) gp gz n (.slice A n c) rm gr none 0 0 (plcV (plcI 0 ((l.map (startI gr)).take 0))) (mixL (nowV (l.map (startI gr))) (hV l) 0)) := Lib.hid (by
        rw [mixL_zero]
        exact L2.out.putGr gr)
      clear L2
      go_upto_region 11 with fail
      clear k1 k2 f2 zg
      generalize wr.setCell _ _ = w3 at *
      go_wp2_with fail
      go_loopw [69] (fun v69 wr => ∃ (k mo co : Nat) (Ao : Option Addr), v69 = .int .i64 k ∧ k ≤ n ∧ mo ≤ 500 ∧ Hid (mo = (plcI 0 ((l.map (startI gr)).take k)).length) ∧ Hid (Ln W wr gp gz n (.slice A n c) rm gr Ao mo co (plcV (plcI 0 ((l.map (startI gr)).take k))) (mixL (nowV (l.map (startI gr))) (hV l) k))) (fun v69 _ => n - (intOf v69).toNat)
      case atStart => exact ⟨0, 0, 0, none, rfl, Nat.zero_le _, by omega, Lib.hid rfl, L3⟩
      case round =>
        clear L3
        obtain ⟨k, mo, co, Ao, rfl, hk, hmo, HM, L3⟩ := hrel
        by_cases hlt : k < n
        · have hltz : (k : Int) < n := by omega
          have hkl : k < l.length := by rw [HN.out]; exact hlt
          obtain ⟨ad, rfl, hb, X⟩ := Row.fxAt (HR.out.below L3.out.low) hkl
          have hx := HOK.out _ (List.getElem_mem hkl)
          have hlm : (nowV (l.map (startI gr))).length = (hV l).length := by rw [nowV_len, hV_len, List.length_map]
          have cz : ∀ q, (wr.drewN q).cell? ⟨gz, k, none⟩ = some (.int .i64 (hypF l[k])) := fun q => rowG_cell L3.out.zrow hlt (mix_get hlm (by rw [hV_len]; exact hkl) (hV_get hkl))
          have k4 : ∀ q, (wr.drewN q).cell? ⟨gp, 4, none⟩ = some (.slice (some ⟨gz, 0, none⟩) n n) := fun q => L3.out.cell.cell 4
          have k2 : ∀ q, (wr.drewN q).cell? ⟨gp, 2, none⟩ = some (.bool gr) := fun q => L3.out.cell.cell 2
          have BO := Lib.hid (fun hf => beg_open (gr := gr) hkl hf)
          have BF := Lib.hid (fun hf => beg_frozen (gr := gr) hkl hf)
          obtain ⟨x, hxe⟩ : ∃ x, l[k] = x := ⟨_, rfl⟩
          rw [hxe] at X hx cz BO BF
          have hbl : (ad.add (k * 6)).block < wr.heap.size := by have := L3.out.low.size; rw [add_block]; omega
          have hc := fun q => fturns_any (ad.add (k * 6)) x gr (wr.drewN q) (X.below (Below.drewN' (Below.refl wr.heap.size wr) q) hbl) hx
          have HX := Lib.hid X
          clear hlm hxe X hx
          go_upto_region 14 with fail
          go_quiet (first | (refine Calls.quiet_of_same (hc _)))
          have L4 := Lib.hid (L3.out.behind (Below.drewN' (Below.refl wr.heap.size wr) nq))
          have X4 := Lib.hid (HX.out.below (Below.drewN' (Below.refl wr.heap.size wr) nq) hbl)
          clear L3 HX cz k4 k2 hc hbl
          generalize wr.drewN nq = w4 at *
          cases hf : (startI gr x).fz with
          | true =>
            obtain ⟨b1, b2⟩ := BF.out hf
            have L5 : Hid (Ln W w4 gp gz n (.slice (some ad) n c) rm gr Ao mo co (plcV (plcI 0 ((l.map (startI gr)).take (k + 1)))) (mixL (nowV (l.map (startI gr))) (hV l) (k + 1))) := Lib.hid (by rw [b1, b2]; exact L4.out)
            have M5 : Hid (mo = (plcI 0 ((l.map (startI gr)).take (k + 1))).length) := Lib.hid (by rw [b2]; exact HM.out)
            clear b1 b2 BF BO L4 X4 hf
            go_wp2_with fail
            go_roundw
            case rel => exact ⟨k + 1, mo, co, Ao, by go_num, by omega, by omega, M5, L5⟩
            case measure => simp [intOf] <;> omega
          | false =>
            obtain ⟨b1, b2⟩ := BO.out hf
            have B1 := Lib.hid b1
            have B2 := Lib.hid b2
            have c0 := X4.out.c0
            have k4 := L4.out.cell.cell 4
            simp only [List.getElem?_cons_zero, List.getElem?_cons_succ] at k4
            have cz : ∃ u, w4.cell? ⟨gz, k, none⟩ = some u := by
              rw [L4.out.zrow.cellAt k (by omega), List.getElem?_eq_getElem (by have := L4.out.zrow.1; omega)]; exact ⟨_, rfl⟩
            obtain ⟨u, cz⟩ := cz
            have fz := L4.out.zrow.frozenAt k
            have L5 := L4.out.putZ k (.int .i64 x.base)
            rw [b1] at L5
            have L5 := Lib.hid L5
            clear b1 b2 BF BO hf X4 L4
            go_upto_region 15 with fail
            go_cut [] from 70 to 108 (fun wx => ∃ q, wx = (w4.setCell ⟨gz, k, none⟩ (.int .i64 x.base)).drewN q)
            case first =>
              go_region
              all_goals (go_wp2_with fail; go_meet)
              all_goals exact ⟨_, rfl⟩
            case rest =>
              obtain ⟨q, rfl⟩ := hcut
              have L6 := Lib.hid (L5.out.behind (Below.drewN' (Below.refl _ _) q))
              clear L5 cz fz c0 k4
              generalize (w4.setCell ⟨gz, k, none⟩ (.int .i64 x.base)).drewN q = w5 at *
              have FA := Lib.hid (L6.out.behind ((Below.refl w5.heap.size w5).alloc (Nat.le_refl _) (.cells #[.int .i64 (k : Int)] 3)))
              have k3 := L6.out.cell.cell 3
              simp only [List.getElem?_cons_zero, List.getElem?_cons_succ] at k3
              go_upto_region 17 with (at_builtin; refine wpList_pushOne rfl (.tmp 102) (.tmp 104) _ rfl W.heap.size 3 1 8 (.int .i64 0) Try.underlying43 int1_info rfl (by decide) mo (.slice Ao mo co) _ rfl FA.out.orow FA.out.low.size w5.heap.size [.int .i64 (k : Int)] rfl (Whole.mk w5 3 #[.int .i64 (k : Int)]) rfl (by simp [Value.oneCell']) (by unfold maxLen; omega) (by omega) ?_; intro A5 c5 w6 h5 ho5 hk5; obtain ⟨P1, P2, P3⟩ := FA.out.pushed h5 ho5 hk5; have P1 := Lib.hid P1; have k3' := P2.cell 3; have f3' := P2.free 3; clear h5 ho5 hk5 P2 P3)
              have L7 : Hid (Ln W (w6.setCell ⟨gp, 3, none⟩ (.slice A5 (mo + 1) c5)) gp gz n (.slice (some ad) n c) rm gr A5 (mo + 1) c5 (plcV (plcI 0 ((l.map (startI gr)).take (k + 1)))) (mixL (nowV (l.map (startI gr))) (hV l) (k + 1))) := Lib.hid (by
                rw [B2.out]
                have e : plcV (plcI 0 ((l.map (startI gr)).take k) ++ [k]) = plcV (plcI 0 ((l.map (startI gr)).take k)) ++ [.int .i64 (k : Int)] := by simp [plcV]
                rw [e]
                exact P1.out)
              have M7 : Hid (mo + 1 = (plcI 0 ((l.map (startI gr)).take (k + 1))).length) := Lib.hid (by rw [B2.out, List.length_append, ← HM.out]; rfl)
              have hm7 : mo + 1 ≤ 500 := by
                have h1 := open_le ((l.map (startI gr)).take (k + 1))
                rw [M7.out, plcI_len]
                rw [List.length_take] at h1
                omega
              clear k3' f3' k3 FA L6
              go_wp2_with fail
              go_roundw
              case rel => exact ⟨k + 1, mo + 1, c5, A5, by go_num, by omega, by omega, M7, L7⟩
              case measure => simp [intOf] <;> omega
        · obtain rfl : n = k := by omega
          have hltz : ¬ (n : Int) < n := by omega
          have e1 : (l.map (startI gr)).take n = l.map (startI gr) := List.take_of_length_le (by rw [List.length_map, HN.out]; omega)
          rw [e1] at HM L3
          have LN : Hid (LnSt W wr gp gz n A c inner gr (l.map (startI gr))) := Lib.hid (by
            have h := L3.out
            rw [mixL_end (by rw [nowV_len, hV_len, List.length_map]) (by rw [hV_len, HN.out]), HM.out] at h
            unfold LnSt
            rw [RM.out]
            exact ⟨_, _, h⟩)
          clear e1 L3 HM
          go_wp2_with fail
          go_ret
          exact ⟨gp, rfl, gz, LN.out⟩
/-- How many are open, as the line's block tells it. -/
def lenAt (g : Nat) (w : World) : Nat := match w.cell? ⟨g, 3, none⟩ with | some (.slice _ n _) => n | _ => 0
theorem LnSt.lenAt {W w : World} {gp gz n : Nat} {A : Option Addr} {c : Nat} {inner : Int} {gr : Bool} {st : List It} (h : LnSt W w gp gz n A c inner gr st) : Go.Proofs.Ytodnplllkpgfaaa.lenAt gp w = openI st := by
  obtain ⟨Ao, co, L⟩ := h
  unfold Go.Proofs.Ytodnplllkpgfaaa.lenAt
  have k3 := L.cell.cell 3
  simp only [List.getElem?_cons_zero, List.getElem?_cons_succ] at k3
  rw [k3]
  exact plcI_len st 0
theorem fres_any (l : List Fx) (A : Option Addr) (c : Nat) (inner : Int) (W : World) (hR : Row W W.heap.size A (l.flatMap fxC)) (hm : l.length ≤ 9223372036854775807) :
    Calls Try.prog 9 #[.slice A l.length c, .int .i64 inner] W (ResPost inner l W) := by
  have HR := Lib.hid hR
  have OK := Lib.hid (fok_any l A c W hR hm)
  clear hR
  have none_ : (okL l && inR inner) = false → ∀ w, Below W.heap.size W w → ResPost inner l W (.returned (.slice none 0 0)) w := fun hok w hw => by
    have e : resF inner l = [] := by unfold resF; rw [hok]; rfl
    unfold ResPost
    rw [e]
    exact ⟨none, 0, rfl, ⟨rfl, .inl ⟨rfl, rfl⟩⟩, hw⟩
  have NO := Lib.hid none_
  clear none_
  cases ho : okL l with
  | false =>
    have N1 := Lib.hid (NO.out (by rw [ho]; rfl))
    rw [ho] at OK
    clear NO ho
    go_enter Try.func9, Try.ntmps9
    go_wp2_with fail
    refine OK.out.mono ?_
    rintro e w1 ⟨rfl, hb1⟩
    have N2 := Lib.hid (N1.out w1 hb1)
    clear hb1 OK
    go_wp2_with fail
    go_ret
    exact N2.out
  | true =>
    rw [ho] at OK NO
    have BT := Lib.hid (fun w => between_any (-8796093022208) inner 36028797018963968 (inR inner) rfl w)
    cases hi : inR inner with
    | false =>
      have N1 := Lib.hid (NO.out (by rw [hi]; rfl))
      rw [hi] at BT
      clear NO ho hi
      go_enter Try.func9, Try.ntmps9
      go_wp2_with fail
      refine OK.out.mono ?_
      rintro e w1 ⟨rfl, hb1⟩
      have N2 := Lib.hid (N1.out w1 hb1)
      clear hb1 OK
      go_wp2_with fail
      refine (BT.out _).mono ?_
      rintro e wq ⟨rfl, hwq⟩
      obtain rfl : w1 = wq := hwq.symm
      go_wp2_with fail
      go_ret
      exact N2.out
    | true =>
      have hr2 : InRoom inner := by unfold inR at hi; rw [Bool.and_eq_true, decide_eq_true_eq, decide_eq_true_eq] at hi; exact ⟨hi.1, hi.2⟩
      have hl5 : l.length ≤ 500 := by unfold okL at ho; rw [Bool.and_eq_true, decide_eq_true_eq] at ho; exact ho.2
      have hfx : ∀ x ∈ l, FxOk x := fun x hx => by unfold okL at ho; rw [Bool.and_eq_true, List.all_eq_true] at ho; exact okF_iff.1 (ho.1 x hx)
      have HRS : Hid (resF inner l = sizesF inner l) := Lib.hid (by unfold resF; rw [ho, hi]; rfl)
      have HE : Hid ((l.map (startI (growsF inner l))).map It.x = l) := Lib.hid (by rw [List.map_map]; exact List.map_id l)
      have RS : Hid (RI (growsF inner l) inner (l.map (startI (growsF inner l)))) := Lib.hid (RI.start hr2 hfx hl5)
      have RK : Hid (∃ k, openI (l.map (startI (growsF inner l))) ≤ k ∧ (runI (growsF inner l) inner k (l.map (startI (growsF inner l)))).map It.s = sizesF inner l) := Lib.hid ⟨l.length, by have := open_le (l.map (startI (growsF inner l))); simpa using this, rfl⟩
      rw [hi] at BT
      have BG := Lib.hid (fun (W1 : World) (h : Row W1 W1.heap.size A (l.flatMap fxC)) => begin_any l A c inner W1 h hfx hl5 hr2)
      obtain ⟨gr, hgr⟩ : ∃ g, growsF inner l = g := ⟨_, rfl⟩
      rw [hgr] at HE RS RK BG
      obtain ⟨n, hn⟩ : ∃ n, l.length = n := ⟨_, rfl⟩
      have HN := Lib.hid hn
      rw [hn] at OK BG hl5 ⊢
      clear NO ho hi hr2 hfx hgr hn
      go_enter Try.func9, Try.ntmps9
      go_wp2_with fail
      refine OK.out.mono ?_
      rintro e w1 ⟨rfl, hb1⟩
      have B1 := Lib.hid hb1
      have HR1 := Lib.hid ((HR.out.below hb1).more hb1.size)
      clear hb1 OK
      go_wp2_with fail
      refine (BT.out _).mono ?_
      rintro e wq ⟨rfl, hwq⟩
      obtain rfl : w1 = wq := hwq.symm
      clear BT
      go_wp2_with fail
      refine (BG.out w1 HR1.out).mono ?_
      rintro e w2 ⟨gp, gz, rfl, ln⟩
      have L0 := Lib.hid ln
      clear ln BG
      go_wp2_with fail
      go_loopw [] (fun wr => ∃ st : List It, Hid (st.map It.x = l) ∧ Hid (RI gr inner st) ∧ Hid (∃ k, openI st ≤ k ∧ (runI gr inner k st).map It.s = sizesF inner l) ∧ Hid (LnSt w1 wr gp gz n A c inner gr st)) (fun wr => lenAt gp wr)
      case atStart => exact ⟨_, HE, RS, RK, L0⟩
      case round =>
        clear HE RS RK L0
        obtain ⟨st, SX, SR, SK, L0⟩ := hrel
        have HSN : st.length = n := by have h := congrArg List.length SX.out; rw [List.length_map, HN.out] at h; exact h
        have hob := open_le st
        rw [HSN] at hob
        have LA := Lib.hid L0.out.lenAt
        have FZ := Lib.hid (freeze_any L0.out SR.out HSN (by rw [SX.out]; exact HR1.out))
        have HSN := Lib.hid HSN
        obtain ⟨Ao, co, L⟩ := L0.out
        have HL := Lib.hid L
        have k3 := L.cell.cell 3
        have k4 := L.cell.cell 4
        simp only [List.getElem?_cons_zero, List.getElem?_cons_succ] at k3 k4
        rw [plcI_len] at k3
        by_cases h0 : 0 < openI st
        · have h0z : ((openI st : Nat) : Int) > 0 := by omega
          have lt := round_open (g := gr) (inner := inner) (l := st) (by omega)
          obtain ⟨k0, hk0, hrun⟩ := SK.out
          obtain ⟨k1, hk1, hr1, ho1⟩ := runI_more (g := gr) (inner := inner) (by omega) hk0
          have RX : Hid ((roundI gr inner st).map It.x = l) := Lib.hid (by rw [roundI_x]; exact SX.out)
          have RR := Lib.hid (SR.out.step (by omega))
          have RK2 : Hid (∃ k, openI (roundI gr inner st) ≤ k ∧ (runI gr inner k (roundI gr inner st)).map It.s = sizesF inner l) := Lib.hid ⟨k1, ho1, by rw [← hr1]; exact hrun⟩
          have LT := Lib.hid lt
          clear hk1 hr1 ho1 hrun hk0 L HL SK lt k4
          go_wp2_with fail
          refine FZ.out.mono ?_
          rintro e w3 ⟨rfl, ln⟩
          have L3 := Lib.hid ln
          have LB := Lib.hid ln.lenAt
          clear ln FZ k3
          go_wp2_with fail
          go_roundw
          case rel => exact ⟨roundI gr inner st, RX, RR, RK2, L3⟩
          case measure =>
            show lenAt gp w3 < lenAt gp wr
            rw [LA.out, LB.out]
            exact LT.out
        · have h0z : ¬ ((openI st : Nat) : Int) > 0 := by omega
          have PO : Hid (ResPost inner l W (.returned (.slice (some ⟨gz, 0, none⟩) n n)) wr) := Lib.hid (by
            obtain ⟨k, hk, e⟩ := SK.out
            rw [runI_same k st (by omega)] at e
            have e3 : n = (sizesF inner l).length := by rw [sizesF_len, HN.out]
            unfold ResPost
            rw [HRS.out, ← e3]
            refine ⟨_, _, rfl, ?_, B1.out.trans (HL.out.low.mono B1.out.size)⟩
            have hfz := open_zero (show openI st = 0 by omega)
            have e4 : nowV st = i64s (sizesF inner l) := by
              rw [← e]
              unfold nowV i64s
              rw [List.map_map]
              refine List.map_congr_left fun i hi => ?_
              unfold nowI
              rw [hfz i hi]; rfl
            rw [← e4]
            exact own_raise HL.out.zrow (fun g hg => Nat.le_trans B1.out.size (HL.out.zrow.lt g hg).1))
          clear FZ SK HL L
          go_wp2_with fail
          go_ret
          exact PO.out
end Go.Proofs.Ytodnplllkpgfaaa
