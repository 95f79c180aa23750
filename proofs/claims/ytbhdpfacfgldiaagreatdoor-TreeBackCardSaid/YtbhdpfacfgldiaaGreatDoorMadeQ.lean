import Derived.Test.YtbhdpfacfgldiaaGreatDoorZVQ
import Derived.Test.YtbhdpfacfgldiaaGreatDoorLaw6DataQ
import Derived.BigQuiet
import Derived.Test.YtbhdpfacfgldiaaGreatDoorZSQ
import Derived.Test.YtbhdpfacfgldiaaGreatDoorZUQ
/- quoinlaw6.Made. -/
namespace Go.Proofs.YtbhdpfacfgldiaaGreatDoor
open Go Go.RowKit
set_option linter.unusedVariables false
set_option linter.unusedSimpArgs false
set_option maxRecDepth 20000
set_option maxHeartbeats 4000000

/-- The tree's variable, while it is made. -/
structure MadeSt (W w : World) (g : Nat) (L : List Nd) (A : Option Addr) (c : Nat) : Prop where
  whole : Whole w g 40 [.int .i64 500, .slice A L.length c]
  list : R6 w (.slice A L.length c) L
  below : Below W.heap.size W w
  after : W.heap.size ≤ g
  ofb : ofB 500 L = true
theorem MadeSt.behind {W w w' : World} {g : Nat} {L : List Nd} {A : Option Addr} {c : Nat} (h : MadeSt W w g L A c) (hb : Below w.heap.size w w') : MadeSt W w' g L A c :=
  ⟨h.whole.under hb h.whole.size, h.list.behind hb, h.below.trans (hb.mono h.below.size), h.after, h.ofb⟩
theorem ofb_few {L : List Nd} (h : ofB 500 L = true) : 0 < L.length ∧ L.length ≤ 500 := by
  have h1 := of_ok 500 L h
  have h2 := of_most 500 L h
  obtain ⟨r, R, e, -⟩ := h1.root
  have h3 : mostZ 500 = 500 := rfl
  rw [h3] at h2
  subst e
  exact ⟨by simp, by omega⟩
theorem made_any (zs : List Int) (A : Option Addr) (c : Nat) (W : World) (hR : Row W W.heap.size A (i64s zs)) (hm : zs.length ≤ 9223372036854775807) :
    Calls Tryz.prog 6 #[.slice A zs.length c] W fun e w' => ∃ v L, e = .returned v ∧ ofB 500 L = true ∧ R6 w' v L ∧ Below W.heap.size W w' := by
  have aF : ∀ x : Int, bits .and .i64 x 65535 = x % 65536 := fun x => and_mask_i64 x 16 (by decide)
  have a255 : ∀ x : Int, bits .and .i64 x 255 = x % 256 := fun x => and_mask_i64 x 8 (by decide)
  have a3 : ∀ x : Int, bits .and .i64 x 3 = x % 4 := fun x => and_mask_i64 x 2 (by decide)
  have a1 : ∀ x : Int, bits .and .i64 x 1 = x % 2 := fun x => and_mask_i64 x 1 (by decide)
  have HR := Lib.hid hR
  clear hR
  go_enter Tryz.func6, Tryz.ntmps6
  go_wp2_with fail
  refine (rnew_any 500 W).mono ?_
  rintro e w1 ⟨g1, rfl, ho1, hb1⟩
  have O1 := Lib.hid ho1
  have B1 := Lib.hid hb1
  clear ho1 hb1
  rw [show (mostZ 500 : Int) = 500 from rfl]
  have Y0 := Lib.hid (Whole.mk w1 40 #[.int .i64 0, .slice none 0 0])
  have hal := (Below.refl w1.heap.size w1).alloc (Nat.le_refl _) (.cells #[.int .i64 0, .slice none 0 0] 40)
  have S1 : Hid (R6 w1 (.slice (some ⟨g1, 0, none⟩) 1 1) [root0]) := Lib.hid (O1.out.r6 rfl (Nat.le_refl _) (by intro x hx; simp at hx; subst hx; rfl) (by decide))
  have S0 := Lib.hid (S1.out.behind hal)
  have B0 := Lib.hid (B1.out.trans (hal.mono B1.out.size))
  have hz := B1.out.size
  clear hal O1 S1
  go_upto_region 2 with (refine cells_store rtree_flat (.tmp 3) (.tmp 9) rfl rfl w1.heap.size rfl [.int .i64 500, .slice (some ⟨g1, 0, none⟩) 1 1] rfl (by simp [Value.oneCell']) rfl 40 [.int .i64 0, .slice none 0 0] ?_ rfl ?_; (focus (exact Y0.out)); intro w2 h2 o2; have R2 := Lib.hid h2; have O2 := Lib.hid o2; clear h2 o2)
  have M0 : Hid (MadeSt W w2 w1.heap.size [root0] (some ⟨g1, 0, none⟩) 1) := Lib.hid ⟨R2.out, S0.out.past Y0.out O2.out, B0.out.trans (O2.out.below (B := W.heap.size) (by simp; omega) B0.out.size), hz, rfl⟩
  clear Y0 S0 B0 R2 O2
  generalize w1.heap.size = g at *
  go_upto_region 3 with fail
  go_loopw [4] (fun v4 wr => ∃ (i c : Nat) (A : Option Addr) (L : List Nd), i ≤ 41 ∧ v4 = .int .i64 i ∧ Hid (MadeSt W wr g L A c)) (fun v4 _ => 50 - (intOf v4).toNat)
  case atStart => exact ⟨0, 1, some ⟨g1, 0, none⟩, [root0], by omega, rfl, M0⟩
  case round =>
    clear M0
    obtain ⟨i, c2, A2, L, hi, rfl, M⟩ := hrel
    have HRr := Lib.hid (HR.out.below M.out.below)
    have hz0 := M.out.below.size
    by_cases hlt : i + 1 < zs.length ∧ i < 40
    · obtain ⟨hl1, hl2⟩ := hlt
      have hli : (i : Int) + 1 < zs.length := by omega
      have hl0 : i < zs.length := by omega
      have hl40 : (i : Int) < 40 := by omega
      obtain ⟨ad, rfl, hbA, hcA⟩ := HRr.out.int hl0
      obtain ⟨ad2, e2, hbB, hcB⟩ := HRr.out.int hl1
      cases e2
      generalize zs[i] = n at *
      generalize zs[i + 1] = z at *
      obtain ⟨q1, q2⟩ := ofb_few M.out.ofb
      obtain ⟨Am, cm, em, hid⟩ := M.out.list.at_
      cases em
      have X := M.out.whole
      have x0 : wr.cell? ⟨g, 0, none⟩ = some (.int .i64 500) := X.cell 0
      have x1 : wr.cell? ⟨g, 1, none⟩ = some (.slice A2 L.length c2) := X.cell 1
      clear X
      go_upto_region 6 with fail
      have hln : (L.length : Int) ≠ 0 := by omega
      obtain ⟨q, hq, hql⟩ : ∃ q : Nat, (n / 16 % 65536) % (L.length : Int) = q ∧ q < L.length := by
        have h0 : 0 ≤ (n / 16 % 65536) % (L.length : Int) := Int.emod_nonneg _ hln
        have h1 : (n / 16 % 65536) % (L.length : Int) < L.length := Int.emod_lt_of_pos _ (by omega)
        exact ⟨((n / 16 % 65536) % (L.length : Int)).toNat, by omega, by omega⟩
      obtain ⟨am, rfl, hbM, hcM⟩ := hid q hql
      generalize L[q].id = at_ at *
      go_quiet (fail)
      have hbd := Below.drewN' (Below.refl wr.heap.size wr) nq
      have M3 := Lib.hid (M.out.behind hbd)
      have hcA3 : (wr.drewN nq).cell? (ad.add i) = some (.int .i64 n) := hcA
      have hcB3 : (wr.drewN nq).cell? ⟨ad.block, ad.off + (i + 1), none⟩ = some (.int .i64 z) := by
        have h1 : wr.cell? ⟨ad.block, ad.off + (i + 1), none⟩ = some (.int .i64 z) := by
          have h2 := hcB
          unfold Addr.add at h2
          rw [if_neg (by omega)] at h2
          exact h2
        exact h1
      have hz3 : W.heap.size ≤ (wr.drewN nq).heap.size := hz0
      clear hbd hcA hcB hz0 HRr M x0 x1 hid hcM hbM
      generalize wr.drewN nq = w3 at *
      generalize n / 16 % 65536 % (L.length : Int) = nz at *
      clear hq hln
      obtain ⟨idz, hidz⟩ : ∃ z : Int, n / 1048576 % 256 % 40 + 1 = z := ⟨_, rfl⟩
      have t40 : (n / 1048576 % 256).tmod 40 = n / 1048576 % 256 % 40 := Int.tmod_eq_emod_of_nonneg (by omega)
      go_upto_region 8 with fail
      have hal := (Below.refl w3.heap.size w3).alloc (Nat.le_refl _) (.cells #[.int .i64 1, .int .i64 idz, .int .i64 at_, .int .i64 (-1), .string ⟨#[]⟩] 54)
      have P4 := Lib.hid (Whole.mk w3 54 #[.int .i64 1, .int .i64 idz, .int .i64 at_, .int .i64 (-1), .string ⟨#[]⟩])
      have B4 := Lib.hid hal
      have hz4 : (w3.alloc (.cells #[.int .i64 1, .int .i64 idz, .int .i64 at_, .int .i64 (-1), .string ⟨#[]⟩] 54)).heap.size = w3.heap.size + 1 := by simp
      clear hal hidz t40
      generalize w3.alloc _ = w4 at *
      have M4 := Lib.hid (M3.out.behind B4.out)
      have X := M4.out.whole
      have x0 : w4.cell? ⟨g, 0, none⟩ = some (.int .i64 500) := X.cell 0
      have x1 : w4.cell? ⟨g, 1, none⟩ = some (.slice (some am) L.length c2) := X.cell 1
      clear X
      go_wp2_with fail
      refine (rkids_any 500 _ L at_ w4 M4.out.list.see (by omega)).mono ?_
      rintro e w5 ⟨v5, rfl, hk5, b5⟩
      have hk6 := hk5.at_
      have B5 := Lib.hid (B4.out.trans (b5.mono B4.out.size))
      have P5 := Lib.hid (P4.out.under b5 (by omega))
      clear hk5 b5 P4 B4 M4 x0 x1
      obtain ⟨Ak, ck, rfl, hRk, hKl⟩ := hk6
      have HK := Lib.hid hRk
      clear hRk
      generalize kidsZ L at_ = K at *
      obtain ⟨d6, hd6⟩ : ∃ d, (bits BinOp.and .i64 n 6 == 6) = d := ⟨_, rfl⟩
      by_cases hk0 : K.length = 0
      · have b1 : ¬ 0 < K.length := by omega
        clear hk0 HK
        go_upto_region 11 with fail
        cases d6
        rotate_left
        · have c0 : w5.cell? ⟨w3.heap.size, 0, none⟩ = some (.int .i64 1) := P5.out.cell 0
          have f0 : w5.frozen? ⟨w3.heap.size, 0, none⟩ = false := P5.out.free 0
          go_upto_region 13 with fail
          have P7 := Lib.hid (P5.out.put 0 (.int .i64 2))
          have B7 := Lib.hid (B5.out.setCell (p := ⟨w3.heap.size, 0, none⟩) (Nat.le_refl _) (.int .i64 2))
          clear c0 f0 P5 B5
          generalize w5.setCell _ _ = w7 at *
          have hc7 : w7.cell? ⟨ad.block, ad.off + (i + 1), none⟩ = some (.int .i64 z) := (B7.out.cell (by simp; omega)).trans hcB3
          go_wp2_with fail
          refine (data_any z w7).mono ?_
          rintro e w8 ⟨s8, rfl, hs8, b8⟩
          have B8 := Lib.hid (B7.out.trans (b8.mono B7.out.size))
          have P8 := Lib.hid (P7.out.under b8 P7.out.size)
          clear b8 hs8 hc7 B7 P7
          have c4 : w8.cell? ⟨w3.heap.size, 4, none⟩ = some (.string ⟨#[]⟩) := P8.out.cell 4
          have f4 : w8.frozen? ⟨w3.heap.size, 4, none⟩ = false := P8.out.free 4
          go_upto_region 15 with fail
          have P9 := Lib.hid (P8.out.put 4 (.string s8))
          have B9 := Lib.hid (B8.out.setCell (p := ⟨w3.heap.size, 4, none⟩) (Nat.le_refl _) (.string s8))
          clear c4 f4 P8 B8
          generalize w8.setCell _ _ = w9 at *
          have M9 := Lib.hid (M3.out.behind B9.out)
          have Y := M9.out.whole
          have x0 : w9.cell? ⟨g, 0, none⟩ = some (.int .i64 500) := Y.cell 0
          have x1 : w9.cell? ⟨g, 1, none⟩ = some (.slice (some am) L.length c2) := Y.cell 1
          have o0 : w9.cell? ⟨w3.heap.size, 0, none⟩ = some (.int .i64 2) := P9.out.cell 0
          have o1 : w9.cell? ⟨w3.heap.size, 1, none⟩ = some (.int .i64 idz) := P9.out.cell 1
          have o2 : w9.cell? ⟨w3.heap.size, 2, none⟩ = some (.int .i64 at_) := P9.out.cell 2
          have o3 : w9.cell? ⟨w3.heap.size, 3, none⟩ = some (.int .i64 (-1)) := P9.out.cell 3
          have o4 : w9.cell? ⟨w3.heap.size, 4, none⟩ = some (.string s8) := P9.out.cell 4
          clear Y P9
          go_wp2_with fail
          refine (rdo_make 500 _ L ⟨2, idz, at_, (-1), s8⟩ w3 w9 (.inr rfl) (of_ok 500 L M3.out.ofb) (by omega) M3.out.list B9.out B9.out.size).mono ?_
          rintro e w10 ⟨v', rfl, ⟨A', n', c', rfl⟩, hR10, b10⟩
          have R10 := Lib.hid (hR10 w10 [] (Only.refl _ _) (by intro x hx; cases hx))
          have F10 := Lib.hid (fresh_of 500 L ⟨2, idz, at_, (-1), s8⟩ M3.out.ofb)
          have E10 : Hid (mostZ 500 = 500) := Lib.hid rfl
          rw [E10.out] at F10
          change Hid (ofB 500 (freshL 500 L _) = true) at F10
          clear hR10
          generalize freshL 500 L _ = L' at *
          generalize freshE 500 L _ = fe at *
          obtain ⟨A10, c10, svs10, e10, hr10⟩ := R10.out
          have hn' : n' = L'.length := by injection e10
          clear e10 hr10
          subst hn'
          have Y10 := Lib.hid (M9.out.whole.under b10 M9.out.whole.size)
          have B10 := Lib.hid (M9.out.below.trans (b10.mono M9.out.below.size))
          clear b10 M9 x0 x1 o0 o1 o2 o3 o4 B9
          go_wp2_with (refine cells_store rtree_flat (.tmp 3) (.tmp 107) rfl rfl g rfl [.int .i64 500, .slice A' L'.length c'] rfl (by simp [Value.oneCell']) rfl 40 [.int .i64 500, .slice (some am) L.length c2] ?_ rfl ?_; (focus (exact Y10.out)); intro w11 h11 o11; have R11 := Lib.hid h11; have O11 := Lib.hid o11; clear h11 o11)
          have M11 : Hid (MadeSt W w11 g L' A' c') := Lib.hid ⟨R11.out, R10.out.past Y10.out O11.out, B10.out.trans (O11.out.below (B := W.heap.size) (by simp; omega) B10.out.size), hz, F10.out⟩
          clear R11 O11 R10 Y10 B10 F10 M3
          go_roundw
          case rel => exact ⟨i + 2, c', A', L', by omega, by go_num, M11⟩
          case measure => simp [intOf]; omega
        · obtain ⟨r, hr, hr3⟩ : ∃ r : Nat, z % 4 = r ∧ r ≤ 3 := ⟨(z % 4).toNat, by omega, by omega⟩
          go_upto_region 14 with fail
          have yz : ∀ t : Later w3.heap.size w5, t.w.cell? ⟨ad.block, ad.off + (i + 1), none⟩ = some (.int .i64 z) := fun t => (Below.cell t.h (by simp; omega)).trans (((B5).out.cell (by simp; omega)).trans hcB3)
          refine region_floatB (B := w3.heap.size) [0, 1, 2, 3, 5, 6, 7, 8, 11, 12, 13, 14, 18, 19, 20, 21] [4, 9, 10, 15, 16, 22, 23] [17, 24, 25, 26, 27] (by kernel_rfl) (by kernel_rfl) (fun _ _ _ _ _ h => h) ?_
          simp only [pick, List.map_cons, List.map_nil, List.getD_cons_zero, List.getD_cons_succ, List.drop_succ_cons, List.drop_zero]
          repeat (go_big_quiet_step (fail))
          refine wpQuiet_nil ?_
          repeat (go_big_quiet_step (fail))
          refine wpQuiet_nil fun w7 hb7 => ?_
          have hb7 : Below w5.heap.size w5 w7 := hb7
          have P7 := Lib.hid (P5.out.under hb7 P5.out.size)
          have B7 := Lib.hid (B5.out.trans (hb7.mono B5.out.size))
          have C7 : Hid (Below w3.heap.size w5 w7) := Lib.hid (hb7.mono B5.out.size)
          clear yz
          have hbl := (Below.refl w7.heap.size w7).alloc (Nat.le_refl _) (.cells #[.int .i64 z, .int .i64 (z / 131072), .int .i64 (z / 17179869184)] 2)
          have Z8 := Lib.hid (Whole.mk w7 2 #[.int .i64 z, .int .i64 (z / 131072), .int .i64 (z / 17179869184)])
          have hz7 := B7.out.size
          have P8 := Lib.hid (P7.out.under hbl P7.out.size)
          have B8 := Lib.hid (B7.out.trans (hbl.mono B7.out.size))
          have C8 := Lib.hid (C7.out.trans (hbl.mono hz7))
          refine tail_step (by rfl) fun K hK => ?_
          go_simp
          refine hK _ _ C8.out ?_
          clear hK K
          have hz8 : (w7.alloc (.cells #[.int .i64 z, .int .i64 (z / 131072), .int .i64 (z / 17179869184)] 2)).heap.size = w7.heap.size + 1 := by simp
          try simp only [Act.put, List.setIfInBounds_toArray, List.set_cons_zero, List.set_cons_succ]
          clear hbl P7 B7 C7
          generalize w7.alloc _ = w8 at *
          generalize w7.heap.size = gz at *
          refine tail_step (by rfl) fun K hK => ?_
          go_simp
          rw [if_pos (show (r : Int) ≤ 3 by omega)]
          simp only [Oper.upon]
          refine hK _ _ C8.out ?_
          clear hK K
          try simp only [Act.put, List.setIfInBounds_toArray, List.set_cons_zero, List.set_cons_succ]
          have hlr : ([z, z / 131072, z / 17179869184].take r).length = r := by simp; omega
          have RZ : Row w8 w8.heap.size (some ⟨gz, 0, none⟩) (i64s ([z, z / 131072, z / 17179869184].take r)) := by
            unfold i64s
            rw [List.map_take]
            refine Row.take (fun _ => ⟨_, rfl, Z8.out.size, fun k hk => ?_⟩) r
            rw [head_add, Z8.out.cell k]
            exact List.getElem?_eq_getElem hk
          have TX := text_any ([z, z / 131072, z / 17179869184].take r) (some ⟨gz, 0, none⟩) 3 true w8 RZ (by rw [hlr]; omega)
          rw [hlr] at TX
          have TX := Lib.hid TX
          refine tail_callN rfl (by rfl) (xs := #[.slice (some ⟨gz, 0, none⟩) r 3, .bool true]) (by simp [Act.eval]) Tryz.func29 (by kernel_rfl) rfl TX.out ?_
          rintro e wc ⟨s8, rfl, hs8, b9⟩
          have P9a := Lib.hid (P8.out.under b9 P8.out.size)
          have B9a := Lib.hid (B8.out.trans (b9.mono B8.out.size))
          have C9a := Lib.hid (C8.out.trans (b9.mono B8.out.size))
          refine ⟨_, rfl, C9a.out, ?_⟩
          clear b9 hs8 P8 B8 C8
          try simp only [Act.put, List.setIfInBounds_toArray, List.set_cons_zero, List.set_cons_succ]
          refine tail_step (by rfl) fun K hK => ?_
          go_simp
          refine hK _ _ C9a.out ?_
          clear hK K
          try simp only [Act.put, List.setIfInBounds_toArray, List.set_cons_zero, List.set_cons_succ]
          have c4 : wc.cell? ⟨w3.heap.size, 4, none⟩ = some (.string ⟨#[]⟩) := P9a.out.cell 4
          have f4 : wc.frozen? ⟨w3.heap.size, 4, none⟩ = false := P9a.out.free 4
          refine tail_step (by rfl) fun K hK => ?_
          go_simp
          have P9 := Lib.hid (P9a.out.put 4 (.string s8))
          have B9 := Lib.hid (B9a.out.setCell (p := ⟨w3.heap.size, 4, none⟩) (Nat.le_refl _) (.string s8))
          refine hK _ _ (C9a.out.setCell (p := ⟨w3.heap.size, 4, none⟩) (Nat.le_refl _) (.string s8)) ?_
          clear hK K c4 f4 P9a B9a C9a TX RZ Z8
          refine tail_end ?_
          generalize wc.setCell _ _ = w9 at *
          have M9 := Lib.hid (M3.out.behind B9.out)
          have Y := M9.out.whole
          have x0 : w9.cell? ⟨g, 0, none⟩ = some (.int .i64 500) := Y.cell 0
          have x1 : w9.cell? ⟨g, 1, none⟩ = some (.slice (some am) L.length c2) := Y.cell 1
          have o0 : w9.cell? ⟨w3.heap.size, 0, none⟩ = some (.int .i64 1) := P9.out.cell 0
          have o1 : w9.cell? ⟨w3.heap.size, 1, none⟩ = some (.int .i64 idz) := P9.out.cell 1
          have o2 : w9.cell? ⟨w3.heap.size, 2, none⟩ = some (.int .i64 at_) := P9.out.cell 2
          have o3 : w9.cell? ⟨w3.heap.size, 3, none⟩ = some (.int .i64 (-1)) := P9.out.cell 3
          have o4 : w9.cell? ⟨w3.heap.size, 4, none⟩ = some (.string s8) := P9.out.cell 4
          clear Y P9
          go_wp2_with fail
          refine (rdo_make 500 _ L ⟨1, idz, at_, (-1), s8⟩ w3 w9 (.inl rfl) (of_ok 500 L M3.out.ofb) (by omega) M3.out.list B9.out B9.out.size).mono ?_
          rintro e w10 ⟨v', rfl, ⟨A', n', c', rfl⟩, hR10, b10⟩
          have R10 := Lib.hid (hR10 w10 [] (Only.refl _ _) (by intro x hx; cases hx))
          have F10 := Lib.hid (fresh_of 500 L ⟨1, idz, at_, (-1), s8⟩ M3.out.ofb)
          have E10 : Hid (mostZ 500 = 500) := Lib.hid rfl
          rw [E10.out] at F10
          change Hid (ofB 500 (freshL 500 L _) = true) at F10
          clear hR10
          generalize freshL 500 L _ = L' at *
          generalize freshE 500 L _ = fe at *
          obtain ⟨A10, c10, svs10, e10, hr10⟩ := R10.out
          have hn' : n' = L'.length := by injection e10
          clear e10 hr10
          subst hn'
          have Y10 := Lib.hid (M9.out.whole.under b10 M9.out.whole.size)
          have B10 := Lib.hid (M9.out.below.trans (b10.mono M9.out.below.size))
          clear b10 M9 x0 x1 o0 o1 o2 o3 o4 B9
          go_wp2_with (refine cells_store rtree_flat (.tmp 3) (.tmp 107) rfl rfl g rfl [.int .i64 500, .slice A' L'.length c'] rfl (by simp [Value.oneCell']) rfl 40 [.int .i64 500, .slice (some am) L.length c2] ?_ rfl ?_; (focus (exact Y10.out)); intro w11 h11 o11; have R11 := Lib.hid h11; have O11 := Lib.hid o11; clear h11 o11)
          have M11 : Hid (MadeSt W w11 g L' A' c') := Lib.hid ⟨R11.out, R10.out.past Y10.out O11.out, B10.out.trans (O11.out.below (B := W.heap.size) (by simp; omega) B10.out.size), hz, F10.out⟩
          clear R11 O11 R10 Y10 B10 F10 M3
          go_roundw
          case rel => exact ⟨i + 2, c', A', L', by omega, by go_num, M11⟩
          case measure => simp [intOf]; omega
      · have b1 : 0 < K.length := by omega
        by_cases hn1 : n % 2 = 1
        · have b2 : (n % 2 == 1) = true := by rw [beq_iff_eq]; exact hn1
          have hKn : (K.length : Int) ≠ 0 := by omega
          obtain ⟨qk, hqk, hqkl⟩ : ∃ q : Nat, (n / 268435456 % 256) % (K.length : Int) = q ∧ q < K.length := by
            have h0 : 0 ≤ (n / 268435456 % 256) % (K.length : Int) := Int.emod_nonneg _ hKn
            have h1 : (n / 268435456 % 256) % (K.length : Int) < K.length := Int.emod_lt_of_pos _ (by omega)
            exact ⟨((n / 268435456 % 256) % (K.length : Int)).toNat, by omega, by omega⟩
          have tK : (n / 268435456 % 256).tmod (K.length : Int) = (qk : Int) := by rw [Int.tmod_eq_emod_of_nonneg (by omega)]; exact hqk
          obtain ⟨adk, rfl, hbK, hcK⟩ := HK.out.get (k := qk) (by simpa using hqkl)
          rw [List.getElem_map] at hcK
          generalize K[qk] = bk at *
          have f3 : w5.frozen? ⟨w3.heap.size, 3, none⟩ = false := P5.out.free 3
          have c3 : w5.cell? ⟨w3.heap.size, 3, none⟩ = some (.int .i64 (-1)) := P5.out.cell 3
          clear hqk hn1 hk0 HK
          go_upto_region 11 with fail
          have P6 := Lib.hid (P5.out.put 3 (.int .i64 bk))
          have B6 := Lib.hid (B5.out.setCell (p := ⟨w3.heap.size, 3, none⟩) (Nat.le_refl _) (.int .i64 bk))
          clear f3 c3 hcK tK hKn P5 B5
          generalize w5.setCell _ _ = w6 at *
          cases d6
          rotate_left
          · have c0 : w6.cell? ⟨w3.heap.size, 0, none⟩ = some (.int .i64 1) := P6.out.cell 0
            have f0 : w6.frozen? ⟨w3.heap.size, 0, none⟩ = false := P6.out.free 0
            go_upto_region 13 with fail
            have P7 := Lib.hid (P6.out.put 0 (.int .i64 2))
            have B7 := Lib.hid (B6.out.setCell (p := ⟨w3.heap.size, 0, none⟩) (Nat.le_refl _) (.int .i64 2))
            clear c0 f0 P6 B6
            generalize w6.setCell _ _ = w7 at *
            have hc7 : w7.cell? ⟨ad.block, ad.off + (i + 1), none⟩ = some (.int .i64 z) := (B7.out.cell (by simp; omega)).trans hcB3
            go_wp2_with fail
            refine (data_any z w7).mono ?_
            rintro e w8 ⟨s8, rfl, hs8, b8⟩
            have B8 := Lib.hid (B7.out.trans (b8.mono B7.out.size))
            have P8 := Lib.hid (P7.out.under b8 P7.out.size)
            clear b8 hs8 hc7 B7 P7
            have c4 : w8.cell? ⟨w3.heap.size, 4, none⟩ = some (.string ⟨#[]⟩) := P8.out.cell 4
            have f4 : w8.frozen? ⟨w3.heap.size, 4, none⟩ = false := P8.out.free 4
            go_upto_region 15 with fail
            have P9 := Lib.hid (P8.out.put 4 (.string s8))
            have B9 := Lib.hid (B8.out.setCell (p := ⟨w3.heap.size, 4, none⟩) (Nat.le_refl _) (.string s8))
            clear c4 f4 P8 B8
            generalize w8.setCell _ _ = w9 at *
            have M9 := Lib.hid (M3.out.behind B9.out)
            have Y := M9.out.whole
            have x0 : w9.cell? ⟨g, 0, none⟩ = some (.int .i64 500) := Y.cell 0
            have x1 : w9.cell? ⟨g, 1, none⟩ = some (.slice (some am) L.length c2) := Y.cell 1
            have o0 : w9.cell? ⟨w3.heap.size, 0, none⟩ = some (.int .i64 2) := P9.out.cell 0
            have o1 : w9.cell? ⟨w3.heap.size, 1, none⟩ = some (.int .i64 idz) := P9.out.cell 1
            have o2 : w9.cell? ⟨w3.heap.size, 2, none⟩ = some (.int .i64 at_) := P9.out.cell 2
            have o3 : w9.cell? ⟨w3.heap.size, 3, none⟩ = some (.int .i64 bk) := P9.out.cell 3
            have o4 : w9.cell? ⟨w3.heap.size, 4, none⟩ = some (.string s8) := P9.out.cell 4
            clear Y P9
            go_wp2_with fail
            refine (rdo_make 500 _ L ⟨2, idz, at_, bk, s8⟩ w3 w9 (.inr rfl) (of_ok 500 L M3.out.ofb) (by omega) M3.out.list B9.out B9.out.size).mono ?_
            rintro e w10 ⟨v', rfl, ⟨A', n', c', rfl⟩, hR10, b10⟩
            have R10 := Lib.hid (hR10 w10 [] (Only.refl _ _) (by intro x hx; cases hx))
            have F10 := Lib.hid (fresh_of 500 L ⟨2, idz, at_, bk, s8⟩ M3.out.ofb)
            have E10 : Hid (mostZ 500 = 500) := Lib.hid rfl
            rw [E10.out] at F10
            change Hid (ofB 500 (freshL 500 L _) = true) at F10
            clear hR10
            generalize freshL 500 L _ = L' at *
            generalize freshE 500 L _ = fe at *
            obtain ⟨A10, c10, svs10, e10, hr10⟩ := R10.out
            have hn' : n' = L'.length := by injection e10
            clear e10 hr10
            subst hn'
            have Y10 := Lib.hid (M9.out.whole.under b10 M9.out.whole.size)
            have B10 := Lib.hid (M9.out.below.trans (b10.mono M9.out.below.size))
            clear b10 M9 x0 x1 o0 o1 o2 o3 o4 B9
            go_wp2_with (refine cells_store rtree_flat (.tmp 3) (.tmp 107) rfl rfl g rfl [.int .i64 500, .slice A' L'.length c'] rfl (by simp [Value.oneCell']) rfl 40 [.int .i64 500, .slice (some am) L.length c2] ?_ rfl ?_; (focus (exact Y10.out)); intro w11 h11 o11; have R11 := Lib.hid h11; have O11 := Lib.hid o11; clear h11 o11)
            have M11 : Hid (MadeSt W w11 g L' A' c') := Lib.hid ⟨R11.out, R10.out.past Y10.out O11.out, B10.out.trans (O11.out.below (B := W.heap.size) (by simp; omega) B10.out.size), hz, F10.out⟩
            clear R11 O11 R10 Y10 B10 F10 M3
            go_roundw
            case rel => exact ⟨i + 2, c', A', L', by omega, by go_num, M11⟩
            case measure => simp [intOf]; omega
          · obtain ⟨r, hr, hr3⟩ : ∃ r : Nat, z % 4 = r ∧ r ≤ 3 := ⟨(z % 4).toNat, by omega, by omega⟩
            go_upto_region 14 with fail
            have yz : ∀ t : Later w3.heap.size w6, t.w.cell? ⟨ad.block, ad.off + (i + 1), none⟩ = some (.int .i64 z) := fun t => (Below.cell t.h (by simp; omega)).trans (((B6).out.cell (by simp; omega)).trans hcB3)
            refine region_floatB (B := w3.heap.size) [0, 1, 2, 3, 5, 6, 7, 8, 11, 12, 13, 14, 18, 19, 20, 21] [4, 9, 10, 15, 16, 22, 23] [17, 24, 25, 26, 27] (by kernel_rfl) (by kernel_rfl) (fun _ _ _ _ _ h => h) ?_
            simp only [pick, List.map_cons, List.map_nil, List.getD_cons_zero, List.getD_cons_succ, List.drop_succ_cons, List.drop_zero]
            repeat (go_big_quiet_step (fail))
            refine wpQuiet_nil ?_
            repeat (go_big_quiet_step (fail))
            refine wpQuiet_nil fun w7 hb7 => ?_
            have hb7 : Below w6.heap.size w6 w7 := hb7
            have P7 := Lib.hid (P6.out.under hb7 P6.out.size)
            have B7 := Lib.hid (B6.out.trans (hb7.mono B6.out.size))
            have C7 : Hid (Below w3.heap.size w6 w7) := Lib.hid (hb7.mono B6.out.size)
            clear yz
            have hbl := (Below.refl w7.heap.size w7).alloc (Nat.le_refl _) (.cells #[.int .i64 z, .int .i64 (z / 131072), .int .i64 (z / 17179869184)] 2)
            have Z8 := Lib.hid (Whole.mk w7 2 #[.int .i64 z, .int .i64 (z / 131072), .int .i64 (z / 17179869184)])
            have hz7 := B7.out.size
            have P8 := Lib.hid (P7.out.under hbl P7.out.size)
            have B8 := Lib.hid (B7.out.trans (hbl.mono B7.out.size))
            have C8 := Lib.hid (C7.out.trans (hbl.mono hz7))
            refine tail_step (by rfl) fun K hK => ?_
            go_simp
            refine hK _ _ C8.out ?_
            clear hK K
            have hz8 : (w7.alloc (.cells #[.int .i64 z, .int .i64 (z / 131072), .int .i64 (z / 17179869184)] 2)).heap.size = w7.heap.size + 1 := by simp
            try simp only [Act.put, List.setIfInBounds_toArray, List.set_cons_zero, List.set_cons_succ]
            clear hbl P7 B7 C7
            generalize w7.alloc _ = w8 at *
            generalize w7.heap.size = gz at *
            refine tail_step (by rfl) fun K hK => ?_
            go_simp
            rw [if_pos (show (r : Int) ≤ 3 by omega)]
            simp only [Oper.upon]
            refine hK _ _ C8.out ?_
            clear hK K
            try simp only [Act.put, List.setIfInBounds_toArray, List.set_cons_zero, List.set_cons_succ]
            have hlr : ([z, z / 131072, z / 17179869184].take r).length = r := by simp; omega
            have RZ : Row w8 w8.heap.size (some ⟨gz, 0, none⟩) (i64s ([z, z / 131072, z / 17179869184].take r)) := by
              unfold i64s
              rw [List.map_take]
              refine Row.take (fun _ => ⟨_, rfl, Z8.out.size, fun k hk => ?_⟩) r
              rw [head_add, Z8.out.cell k]
              exact List.getElem?_eq_getElem hk
            have TX := text_any ([z, z / 131072, z / 17179869184].take r) (some ⟨gz, 0, none⟩) 3 true w8 RZ (by rw [hlr]; omega)
            rw [hlr] at TX
            have TX := Lib.hid TX
            refine tail_callN rfl (by rfl) (xs := #[.slice (some ⟨gz, 0, none⟩) r 3, .bool true]) (by simp [Act.eval]) Tryz.func29 (by kernel_rfl) rfl TX.out ?_
            rintro e wc ⟨s8, rfl, hs8, b9⟩
            have P9a := Lib.hid (P8.out.under b9 P8.out.size)
            have B9a := Lib.hid (B8.out.trans (b9.mono B8.out.size))
            have C9a := Lib.hid (C8.out.trans (b9.mono B8.out.size))
            refine ⟨_, rfl, C9a.out, ?_⟩
            clear b9 hs8 P8 B8 C8
            try simp only [Act.put, List.setIfInBounds_toArray, List.set_cons_zero, List.set_cons_succ]
            refine tail_step (by rfl) fun K hK => ?_
            go_simp
            refine hK _ _ C9a.out ?_
            clear hK K
            try simp only [Act.put, List.setIfInBounds_toArray, List.set_cons_zero, List.set_cons_succ]
            have c4 : wc.cell? ⟨w3.heap.size, 4, none⟩ = some (.string ⟨#[]⟩) := P9a.out.cell 4
            have f4 : wc.frozen? ⟨w3.heap.size, 4, none⟩ = false := P9a.out.free 4
            refine tail_step (by rfl) fun K hK => ?_
            go_simp
            have P9 := Lib.hid (P9a.out.put 4 (.string s8))
            have B9 := Lib.hid (B9a.out.setCell (p := ⟨w3.heap.size, 4, none⟩) (Nat.le_refl _) (.string s8))
            refine hK _ _ (C9a.out.setCell (p := ⟨w3.heap.size, 4, none⟩) (Nat.le_refl _) (.string s8)) ?_
            clear hK K c4 f4 P9a B9a C9a TX RZ Z8
            refine tail_end ?_
            generalize wc.setCell _ _ = w9 at *
            have M9 := Lib.hid (M3.out.behind B9.out)
            have Y := M9.out.whole
            have x0 : w9.cell? ⟨g, 0, none⟩ = some (.int .i64 500) := Y.cell 0
            have x1 : w9.cell? ⟨g, 1, none⟩ = some (.slice (some am) L.length c2) := Y.cell 1
            have o0 : w9.cell? ⟨w3.heap.size, 0, none⟩ = some (.int .i64 1) := P9.out.cell 0
            have o1 : w9.cell? ⟨w3.heap.size, 1, none⟩ = some (.int .i64 idz) := P9.out.cell 1
            have o2 : w9.cell? ⟨w3.heap.size, 2, none⟩ = some (.int .i64 at_) := P9.out.cell 2
            have o3 : w9.cell? ⟨w3.heap.size, 3, none⟩ = some (.int .i64 bk) := P9.out.cell 3
            have o4 : w9.cell? ⟨w3.heap.size, 4, none⟩ = some (.string s8) := P9.out.cell 4
            clear Y P9
            go_wp2_with fail
            refine (rdo_make 500 _ L ⟨1, idz, at_, bk, s8⟩ w3 w9 (.inl rfl) (of_ok 500 L M3.out.ofb) (by omega) M3.out.list B9.out B9.out.size).mono ?_
            rintro e w10 ⟨v', rfl, ⟨A', n', c', rfl⟩, hR10, b10⟩
            have R10 := Lib.hid (hR10 w10 [] (Only.refl _ _) (by intro x hx; cases hx))
            have F10 := Lib.hid (fresh_of 500 L ⟨1, idz, at_, bk, s8⟩ M3.out.ofb)
            have E10 : Hid (mostZ 500 = 500) := Lib.hid rfl
            rw [E10.out] at F10
            change Hid (ofB 500 (freshL 500 L _) = true) at F10
            clear hR10
            generalize freshL 500 L _ = L' at *
            generalize freshE 500 L _ = fe at *
            obtain ⟨A10, c10, svs10, e10, hr10⟩ := R10.out
            have hn' : n' = L'.length := by injection e10
            clear e10 hr10
            subst hn'
            have Y10 := Lib.hid (M9.out.whole.under b10 M9.out.whole.size)
            have B10 := Lib.hid (M9.out.below.trans (b10.mono M9.out.below.size))
            clear b10 M9 x0 x1 o0 o1 o2 o3 o4 B9
            go_wp2_with (refine cells_store rtree_flat (.tmp 3) (.tmp 107) rfl rfl g rfl [.int .i64 500, .slice A' L'.length c'] rfl (by simp [Value.oneCell']) rfl 40 [.int .i64 500, .slice (some am) L.length c2] ?_ rfl ?_; (focus (exact Y10.out)); intro w11 h11 o11; have R11 := Lib.hid h11; have O11 := Lib.hid o11; clear h11 o11)
            have M11 : Hid (MadeSt W w11 g L' A' c') := Lib.hid ⟨R11.out, R10.out.past Y10.out O11.out, B10.out.trans (O11.out.below (B := W.heap.size) (by simp; omega) B10.out.size), hz, F10.out⟩
            clear R11 O11 R10 Y10 B10 F10 M3
            go_roundw
            case rel => exact ⟨i + 2, c', A', L', by omega, by go_num, M11⟩
            case measure => simp [intOf]; omega
        · have b2 : (n % 2 == 1) = false := by rw [beq_eq_false_iff_ne]; exact hn1
          clear hn1 hk0 HK
          go_upto_region 11 with fail
          cases d6
          rotate_left
          · have c0 : w5.cell? ⟨w3.heap.size, 0, none⟩ = some (.int .i64 1) := P5.out.cell 0
            have f0 : w5.frozen? ⟨w3.heap.size, 0, none⟩ = false := P5.out.free 0
            go_upto_region 13 with fail
            have P7 := Lib.hid (P5.out.put 0 (.int .i64 2))
            have B7 := Lib.hid (B5.out.setCell (p := ⟨w3.heap.size, 0, none⟩) (Nat.le_refl _) (.int .i64 2))
            clear c0 f0 P5 B5
            generalize w5.setCell _ _ = w7 at *
            have hc7 : w7.cell? ⟨ad.block, ad.off + (i + 1), none⟩ = some (.int .i64 z) := (B7.out.cell (by simp; omega)).trans hcB3
            go_wp2_with fail
            refine (data_any z w7).mono ?_
            rintro e w8 ⟨s8, rfl, hs8, b8⟩
            have B8 := Lib.hid (B7.out.trans (b8.mono B7.out.size))
            have P8 := Lib.hid (P7.out.under b8 P7.out.size)
            clear b8 hs8 hc7 B7 P7
            have c4 : w8.cell? ⟨w3.heap.size, 4, none⟩ = some (.string ⟨#[]⟩) := P8.out.cell 4
            have f4 : w8.frozen? ⟨w3.heap.size, 4, none⟩ = false := P8.out.free 4
            go_upto_region 15 with fail
            have P9 := Lib.hid (P8.out.put 4 (.string s8))
            have B9 := Lib.hid (B8.out.setCell (p := ⟨w3.heap.size, 4, none⟩) (Nat.le_refl _) (.string s8))
            clear c4 f4 P8 B8
            generalize w8.setCell _ _ = w9 at *
            have M9 := Lib.hid (M3.out.behind B9.out)
            have Y := M9.out.whole
            have x0 : w9.cell? ⟨g, 0, none⟩ = some (.int .i64 500) := Y.cell 0
            have x1 : w9.cell? ⟨g, 1, none⟩ = some (.slice (some am) L.length c2) := Y.cell 1
            have o0 : w9.cell? ⟨w3.heap.size, 0, none⟩ = some (.int .i64 2) := P9.out.cell 0
            have o1 : w9.cell? ⟨w3.heap.size, 1, none⟩ = some (.int .i64 idz) := P9.out.cell 1
            have o2 : w9.cell? ⟨w3.heap.size, 2, none⟩ = some (.int .i64 at_) := P9.out.cell 2
            have o3 : w9.cell? ⟨w3.heap.size, 3, none⟩ = some (.int .i64 (-1)) := P9.out.cell 3
            have o4 : w9.cell? ⟨w3.heap.size, 4, none⟩ = some (.string s8) := P9.out.cell 4
            clear Y P9
            go_wp2_with fail
            refine (rdo_make 500 _ L ⟨2, idz, at_, (-1), s8⟩ w3 w9 (.inr rfl) (of_ok 500 L M3.out.ofb) (by omega) M3.out.list B9.out B9.out.size).mono ?_
            rintro e w10 ⟨v', rfl, ⟨A', n', c', rfl⟩, hR10, b10⟩
            have R10 := Lib.hid (hR10 w10 [] (Only.refl _ _) (by intro x hx; cases hx))
            have F10 := Lib.hid (fresh_of 500 L ⟨2, idz, at_, (-1), s8⟩ M3.out.ofb)
            have E10 : Hid (mostZ 500 = 500) := Lib.hid rfl
            rw [E10.out] at F10
            change Hid (ofB 500 (freshL 500 L _) = true) at F10
            clear hR10
            generalize freshL 500 L _ = L' at *
            generalize freshE 500 L _ = fe at *
            obtain ⟨A10, c10, svs10, e10, hr10⟩ := R10.out
            have hn' : n' = L'.length := by injection e10
            clear e10 hr10
            subst hn'
            have Y10 := Lib.hid (M9.out.whole.under b10 M9.out.whole.size)
            have B10 := Lib.hid (M9.out.below.trans (b10.mono M9.out.below.size))
            clear b10 M9 x0 x1 o0 o1 o2 o3 o4 B9
            go_wp2_with (refine cells_store rtree_flat (.tmp 3) (.tmp 107) rfl rfl g rfl [.int .i64 500, .slice A' L'.length c'] rfl (by simp [Value.oneCell']) rfl 40 [.int .i64 500, .slice (some am) L.length c2] ?_ rfl ?_; (focus (exact Y10.out)); intro w11 h11 o11; have R11 := Lib.hid h11; have O11 := Lib.hid o11; clear h11 o11)
            have M11 : Hid (MadeSt W w11 g L' A' c') := Lib.hid ⟨R11.out, R10.out.past Y10.out O11.out, B10.out.trans (O11.out.below (B := W.heap.size) (by simp; omega) B10.out.size), hz, F10.out⟩
            clear R11 O11 R10 Y10 B10 F10 M3
            go_roundw
            case rel => exact ⟨i + 2, c', A', L', by omega, by go_num, M11⟩
            case measure => simp [intOf]; omega
          · obtain ⟨r, hr, hr3⟩ : ∃ r : Nat, z % 4 = r ∧ r ≤ 3 := ⟨(z % 4).toNat, by omega, by omega⟩
            go_upto_region 14 with fail
            have yz : ∀ t : Later w3.heap.size w5, t.w.cell? ⟨ad.block, ad.off + (i + 1), none⟩ = some (.int .i64 z) := fun t => (Below.cell t.h (by simp; omega)).trans (((B5).out.cell (by simp; omega)).trans hcB3)
            refine region_floatB (B := w3.heap.size) [0, 1, 2, 3, 5, 6, 7, 8, 11, 12, 13, 14, 18, 19, 20, 21] [4, 9, 10, 15, 16, 22, 23] [17, 24, 25, 26, 27] (by kernel_rfl) (by kernel_rfl) (fun _ _ _ _ _ h => h) ?_
            simp only [pick, List.map_cons, List.map_nil, List.getD_cons_zero, List.getD_cons_succ, List.drop_succ_cons, List.drop_zero]
            repeat (go_big_quiet_step (fail))
            refine wpQuiet_nil ?_
            repeat (go_big_quiet_step (fail))
            refine wpQuiet_nil fun w7 hb7 => ?_
            have hb7 : Below w5.heap.size w5 w7 := hb7
            have P7 := Lib.hid (P5.out.under hb7 P5.out.size)
            have B7 := Lib.hid (B5.out.trans (hb7.mono B5.out.size))
            have C7 : Hid (Below w3.heap.size w5 w7) := Lib.hid (hb7.mono B5.out.size)
            clear yz
            have hbl := (Below.refl w7.heap.size w7).alloc (Nat.le_refl _) (.cells #[.int .i64 z, .int .i64 (z / 131072), .int .i64 (z / 17179869184)] 2)
            have Z8 := Lib.hid (Whole.mk w7 2 #[.int .i64 z, .int .i64 (z / 131072), .int .i64 (z / 17179869184)])
            have hz7 := B7.out.size
            have P8 := Lib.hid (P7.out.under hbl P7.out.size)
            have B8 := Lib.hid (B7.out.trans (hbl.mono B7.out.size))
            have C8 := Lib.hid (C7.out.trans (hbl.mono hz7))
            refine tail_step (by rfl) fun K hK => ?_
            go_simp
            refine hK _ _ C8.out ?_
            clear hK K
            have hz8 : (w7.alloc (.cells #[.int .i64 z, .int .i64 (z / 131072), .int .i64 (z / 17179869184)] 2)).heap.size = w7.heap.size + 1 := by simp
            try simp only [Act.put, List.setIfInBounds_toArray, List.set_cons_zero, List.set_cons_succ]
            clear hbl P7 B7 C7
            generalize w7.alloc _ = w8 at *
            generalize w7.heap.size = gz at *
            refine tail_step (by rfl) fun K hK => ?_
            go_simp
            rw [if_pos (show (r : Int) ≤ 3 by omega)]
            simp only [Oper.upon]
            refine hK _ _ C8.out ?_
            clear hK K
            try simp only [Act.put, List.setIfInBounds_toArray, List.set_cons_zero, List.set_cons_succ]
            have hlr : ([z, z / 131072, z / 17179869184].take r).length = r := by simp; omega
            have RZ : Row w8 w8.heap.size (some ⟨gz, 0, none⟩) (i64s ([z, z / 131072, z / 17179869184].take r)) := by
              unfold i64s
              rw [List.map_take]
              refine Row.take (fun _ => ⟨_, rfl, Z8.out.size, fun k hk => ?_⟩) r
              rw [head_add, Z8.out.cell k]
              exact List.getElem?_eq_getElem hk
            have TX := text_any ([z, z / 131072, z / 17179869184].take r) (some ⟨gz, 0, none⟩) 3 true w8 RZ (by rw [hlr]; omega)
            rw [hlr] at TX
            have TX := Lib.hid TX
            refine tail_callN rfl (by rfl) (xs := #[.slice (some ⟨gz, 0, none⟩) r 3, .bool true]) (by simp [Act.eval]) Tryz.func29 (by kernel_rfl) rfl TX.out ?_
            rintro e wc ⟨s8, rfl, hs8, b9⟩
            have P9a := Lib.hid (P8.out.under b9 P8.out.size)
            have B9a := Lib.hid (B8.out.trans (b9.mono B8.out.size))
            have C9a := Lib.hid (C8.out.trans (b9.mono B8.out.size))
            refine ⟨_, rfl, C9a.out, ?_⟩
            clear b9 hs8 P8 B8 C8
            try simp only [Act.put, List.setIfInBounds_toArray, List.set_cons_zero, List.set_cons_succ]
            refine tail_step (by rfl) fun K hK => ?_
            go_simp
            refine hK _ _ C9a.out ?_
            clear hK K
            try simp only [Act.put, List.setIfInBounds_toArray, List.set_cons_zero, List.set_cons_succ]
            have c4 : wc.cell? ⟨w3.heap.size, 4, none⟩ = some (.string ⟨#[]⟩) := P9a.out.cell 4
            have f4 : wc.frozen? ⟨w3.heap.size, 4, none⟩ = false := P9a.out.free 4
            refine tail_step (by rfl) fun K hK => ?_
            go_simp
            have P9 := Lib.hid (P9a.out.put 4 (.string s8))
            have B9 := Lib.hid (B9a.out.setCell (p := ⟨w3.heap.size, 4, none⟩) (Nat.le_refl _) (.string s8))
            refine hK _ _ (C9a.out.setCell (p := ⟨w3.heap.size, 4, none⟩) (Nat.le_refl _) (.string s8)) ?_
            clear hK K c4 f4 P9a B9a C9a TX RZ Z8
            refine tail_end ?_
            generalize wc.setCell _ _ = w9 at *
            have M9 := Lib.hid (M3.out.behind B9.out)
            have Y := M9.out.whole
            have x0 : w9.cell? ⟨g, 0, none⟩ = some (.int .i64 500) := Y.cell 0
            have x1 : w9.cell? ⟨g, 1, none⟩ = some (.slice (some am) L.length c2) := Y.cell 1
            have o0 : w9.cell? ⟨w3.heap.size, 0, none⟩ = some (.int .i64 1) := P9.out.cell 0
            have o1 : w9.cell? ⟨w3.heap.size, 1, none⟩ = some (.int .i64 idz) := P9.out.cell 1
            have o2 : w9.cell? ⟨w3.heap.size, 2, none⟩ = some (.int .i64 at_) := P9.out.cell 2
            have o3 : w9.cell? ⟨w3.heap.size, 3, none⟩ = some (.int .i64 (-1)) := P9.out.cell 3
            have o4 : w9.cell? ⟨w3.heap.size, 4, none⟩ = some (.string s8) := P9.out.cell 4
            clear Y P9
            go_wp2_with fail
            refine (rdo_make 500 _ L ⟨1, idz, at_, (-1), s8⟩ w3 w9 (.inl rfl) (of_ok 500 L M3.out.ofb) (by omega) M3.out.list B9.out B9.out.size).mono ?_
            rintro e w10 ⟨v', rfl, ⟨A', n', c', rfl⟩, hR10, b10⟩
            have R10 := Lib.hid (hR10 w10 [] (Only.refl _ _) (by intro x hx; cases hx))
            have F10 := Lib.hid (fresh_of 500 L ⟨1, idz, at_, (-1), s8⟩ M3.out.ofb)
            have E10 : Hid (mostZ 500 = 500) := Lib.hid rfl
            rw [E10.out] at F10
            change Hid (ofB 500 (freshL 500 L _) = true) at F10
            clear hR10
            generalize freshL 500 L _ = L' at *
            generalize freshE 500 L _ = fe at *
            obtain ⟨A10, c10, svs10, e10, hr10⟩ := R10.out
            have hn' : n' = L'.length := by injection e10
            clear e10 hr10
            subst hn'
            have Y10 := Lib.hid (M9.out.whole.under b10 M9.out.whole.size)
            have B10 := Lib.hid (M9.out.below.trans (b10.mono M9.out.below.size))
            clear b10 M9 x0 x1 o0 o1 o2 o3 o4 B9
            go_wp2_with (refine cells_store rtree_flat (.tmp 3) (.tmp 107) rfl rfl g rfl [.int .i64 500, .slice A' L'.length c'] rfl (by simp [Value.oneCell']) rfl 40 [.int .i64 500, .slice (some am) L.length c2] ?_ rfl ?_; (focus (exact Y10.out)); intro w11 h11 o11; have R11 := Lib.hid h11; have O11 := Lib.hid o11; clear h11 o11)
            have M11 : Hid (MadeSt W w11 g L' A' c') := Lib.hid ⟨R11.out, R10.out.past Y10.out O11.out, B10.out.trans (O11.out.below (B := W.heap.size) (by simp; omega) B10.out.size), hz, F10.out⟩
            clear R11 O11 R10 Y10 B10 F10 M3
            go_roundw
            case rel => exact ⟨i + 2, c', A', L', by omega, by go_num, M11⟩
            case measure => simp [intOf]; omega
    · have X := M.out.whole
      have x1 : wr.cell? ⟨g, 1, none⟩ = some (.slice A2 L.length c2) := X.cell 1
      clear X
      by_cases h1 : i + 1 < zs.length
      · have h1i : (i : Int) + 1 < zs.length := by omega
        have h2i : ¬ (i : Int) < 40 := by omega
        clear hlt
        go_wp2_with fail
        go_ret
        exact ⟨_, rfl, L, M.out.ofb, M.out.list, M.out.below⟩
      · have h1i : ¬ (i : Int) + 1 < zs.length := by omega
        clear hlt
        go_wp2_with fail
        go_ret
        exact ⟨_, rfl, L, M.out.ofb, M.out.list, M.out.below⟩
end Go.Proofs.YtbhdpfacfgldiaaGreatDoor
