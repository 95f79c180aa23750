import Derived.Test.YtbhdpfacfgldiaaGreatDoorRef6WhereQ
import Derived.Test.YtbhdpfacfgldiaaGreatDoorZRQ
import Derived.Test.YtbhdpfacfgldiaaGreatDoorZSQ
import Derived.Test.YtbhdpfacfgldiaaGreatDoorZQ
import Derived.Test.YtbhdpfacfgldiaaGreatDoorTellQ
import Derived.Test.YtbhdpfacfgldiaaGreatDoorDeclFormQ
import Derived.Test.YtbhdpfacfgldiaaGreatDoorShelf
import Derived.Deep.Cut
import Derived.Test.YtbhdpfacfgldiaaGreatDoorRefNumQ
import Derived.Below
/- quoinref6: nodes put into a list. -/
namespace Go.Proofs.YtbhdpfacfgldiaaGreatDoor
open Go Go.RowKit
set_option linter.unusedVariables false
set_option linter.unusedSimpArgs false
set_option maxRecDepth 20000
set_option maxHeartbeats 4000000

theorem rowsC_app : ∀ (a : List Nd) (s : List Value) (b : List Nd) (t : List Value), s.length = a.length → rowsC (a ++ b) (s ++ t) = rowsC a s ++ rowsC b t
  | [], [], b, t, _ => rfl
  | n :: a, v :: s, b, t, h => by
    rw [List.cons_append, List.cons_append, rowsC, rowsC, rowsC_app a s b t (by simpa using h), List.append_assoc]
theorem rowsC_parts (L : List Nd) (svs : List Value) (h : svs.length = L.length) (k : Nat) (hk : k ≤ L.length) : rowsC L svs = rowsC (L.take k) (svs.take k) ++ rowsC (L.drop k) (svs.drop k) := by
  rw [← rowsC_app _ _ _ _ (by simp [h]), List.take_append_drop, List.take_append_drop]
theorem rowsC_one : ∀ (l : List Nd) (s : List Value), (∀ v ∈ s, v.oneCell' = true) → ∀ u ∈ rowsC l s, u.oneCell' = true
  | [], _, _, u, hu => by simp [rowsC] at hu
  | n :: l, [], _, u, hu => by simp [rowsC] at hu
  | n :: l, v :: s, h, u, hu => by
    rw [rowsC] at hu
    rcases List.mem_append.1 hu with h1 | h1
    · simp [nodeC] at h1
      rcases h1 with rfl | rfl | rfl | rfl | rfl
      · rfl
      · rfl
      · rfl
      · rfl
      · exact h _ List.mem_cons_self
    · exact rowsC_one l s (fun w hw => h w (List.mem_cons_of_mem _ hw)) u h1
theorem own_lit0 (w : World) (e : TypeId) (size : Nat) : (w.alloc (.cells #[] e)).ownsRow w.heap.size e size (.slice (some ⟨w.heap.size, 0, none⟩) 0 0) 0 [] := by
  refine ⟨by simp, .inr ⟨w.heap.size, 0, #[], rfl, Nat.le_refl _, heap_alloc_new w _, Nat.le_refl _, by decide, by simp, ?_⟩⟩
  simp
theorem Row.head {w : World} {B : Nat} {A : Option Addr} {a b : List Value} (h : Row w B A (a ++ b)) : Row w B A a := fun hn => by
  obtain ⟨ad, e, hb, hc⟩ := h (by rw [List.length_append]; omega)
  refine ⟨ad, e, hb, fun i hi => ?_⟩
  rw [hc i (by rw [List.length_append]; omega), List.getElem_append_left hi]
theorem Row.tailR {w : World} {B n : Nat} {ad : Addr} {a b : List Value} (h : Row w B (some ad) (a ++ b)) (hn : a.length = n) (hn0 : 0 < n) : Row w B (some ⟨ad.block, ad.off + n, none⟩) b := fun hb0 => by
  have hlen : (a ++ b).length = n + b.length := by rw [List.length_append, hn]
  obtain ⟨ad', e, hb, hc⟩ := h (by rw [hlen]; omega)
  injection e with e
  subst e
  refine ⟨_, rfl, hb, fun i hi => ?_⟩
  have e1 := hc (n + i) (by rw [hlen]; omega)
  have e2 : (⟨ad.block, ad.off + n, none⟩ : Addr).add i = ad.add (n + i) := by
    have h3 : ad.add (n + i) = ⟨ad.block, ad.off + (n + i), none⟩ := by unfold Addr.add; rw [if_neg (by omega)]
    rw [h3]
    unfold Addr.add
    split
    · rename_i h; simp [h]
    · simp [Nat.add_assoc]
  rw [e2, e1, List.getElem_append_right (by omega)]
  simp only [hn, Nat.add_sub_cancel_left]
theorem NodesSee.slices {w : World} {l : List Nd} {svs : List Value} (hs : svs.length = l.length) (hst : ∀ k (h : k < l.length) (h2 : k < svs.length), StyAt w svs[k] l[k].sty) : ∀ v ∈ svs, v.oneCell' = true := fun v hv => by
  obtain ⟨i, hi, rfl⟩ := List.mem_iff_getElem.1 hv
  obtain ⟨A, c, e, -⟩ := hst i (by omega) hi
  rw [e]; rfl
/-- A row that reads as L, its styles' slices told. -/
structure SeeS (w : World) (A : Option Addr) (L : List Nd) (svs : List Value) : Prop where
  len : svs.length = L.length
  few : L.length ≤ 1000000
  row : Row w w.heap.size A (rowsC L svs)
  sty : ∀ k (h : k < L.length) (h2 : k < svs.length), StyAt w svs[k] L[k].sty
theorem SeeS.see {w : World} {A : Option Addr} {L : List Nd} {svs : List Value} (h : SeeS w A L svs) (c : Nat) : NodesSee w (.slice A L.length c) L := ⟨A, c, svs, rfl, h.len, h.few, h.row, h.sty⟩
/-- Where a node goes. -/
def placeN (L : List Nd) (at_ bf : Int) : Nat := if 0 ≤ bf then rkZ L bf else endZ L at_
theorem rput_any (m : Int) (A : Option Addr) (c : Nat) (svs : List Value) (An : Option Addr) (cn : Nat) (svn : List Value) (L N : List Nd) (at_ bf : Int) (W : World) (hOK : TreeOk L) (hL : L.length ≤ 1000) (hN : N.length ≤ 1000) (ha : hasZ L at_ = true) (hb : 0 ≤ bf → hasZ L bf = true) (hk : 0 < placeN L at_ bf ∧ placeN L at_ bf ≤ L.length) (hS : SeeS W A L svs) (hSn : SeeS W An N svn) (hcc : L.length ≤ c) (hnil : An = none → cn = 0) :
    Calls Tryz.prog 53 #[r6V m (.slice A L.length c), .slice An N.length cn, .int .i64 at_, .int .i64 bf] W fun e w' => ∃ A' c', e = .returned (r6V m (.slice A' (L.length + N.length) c')) ∧ w'.ownsRow W.heap.size 32 5 (.slice A' (L.length + N.length) c') (L.length + N.length) (rowsC (L.take (placeN L at_ bf) ++ N ++ L.drop (placeN L at_ bf)) (svs.take (placeN L at_ bf) ++ svn ++ svs.drop (placeN L at_ bf))) ∧ L.length + N.length ≤ c' ∧ Below W.heap.size W w' := by
  have h := hS.see c
  have hn := hSn.see cn
  have PN : placeN L at_ bf = if 0 ≤ bf then rkZ L bf else endZ L at_ := rfl
  have hal := (((Below.refl W.heap.size W).alloc (Nat.le_refl _) (.cells #[.int .i64 m, .slice A L.length c] 40)).alloc (by simp) (.cells #[.int .i64 0, .slice none 0 0] 40))
  have B0 := Lib.hid hal
  have S0 := Lib.hid (nodes_see_behind h hal)
  have N0 := Lib.hid (nodes_see_behind hn hal)
  have X0 := Lib.hid ((Whole.mk W 40 #[.int .i64 m, .slice A L.length c]).made (.cells #[.int .i64 0, .slice none 0 0] 40))
  have Y0 : Hid (Whole ((W.alloc (.cells #[.int .i64 m, .slice A L.length c] 40)).alloc (.cells #[.int .i64 0, .slice none 0 0] 40)) (W.heap.size + 1) 40 [.int .i64 0, .slice none 0 0]) := Lib.hid (by
    have h := Whole.mk (W.alloc (.cells #[.int .i64 m, .slice A L.length c] 40)) 40 #[.int .i64 0, .slice none 0 0]
    simpa using h)
  have hs0 := hS.len
  have hR0 := hS.row
  have hst0 := hS.sty
  have hsn0 := hSn.len
  have hRn0 := hSn.row
  have hstn0 := hSn.sty
  have G := Lib.hid (And.intro hs0 (And.intro hR0 hst0))
  have GN := Lib.hid (And.intro hsn0 (And.intro hRn0 hstn0))
  clear hs0 hR0 hst0 hsn0 hRn0 hstn0 hS hSn h hn
  have HNIL := Lib.hid hnil
  have EN := Lib.hid (fun w (hs : NodesSee w (.slice A L.length c) L) => rend_any m _ L at_ w hOK ha hs hL)
  have FI := Lib.hid (fun w (hs : NodesSee w (.slice A L.length c) L) => rfind_any m _ L bf w hs)
  have HB := Lib.hid hb
  obtain ⟨k, hkk⟩ : ∃ k, placeN L at_ bf = k := ⟨_, rfl⟩
  have PL := Lib.hid (hkk.symm.trans PN)
  rw [hkk] at hk ⊢
  clear PN hkk hal hnil ha hb
  have HK := hk
  go_enter Tryz.func53, Tryz.ntmps53
  go_upto_region 1 with fail
  generalize (W.alloc _).alloc _ = w0 at *
  have t0 : w0.cell? ⟨W.heap.size, 0, none⟩ = some (.int .i64 m) := X0.out.cell 0
  have t1 : w0.cell? ⟨W.heap.size, 1, none⟩ = some (.slice A L.length c) := X0.out.cell 1
  go_wp2_with fail
  refine (EN.out _ S0.out).mono ?_
  rintro e w1 ⟨rfl, hb⟩
  have B1 := Lib.hid (B0.out.trans (Below.mono hb B0.out.size))
  have S1 := Lib.hid (nodes_see_behind S0.out hb)
  have N1 := Lib.hid (nodes_see_behind N0.out hb)
  have X1 := Lib.hid (X0.out.under hb X0.out.size)
  have Y1 := Lib.hid (Y0.out.under hb Y0.out.size)
  clear hb B0 S0 N0 X0 Y0 t0 t1 EN
  have t0 : w1.cell? ⟨W.heap.size, 0, none⟩ = some (.int .i64 m) := X1.out.cell 0
  have t1 : w1.cell? ⟨W.heap.size, 1, none⟩ = some (.slice A L.length c) := X1.out.cell 1
  go_upto_if 15 with fail
  obtain ⟨d0, hd0⟩ : ∃ d, decide (0 ≤ bf) = d := ⟨_, rfl⟩
  rw [hd0]
  have HD0 := Lib.hid hd0
  clear hd0
  go_cut [9] from 16 to 19 (fun v wx => v = .int .i64 k ∧ Below w1.heap.size w1 wx)
  case first =>
    cases d0
    rotate_left
    · have h0 : 0 ≤ bf := by simpa using HD0.out
      have hf : findZ L bf = (k : Int) := by
        have h1 := PL.out
        rw [if_pos h0] at h1
        unfold findZ
        rw [if_pos (HB.out h0), h1]
      clear h0
      go_wp2_with fail
      refine (FI.out _ S1.out).mono ?_
      rintro e w2 ⟨rfl, hb⟩
      have HB2 := Lib.hid hb
      clear hb
      rw [hf]
      go_wp2_with fail
      go_meet
      exact ⟨rfl, HB2.out⟩
    · have h0 : ¬ 0 ≤ bf := by simpa using HD0.out
      have hE := PL.out
      rw [if_neg h0] at hE
      have HE := Lib.hid hE
      clear hE h0
      go_wp2_with fail
      go_meet
      exact ⟨by rw [HE.out], Below.refl _ _⟩
  case rest =>
    obtain ⟨rfl, hb⟩ := hcut
    rename World => w2
    have B2 := Lib.hid (B1.out.trans (Below.mono hb B1.out.size))
    have S2 := Lib.hid (nodes_see_behind S1.out hb)
    have N2 := Lib.hid (nodes_see_behind N1.out hb)
    have X2 := Lib.hid (X1.out.under hb X1.out.size)
    have Y2 := Lib.hid (Y1.out.under hb Y1.out.size)
    clear hb B1 S1 N1 X1 Y1 t0 t1 PL FI HB HD0
    have t0 : w2.cell? ⟨W.heap.size, 0, none⟩ = some (.int .i64 m) := X2.out.cell 0
    have t1 : w2.cell? ⟨W.heap.size, 1, none⟩ = some (.slice A L.length c) := X2.out.cell 1
    obtain ⟨hs, hR0, hst⟩ := G.out
    obtain ⟨hsn, hRn0, hstn⟩ := GN.out
    have hR := (hR0.below B2.out).more B2.out.size
    have hRn := (hRn0.below B2.out).more B2.out.size
    have hkl : k ≤ L.length := hk.2
    have hkc : k ≤ c := by omega
    rw [rowsC_parts L svs hs k hkl] at hR
    have hp5 : (rowsC (L.take k) (svs.take k)).length = k * 5 := by rw [rowsC_length _ _ (by simp [hs])]; rw [List.length_take]; congr 1; omega
    have hd5 : (rowsC (L.drop k) (svs.drop k)).length = (L.length - k) * 5 := by rw [rowsC_length _ _ (by simp [hs])]; rw [List.length_drop]
    have hn5 : (rowsC N svn).length = N.length * 5 := rowsC_length _ _ hsn
    obtain ⟨ad, hA, -, -⟩ := hR (by rw [List.length_append, hp5]; omega)
    subst hA
    have H1 := Lib.hid (NodesSee.slices hs hst)
    have H1N := Lib.hid (NodesSee.slices hsn hstn)
    have RP := Lib.hid hR.head
    obtain ⟨ab, hab⟩ : ∃ ab, (if c = k then some ad else some (ad.add (k * 5))) = ab := ⟨_, rfl⟩
    have RD : Hid (Row w2 w2.heap.size ab (rowsC (L.drop k) (svs.drop k))) := Lib.hid (by
      by_cases hck : c = k
      · intro hpos
        rw [hd5] at hpos; omega
      · rw [if_neg hck] at hab
        have := hR.tailR hp5 (by omega)
        have e : (⟨ad.block, ad.off + k * 5, none⟩ : Addr) = ad.add (k * 5) := by unfold Addr.add; rw [if_neg (by omega)]
        rw [e, hab] at this
        exact this)
    have hab0 : ab ≠ none := by
      intro e; rw [e] at hab; split at hab <;> cases hab
    have HAB := Lib.hid hab
    have HAB0 := Lib.hid hab0
    clear hab hab0
    have RN := Lib.hid hRn
    have ST := Lib.hid (And.intro hs hst)
    have STN := Lib.hid (And.intro hsn hstn)
    clear hR hRn hs hst hsn hstn hR0 hRn0 S2 N2 hk G GN
    have hal : Below w2.heap.size w2 (w2.alloc (.cells #[] 32)) := (Below.refl _ _).alloc (Nat.le_refl _) _
    have hszT := X2.out.size
    have hszY := Y2.out.size
    have HAL := Lib.hid hal
    have OL := Lib.hid (own_lit0 w2 32 5)
    clear hal
    go_upto_region 5 with (at_builtin; refine wpList_push_all rfl (.tmp 19) (.tmp 23) _ rfl w2.heap.size 32 5 64 (.agg #[.int .i64 0, .int .i64 0, .bool false, .string ⟨#[]⟩, .slice none 0 0]) Tryz.underlying23 nodeInfo rfl (by decide) 0 0 (some ⟨w2.heap.size, 0, none⟩) [] rfl OL.out w2.heap.size k c (some ad) (rowsC (L.take k) (svs.take k)) rfl (fun e => by cases e) hp5 (RP.out.below HAL.out) (rowsC_one _ _ fun v hv => H1.out v (List.mem_of_mem_take hv)) (by unfold maxLen; omega) (by omega) (by simp) ?_; intro A3 c3 w3 h3 b3)
    have O3 : Hid (w3.ownsRow w2.heap.size 32 5 (.slice A3 k c3) k (rowsC (L.take k) (svs.take k))) := Lib.hid (by simpa using h3)
    have b23 := HAL.out.trans b3
    have B3 := Lib.hid (B2.out.trans (b23.mono B2.out.size))
    have X3 := Lib.hid (X2.out.under b23 X2.out.size)
    have Y3 := Lib.hid (Y2.out.under b23 Y2.out.size)
    have RD3 := Lib.hid (RD.out.below b23)
    have RN3 := Lib.hid (RN.out.below b23)
    have hz3 := b23.size
    have HB3 := Lib.hid b23
    clear h3 b3 b23 OL HAL B2 X2 Y2 RD RN RP t0 t1
    go_upto_region 6 with (at_builtin; refine wpList_push_all rfl (.tmp 25) (.tmp 26) _ rfl w2.heap.size 32 5 64 (.agg #[.int .i64 0, .int .i64 0, .bool false, .string ⟨#[]⟩, .slice none 0 0]) Tryz.underlying23 nodeInfo rfl (by decide) k c3 A3 (rowsC (L.take k) (svs.take k)) rfl O3.out w2.heap.size N.length cn An (rowsC N svn) rfl HNIL.out hn5 RN3.out (rowsC_one _ _ H1N.out) (by unfold maxLen; omega) (by omega) hz3 ?_; intro A4 c4 w4 h4 b4)
    have O4 := Lib.hid h4
    have B4 := Lib.hid (B3.out.trans (b4.mono (by omega)))
    have X4 := Lib.hid (X3.out.under b4 (by omega))
    have Y4 := Lib.hid (Y3.out.under b4 (by omega))
    have RD4 := Lib.hid (RD3.out.below b4)
    have HB4 := Lib.hid (HB3.out.trans b4)
    have hz4 := HB4.out.size
    clear h4 b4 O3 B3 X3 Y3 RD3 RN3 HB3
    have y0 : ∀ t : Later (W.heap.size + 1) w4, t.w.cell? ⟨W.heap.size, 0, none⟩ = some (.int .i64 m) := fun t => (X4.out.under t.h (Nat.lt_succ_self _)).cell 0
    have y1 : ∀ t : Later (W.heap.size + 1) w4, t.w.cell? ⟨W.heap.size, 1, none⟩ = some (.slice (some ad) L.length c) := fun t => (X4.out.under t.h (Nat.lt_succ_self _)).cell 1
    refine region_floatB (B := W.heap.size + 1) [0, 2, 3, 5] [1, 4, 6] [7, 8, 9] (by kernel_rfl) (by kernel_rfl) (fun _ _ _ _ _ h => h) ?_
    simp only [pick, List.map_cons, List.map_nil, List.getD_cons_zero, List.getD_cons_succ, List.drop_succ_cons, List.drop_zero]
    repeat (go_big_quiet_step (fail))
    refine wpQuiet_nil ?_
    repeat (go_big_quiet_step (fail))
    rw [HAB.out]
    refine wpQuiet_nil fun w5 hb5 => ?_
    have hb5 : Below w4.heap.size w4 w5 := hb5
    have O5 := Lib.hid (own_below O4.out hb5 (Nat.le_refl _))
    have B5 := Lib.hid (B4.out.trans (hb5.mono B4.out.size))
    have Y5 := Lib.hid (Y4.out.under hb5 Y4.out.size)
    have RD5 := Lib.hid (RD4.out.below (hb5.mono hz4))
    have HB5 := Lib.hid (HB4.out.trans (hb5.mono hz4))
    have C5 : Hid (Below (W.heap.size + 1) w4 w5) := Lib.hid (hb5.mono (by omega))
    have hz5 := HB5.out.size
    clear O4 B4 X4 Y4 RD4 HB4 y0 y1
    refine tail_step (by rfl) fun K hK => ?_
    refine wp_push_all (.tmp 30) (.tmp 34) _ rfl w2.heap.size 32 5 64 (.agg #[.int .i64 0, .int .i64 0, .bool false, .string ⟨#[]⟩, .slice none 0 0]) Tryz.underlying23 nodeInfo rfl (by decide) (k + N.length) c4 A4 _ rfl O5.out w2.heap.size (L.length - k) (c - k) ab (rowsC (L.drop k) (svs.drop k)) rfl (fun e => absurd e HAB0.out) hd5 RD5.out (rowsC_one _ _ fun v hv => H1.out v (List.mem_of_mem_drop hv)) (by unfold maxLen; omega) (by omega) hz5 ?_
    intro A6 c6 w6 h6 b6
    have O6 := Lib.hid h6
    have B6 := Lib.hid (B5.out.trans (b6.mono (by omega)))
    have Y6 := Lib.hid (Y5.out.under b6 (by omega))
    have C6 := Lib.hid (C5.out.trans (b6.mono (by omega)))
    have HB6 := Lib.hid (HB5.out.trans b6)
    clear h6 b6 O5 B5 Y5 C5 HB5 RD5
    refine hK _ _ C6.out ?_
    clear hK K
    simp only [Act.put, List.setIfInBounds_toArray, List.set_cons_zero, List.set_cons_succ]
    refine tail_step (by rfl) fun K hK => ?_
    go_simp
    refine hK _ _ C6.out ?_
    clear hK K
    refine tail_step (by rfl) fun K hK => ?_
    refine wp_store_row 40 (.tmp 8) (.tmp 36) rfl (W.heap.size + 1) #[.int .i64 m, .slice A6 (k + N.length + (L.length - k)) c6] rfl rfl 40 #[.int .i64 0, .slice none 0 0] Y6.out (by kernel_rfl) rfl (by simp [Value.oneCell']) ?_
    have Z7 := Lib.hid (setRow_heap w6 (W.heap.size + 1) _ #[.int .i64 m, .slice A6 (k + N.length + (L.length - k)) c6] _ _ Y6.out)
    have Q7 : Hid (Only [W.heap.size + 1] w6 (w6.setRow (W.heap.size + 1) #[.int .i64 m, .slice A6 (k + N.length + (L.length - k)) c6])) := Lib.hid ⟨rfl, rfl, rfl, by simp, fun j _ hj => setRow_other w6 (W.heap.size + 1) j _ (by simpa using hj)⟩
    have hz6 := HB6.out.size
    have b67 := Q7.out.below (B := W.heap.size + 1) (by simp) (by omega)
    refine hK _ _ (C6.out.trans b67) ?_
    clear hK K
    refine tail_end ?_
    generalize w6.setRow (W.heap.size + 1) _ = w7 at *
    have B7 := Lib.hid (B6.out.trans (b67.mono (Nat.le_succ _)))
    have O7 := Lib.hid (Q7.out.owns O6.out (fun g hg hx => by
      have := (O6.out.lt g hg).1
      simp at hx; omega))
    have ln : k + N.length + (L.length - k) = L.length + N.length := by omega
    have LE := Lib.hid ln
    have CC : Hid (L.length + N.length ≤ c6) := Lib.hid (by obtain ⟨A9, c9, e, h1, -, -⟩ := owns_nil O6.out; injection e with e1 e2 e3; subst e1 e3; omega)
    clear Q7 O6 B6 Y6 C6 HB6 b67 hb5
    go_wp2
    have hsm : Value.slice A6 (k + N.length + (L.length - k)) c6 = .slice A6 (L.length + N.length) c6 := by rw [LE.out]
    obtain ⟨s1, s2⟩ := ST.out
    obtain ⟨s3, s4⟩ := STN.out
    refine cells_end rtree_flat rfl (W.heap.size + 1) rfl [.int .i64 m, .slice A6 (k + N.length + (L.length - k)) c6] rfl 40 Z7.out rfl ⟨A6, c6, by rw [hsm], ?_, CC.out, B7.out⟩
    rw [rowsC_app _ _ _ _ (by simp [s1, s3]), rowsC_app _ _ _ _ (by simp [s1]), ← LE.out]
    exact own_mono O7.out (by omega)
end Go.Proofs.YtbhdpfacfgldiaaGreatDoor
/- A document's tree: its list in memory. -/
namespace Go.Proofs.YtbhdpfacfgldiaaGreatDoor
open Go Go.RowKit
set_option linter.unusedVariables false
set_option linter.unusedSimpArgs false
set_option maxRecDepth 20000
set_option maxHeartbeats 4000000

/-- A list in memory that reads as L, its slice with room for what it says. -/
def R6 (w : World) (v : Value) (L : List Nd) : Prop := ∃ A c svs, v = .slice A L.length c ∧ L.length ≤ c ∧ SeeS w A L svs
theorem SeeS.behind {w w' : World} {A : Option Addr} {L : List Nd} {svs : List Value} (h : SeeS w A L svs) (hb : Below w.heap.size w w') : SeeS w' A L svs := ⟨h.len, h.few, (h.row.below hb).more hb.size, fun k hk hk2 => (h.sty k hk hk2).below hb⟩
theorem R6.behind {w w' : World} {v : Value} {L : List Nd} (h : R6 w v L) (hb : Below w.heap.size w w') : R6 w' v L := by
  obtain ⟨A, c, svs, e, hc, hs⟩ := h
  exact ⟨A, c, svs, e, hc, hs.behind hb⟩
theorem R6.see {w : World} {v : Value} {L : List Nd} (h : R6 w v L) : NodesSee w v L := by
  obtain ⟨A, c, svs, rfl, hc, hs⟩ := h
  exact hs.see c
end Go.Proofs.YtbhdpfacfgldiaaGreatDoor
/- The nodes that a document's tree holds, as tree.Of may be given them. -/
namespace Go.Proofs.YtbhdpfacfgldiaaGreatDoor
open Go Go.RowKit
set_option linter.unusedVariables false
set_option linter.unusedSimpArgs false

theorem grow_less {m m' : Nat} : ∀ (R : List Nd) (L : List Nd) (last : Int), growB m L last R = true → L.length + R.length ≤ m' → growB m' L last R = true
  | [], _, _, _, _ => rfl
  | x :: R, L, last, h, hl => by
    rw [growB, Bool.and_eq_true, Bool.and_eq_true] at h ⊢
    obtain ⟨⟨h1, h2⟩, h3⟩ := h
    refine ⟨⟨decide_eq_true (by simp at hl; omega), h2⟩, grow_less R _ _ h3 (by simp at hl ⊢; omega)⟩
/-- A tree's list is one of just so many nodes. -/
theorem of_just (most most' : Int) (L : List Nd) (h : ofB most L = true) (hm : L.length ≤ mostZ most') : ofB most' L = true := by
  cases L with
  | nil => cases h
  | cons r R =>
    rw [ofB, Bool.and_eq_true] at h ⊢
    exact ⟨h.1, grow_less R [r] 0 h.2 (by simp at hm ⊢; omega)⟩
theorem of_len (L : List Nd) (h : ofB 500 L = true) : ofB (L.length : Int) L = true := by
  have h1 := of_most 500 L h
  have h2 : 0 < L.length := by cases L with | nil => cases h | cons r R => simp
  have h3 : mostZ 500 = 500 := rfl
  exact of_just 500 _ L h (by unfold mostZ; omega)
theorem of_par {most : Int} {L : List Nd} (h : ofB most L = true) : ∀ n ∈ L, -1 ≤ n.par ∧ n.par ≤ 1000 := fun n hn => by
  have hok := of_ok most L h
  obtain ⟨i, hi, rfl⟩ := List.mem_iff_getElem.1 hn
  rcases Nat.eq_zero_or_pos i with e | e
  · subst e
    obtain ⟨r, R, rfl, -, h2, -⟩ := hok.root
    simp [h2]
  · obtain ⟨j, hj, hp⟩ := hok.up i hi e
    have := hok.rng _ (List.getElem_mem (show j < L.length by omega))
    rw [← hp]; omega
theorem of_fit {most : Int} {L : List Nd} (h : ofB most L = true) : ∀ n ∈ L, fitB n = true := fun n hn => by
  cases L with
  | nil => cases h
  | cons r R =>
    rcases List.mem_cons.1 hn with rfl | hn
    · rw [ofB, Bool.and_eq_true] at h
      unfold rootB at h
      simp only [Bool.and_eq_true] at h
      exact h.1.2
    · obtain ⟨A, S, rfl⟩ := List.append_of_mem hn
      exact (takes_facts (next_takes most r n A S h).1).2.2.1
theorem fit_dat {n : Nd} (h : fitB n = true) : n.dat.size ≤ 1000 := by
  unfold fitB at h
  split at h
  · simp only [Bool.and_eq_true, decide_eq_true_eq] at h; exact h.1
  · simp only [Bool.and_eq_true, decide_eq_true_eq] at h; omega
theorem SeeS.low {w : World} {A : Option Addr} {L : List Nd} {svs : List Value} {most : Int} (h : SeeS w A L svs) (ho : ofB most L = true) : NodesLow w w.heap.size A L svs :=
  ⟨h.len, h.row, fun k hk => h.sty k hk (by rw [h.len]; exact hk), fun n hn => by
    have h1 := fit_dat (of_fit ho n hn)
    have h2 := (of_ok most L ho).rng n hn
    have h3 := of_par ho n hn
    refine ⟨by omega, ?_, ?_⟩ <;> unfold In64i <;> omega, h.few⟩
/-- A node's number and kind. -/
theorem R6.tx_ {w : World} {v : Value} {L : List Nd} (h : R6 w v L) : ∃ A c, v = .slice A L.length c ∧ L.length ≤ c ∧ ∀ k (hk : k < L.length), ∃ ad, A = some ad ∧ ad.block < w.heap.size ∧ w.cell? (ad.add (k * 5)) = some (.int .i64 L[k].id) ∧
    w.cell? ⟨(ad.add (k * 5)).block, (ad.add (k * 5)).off + 2, none⟩ = some (.bool L[k].tx) := by
  obtain ⟨A, c, svs, e, hc, hs⟩ := h
  refine ⟨A, c, e, hc, fun k hk => ?_⟩
  obtain ⟨ad, ea, hb, h0, h1, h2, -⟩ := hs.row.ndr hs.len hk (by have := hs.len; omega)
  exact ⟨ad, ea, hb, h0, h2⟩
end Go.Proofs.YtbhdpfacfgldiaaGreatDoor
/- decl: pixels and what forms tell. -/
namespace Go.Proofs.YtbhdpfacfgldiaaGreatDoor
open Go Go.RowKit
set_option linter.unusedVariables false
set_option linter.unusedSimpArgs false
set_option maxRecDepth 20000
set_option maxHeartbeats 4000000

def StepOk (s : Int) : Prop := s = 1000 ∨ s = 100 ∨ s = 10 ∨ s = 1
theorem readAs_step (n s : Int) (hs : StepOk s) (hn : -1000000000 ≤ n ∧ n ≤ 1000000000) (W : World) :
    Calls Tryz.prog 149 #[.int .i64 n, .int .i64 s] W fun e w' => ∃ (t : Int) (b : Bool), e = .returned (.tuple #[.int .i64 t, .bool b]) ∧ -100000000 ≤ t ∧ t ≤ 100000000 ∧ Below W.heap.size W w' := by
  unfold StepOk at hs
  rcases hs with rfl | rfl | rfl | rfl
  · exact readAs_any n 1000 99999 (by omega) (by decide) hn W
  · exact readAs_any n 100 999999 (by omega) (by decide) hn W
  · exact readAs_any n 10 9999999 (by omega) (by decide) hn W
  · exact readAs_any n 1 99999999 (by omega) (by decide) hn W
theorem pixels_any (n : Int) (hn : -1000000000 ≤ n ∧ n ≤ 1000000000) (W : World) (hT : TabOk W) :
    Calls Tryz.prog 144 #[.int .i64 n] W (TextPost 302 W) := by
  by_cases h0 : n = 0
  · have z0 : (n == 0) = true := by rw [beq_iff_eq]; exact h0
    clear h0
    go_enter Tryz.func144, Tryz.ntmps144
    go_wp2_with fail
    go_ret
    exact ⟨⟨#[48]⟩, rfl, by decide, Below.refl _ _⟩
  · have z0 : (n == 0) = false := by rw [beq_eq_false_iff_ne]; exact h0
    have RS := Lib.hid (fun s hs w => readAs_step n s hs hn w)
    have DE := Lib.hid (fun (t : Int) (h0 : -100000000 ≤ t) (h1 : t ≤ 100000000) (w : World) (h : TabOk w) => (decimal_any t 3 (by omega) (by omega) (by omega) w h : Calls Tryz.prog 145 #[.int .i64 t, .int .i64 3] w (TextPost 300 w)))
    have HT := Lib.hid hT
    clear h0 hT hn
    go_enter Tryz.func144, Tryz.ntmps144
    go_wp2_with fail
    refine (RS.out 1000 (.inl rfl) _).mono ?_
    rintro e w1 ⟨t, b, rfl, t0, t1, hb⟩
    have B1 := Lib.hid hb
    clear hb
    go_wp2_with fail
    go_loopw [3, 4, 5] (fun v3 v4 v5 wr => ∃ (s t : Int) (b : Bool), v3 = .int .i64 s ∧ v4 = .int .i64 t ∧ v5 = .bool b ∧ Hid (StepOk s) ∧ -100000000 ≤ t ∧ t ≤ 100000000 ∧ Hid (Below W.heap.size W wr)) (fun v3 _ _ _ => (intOf v3).toNat)
    case atStart => exact ⟨1000, t, b, rfl, rfl, rfl, Lib.hid (.inl rfl), t0, t1, B1⟩
    case round =>
      clear B1 t0 t1
      obtain ⟨s, t, b, rfl, rfl, rfl, HS, t0, t1, B1⟩ := hrel
      generalize wr = w2 at *
      by_cases hgo : b = false ∧ 1 < s
      · obtain ⟨rfl, hs1⟩ := hgo
        have z1 : decide ((1 : Int) < s) = true := decide_eq_true hs1
        obtain ⟨s', hs'⟩ : ∃ s', s.tdiv 10 = s' := ⟨_, rfl⟩
        have HS' : Hid (StepOk s') := Lib.hid (by
          have := HS.out
          unfold StepOk at this ⊢
          rcases this with rfl | rfl | rfl | rfl <;> subst hs' <;> first | (exact .inr (.inl rfl)) | (exact .inr (.inr (.inl rfl))) | (exact .inr (.inr (.inr rfl))) | omega)
        have hs2 : s' < s ∧ 0 < s' ∧ s' ≤ 1000 := by
          have := HS.out
          unfold StepOk at this
          rcases this with rfl | rfl | rfl | rfl <;> subst hs' <;> first | decide | omega
        have hn10 : -9223372036854775808 ≤ s' ∧ s' ≤ 9223372036854775807 := by omega
        go_wp2_with fail
        refine (RS.out s' HS'.out _).mono ?_
        rintro e w3 ⟨t3, b3, rfl, u0, u1, hb⟩
        have B3 := Lib.hid (B1.out.trans (hb.mono B1.out.size))
        clear hb
        go_wp2_with fail
        go_roundw
        case rel => exact ⟨s', t3, b3, rfl, rfl, rfl, HS', u0, u1, B3⟩
        case measure => simp [intOf]; omega
      · have DD := Lib.hid (DE.out t t0 t1 w2 (HT.out.below B1.out))
        have hz : b = true ∨ (b = false ∧ decide ((1 : Int) < s) = false) := by
          cases b with
          | true => exact .inl rfl
          | false => exact .inr ⟨rfl, decide_eq_false fun h => hgo ⟨rfl, h⟩⟩
        clear hgo
        rcases hz with rfl | ⟨rfl, z1⟩
        · go_wp2_with fail
          refine DD.out.mono ?_
          rintro e w3 ⟨x, rfl, hx, hb⟩
          have B3 := Lib.hid (B1.out.trans (hb.mono B1.out.size))
          clear hb
          go_wp2_with fail
          go_ret
          exact ⟨_, rfl, by rw [ByteArray.size_append]; show x.size + 2 ≤ 302; omega, B3.out⟩
        · go_wp2_with fail
          refine DD.out.mono ?_
          rintro e w3 ⟨x, rfl, hx, hb⟩
          have B3 := Lib.hid (B1.out.trans (hb.mono B1.out.size))
          clear hb
          go_wp2_with fail
          go_ret
          exact ⟨_, rfl, by rw [ByteArray.size_append]; show x.size + 2 ≤ 302; omega, B3.out⟩
end Go.Proofs.YtbhdpfacfgldiaaGreatDoor
/- decl: what the forms tell. -/
namespace Go.Proofs.YtbhdpfacfgldiaaGreatDoor
open Go Go.RowKit
set_option linter.unusedVariables false
set_option linter.unusedSimpArgs false
set_option maxRecDepth 20000
set_option maxHeartbeats 4000000

abbrev dV (p w k n : Int) : Value := .agg #[.int .i64 p, .int .i64 w, .int .i64 k, .int .i64 n]
theorem words_small (p : Int) (h : p = 1 ∨ p = 20 ∨ p = 21 ∨ p = 26 ∨ p = 27 ∨ p = 28 ∨ p = 29 ∨ p = 30 ∨ p = 32) : ∀ s ∈ wordsS p, s.size ≤ 16 := by
  rcases h with rfl | rfl | rfl | rfl | rfl | rfl | rfl | rfl | rfl <;> decide
theorem words_le (p : Int) (h : p = 1 ∨ p = 20 ∨ p = 21 ∨ p = 26 ∨ p = 27 ∨ p = 28 ∨ p = 29 ∨ p = 30 ∨ p = 32) : (wordsS p).length ≤ 5 := by
  rcases h with rfl | rfl | rfl | rfl | rfl | rfl | rfl | rfl | rfl <;> decide
theorem wordsTell_any (p : Int) (w : Nat) (k n : Int) (h : p = 1 ∨ p = 20 ∨ p = 21 ∨ p = 26 ∨ p = 27 ∨ p = 28 ∨ p = 29 ∨ p = 30 ∨ p = 32) (A : Addr) (W : World) (hw : w < (wordsS p).length) (hR : Row W W.heap.size (some A) (strs (wordsS p))) :
    Calls Tryz.prog 121 #[.slice (some A) (wordsS p).length (wordsS p).length, dV p w k n] W (TextPost 400 W) := by
  obtain ⟨t, ht⟩ : ∃ t, (wordsS p)[w]? = some t := ⟨_, List.getElem?_eq_getElem hw⟩
  have hs : t.size ≤ 16 := words_small p h t (List.mem_of_getElem? ht)
  have hle := words_le p h
  have hl : (strs (wordsS p)).length = (wordsS p).length := strs_length _
  obtain ⟨A', hA, hlt, hc⟩ := hR (by omega)
  cases hA
  have hcw : W.cell? (A.add w) = some (.string t) := by
    rw [hc w (by omega)]
    have : (strs (wordsS p))[w]? = some (.string t) := by unfold strs; rw [List.getElem?_map, ht]; rfl
    rw [List.getElem?_eq_getElem (by omega)] at this
    exact this
  have hcw2 : (W.alloc (.cells #[.int .i64 p, .int .i64 w, .int .i64 k, .int .i64 n] 70)).cell? (A.add w) = some (.string t) := by
    rw [← hcw]; exact ((Below.refl W.heap.size W).alloc (Nat.le_refl _) _).cell (by rw [add_block]; exact hlt)
  have hw1 : (w : Int) < ((wordsS p).length : Int) := by omega
  have hw2 : ((wordsS p).length : Int) ≤ 5 := by omega
  generalize (wordsS p).length = m at *
  clear h ht hR hc hl
  go_enter Tryz.func121, Tryz.ntmps121
  go_wp2_with fail
  go_ret
  exact ⟨t, rfl, by omega, (Below.refl _ _).alloc (Nat.le_refl _) _⟩
theorem wholeTell_any (a b p w k n : Int) (h0 : -4611686018427387904 ≤ w) (h1 : w ≤ 4611686018427387904) (W : World) (hT : TabOk W) :
    Calls Tryz.prog 124 #[.agg #[.int .i64 a, .int .i64 b], dV p w k n] W (TextPost 400 W) := by
  have hb0 : Below W.heap.size W ((W.alloc (.cells #[.int .i64 a, .int .i64 b] 133)).alloc (.cells #[.int .i64 p, .int .i64 w, .int .i64 k, .int .i64 n] 70)) := ((Below.refl _ _).alloc (Nat.le_refl _) _).alloc (by simp) _
  have F := Lib.hid (itoa_any w h0 h1 _ (hT.below hb0))
  have B := Lib.hid hb0
  clear hb0
  go_enter Tryz.func124, Tryz.ntmps124
  go_wp2_with fail
  refine F.out.mono ?_
  rintro e w1 ⟨s, rfl, hs, hb⟩
  have B1 := Lib.hid (B.out.trans (hb.mono B.out.size))
  clear hb
  go_wp2_with fail
  go_ret
  exact ⟨s, rfl, by omega, B1.out⟩
theorem lenTell_any (a : ByteArray) (pc mn : Bool) (p w k n : Int) (ha : a.size ≤ 16) (h : -1000000000 ≤ n ∧ n ≤ 1000000000) (W : World) (hT : TabOk W) :
    Calls Tryz.prog 142 #[.agg #[.string a, .bool pc, .bool mn], dV p w k n] W (TextPost 400 W) := by
  have hb0 : Below W.heap.size W ((W.alloc (.cells #[.string a, .bool pc, .bool mn] 135)).alloc (.cells #[.int .i64 p, .int .i64 w, .int .i64 k, .int .i64 n] 70)) := ((Below.refl _ _).alloc (Nat.le_refl _) _).alloc (by simp) _
  have F := Lib.hid (pixels_any n h _ (hT.below hb0))
  have D := Lib.hid (decimal_any n 2 h.1 h.2 (by omega) _ (hT.below hb0))
  have B := Lib.hid hb0
  clear hb0 h
  by_cases k1 : k = 1
  · subst k1
    go_enter Tryz.func142, Tryz.ntmps142
    go_wp2_with fail
    refine F.out.mono ?_
    rintro e w1 ⟨s, rfl, hs, hb⟩
    have B1 := Lib.hid (B.out.trans (hb.mono B.out.size))
    clear hb
    go_wp2_with fail
    go_ret
    exact ⟨s, rfl, by omega, B1.out⟩
  · have z1 : (k == 1) = false := by rw [beq_eq_false_iff_ne]; exact k1
    by_cases k2 : k = 2
    · subst k2
      go_enter Tryz.func142, Tryz.ntmps142
      go_wp2_with fail
      refine D.out.mono ?_
      rintro e w1 ⟨s, rfl, hs, hb⟩
      have B1 := Lib.hid (B.out.trans (hb.mono B.out.size))
      clear hb
      go_wp2_with fail
      go_ret
      exact ⟨_, rfl, by rw [ByteArray.size_append]; have : (ByteArray.mk #[37]).size = 1 := rfl; omega, B1.out⟩
    · have z2 : (k == 2) = false := by rw [beq_eq_false_iff_ne]; exact k2
      clear k1 k2
      go_enter Tryz.func142, Tryz.ntmps142
      go_wp2_with fail
      go_ret
      exact ⟨a, rfl, by omega, B.out⟩
end Go.Proofs.YtbhdpfacfgldiaaGreatDoor
/- decl.nameOf: a name of at most 20 bytes. -/
namespace Go.Proofs.YtbhdpfacfgldiaaGreatDoor
open Go Go.RowKit
set_option linter.unusedVariables false
set_option linter.unusedSimpArgs false
set_option maxRecDepth 20000
set_option maxHeartbeats 4000000

def namesB : ByteArray := ⟨#[100, 105, 115, 112, 108, 97, 121, 32, 119, 105, 100, 116, 104, 32, 104, 101, 105, 103, 104, 116, 32, 109, 105, 110, 45, 119, 105, 100, 116, 104, 32, 109, 105, 110, 45, 104, 101, 105, 103, 104, 116, 32, 109, 97, 120, 45, 119, 105, 100, 116, 104, 32, 109, 97, 120, 45, 104, 101, 105, 103, 104, 116, 32, 109, 97, 114, 103, 105, 110, 45, 116, 111, 112, 32, 109, 97, 114, 103, 105, 110, 45, 114, 105, 103, 104, 116, 32, 109, 97, 114, 103, 105, 110, 45, 98, 111, 116, 116, 111, 109, 32, 109, 97, 114, 103, 105, 110, 45, 108, 101, 102, 116, 32, 112, 97, 100, 100, 105, 110, 103, 45, 116, 111, 112, 32, 112, 97, 100, 100, 105, 110, 103, 45, 114, 105, 103, 104, 116, 32, 112, 97, 100, 100, 105, 110, 103, 45, 98, 111, 116, 116, 111, 109, 32, 112, 97, 100, 100, 105, 110, 103, 45, 108, 101, 102, 116, 32, 98, 111, 114, 100, 101, 114, 45, 116, 111, 112, 32, 98, 111, 114, 100, 101, 114, 45, 114, 105, 103, 104, 116, 32, 98, 111, 114, 100, 101, 114, 45, 98, 111, 116, 116, 111, 109, 32, 98, 111, 114, 100, 101, 114, 45, 108, 101, 102, 116, 32, 102, 108, 101, 120, 45, 100, 105, 114, 101, 99, 116, 105, 111, 110, 32, 102, 108, 101, 120, 45, 119, 114, 97, 112, 32, 102, 108, 101, 120, 45, 98, 97, 115, 105, 115, 32, 102, 108, 101, 120, 45, 103, 114, 111, 119, 32, 102, 108, 101, 120, 45, 115, 104, 114, 105, 110, 107, 32, 111, 114, 100, 101, 114, 32, 106, 117, 115, 116, 105, 102, 121, 45, 99, 111, 110, 116, 101, 110, 116, 32, 97, 108, 105, 103, 110, 45, 105, 116, 101, 109, 115, 32, 97, 108, 105, 103, 110, 45, 115, 101, 108, 102, 32, 116, 101, 120, 116, 45, 97, 108, 105, 103, 110, 32, 119, 104, 105, 116, 101, 45, 115, 112, 97, 99, 101, 32, 108, 105, 110, 101, 45, 104, 101, 105, 103, 104, 116, 32, 111, 118, 101, 114, 102, 108, 111, 119]⟩
def namesF : List (List UInt8) := Lib.fields namesB.data.toList
theorem names_len : namesF.length = 32 := by decide +kernel
theorem namesF_small : ∀ l ∈ namesF, l.length ≤ 20 := by decide +kernel
theorem names_ascii : ∀ b ∈ namesB.data.toList, b.toNat < 128 := by decide +kernel
abbrev AscTab (W : World) : Prop := Lib.TabIs Tryz.prog W "strings.asciiSpace" .u8 Lib.asciiSpaceTab
theorem names_any (W : World) (hT : AscTab W) : Calls Tryz.prog 94 #[.string namesB] W fun e w' => e = .returned (.slice (some ⟨W.heap.size, 0, none⟩) 32 32) ∧ w' = W.alloc (.cells (namesF.map fun l => Value.string ⟨l.toArray⟩).toArray 9) := by
  have := Tryz.strings_Fields namesB W (by decide +kernel) (fun j b h => names_ascii b (List.mem_of_getElem? h)) hT
  rwa [show (Lib.fields namesB.data.toList).length = 32 from names_len] at this
theorem nameOf_any (p : Int) (hp : 1 ≤ p ∧ p ≤ 32) (W : World) (hT : AscTab W) : Calls Tryz.prog 84 #[.int .i64 p] W (TextPost 20 W) := by
  have F := Lib.hid (names_any W hT)
  obtain ⟨q, hq⟩ : ∃ q : Nat, p - 1 = (q : Int) := ⟨(p - 1).toNat, by omega⟩
  have hq1 : q < namesF.length := by rw [names_len]; omega
  obtain ⟨l, hl⟩ : ∃ l, namesF[q]? = some l := ⟨_, List.getElem?_eq_getElem hq1⟩
  have hs : l.length ≤ 20 := namesF_small l (List.mem_of_getElem? hl)
  have hc : (W.alloc (.cells (namesF.map fun l => Value.string ⟨l.toArray⟩).toArray 9)).cell? ⟨W.heap.size, q, none⟩ = some (.string ⟨l.toArray⟩) := by
    have hr := row_new W (namesF.map fun l => Value.string ⟨l.toArray⟩).toArray 9
    obtain ⟨ad, e, -, hh⟩ := hr.get (k := q) (by simpa using hq1)
    cases e
    rw [head_add] at hh
    rw [hh]
    have := List.getElem?_eq_getElem hq1
    rw [hl] at this
    simp at this ⊢
    rw [this]
  have hb : Below W.heap.size W (W.alloc (.cells (namesF.map fun l => Value.string ⟨l.toArray⟩).toArray 9)) := (Below.refl _ _).alloc (Nat.le_refl _) _
  generalize W.alloc (.cells (namesF.map fun l => Value.string ⟨l.toArray⟩).toArray 9) = w1 at *
  have hq2 : (q : Int) < 32 := by omega
  have hp2 : -9223372036854775808 ≤ p - 1 ∧ p - 1 ≤ 9223372036854775807 := by omega
  have HB := Lib.hid hb
  clear hl hq1 hT hb
  go_enter Tryz.func84, Tryz.ntmps84
  go_wp2_with fail
  refine F.out.mono ?_
  rintro e w2 ⟨rfl, rfl⟩
  go_wp2_with fail
  go_ret
  exact ⟨_, rfl, by simpa [ByteArray.size] using hs, HB.out⟩
end Go.Proofs.YtbhdpfacfgldiaaGreatDoor
/- decl: has a length's form a declaration? -/
namespace Go.Proofs.YtbhdpfacfgldiaaGreatDoor
open Go Go.RowKit
set_option linter.unusedVariables false
set_option linter.unusedSimpArgs false
set_option maxRecDepth 20000
set_option maxHeartbeats 4000000

def lenB (em pc mn : Bool) (w k n : Int) : Bool := decide (w = 0 ∧ ((k = 0 ∧ em = false ∧ n = 0) ∨ (k = 1 ∧ holdsB mn n 6400000 = true) ∨ (k = 2 ∧ pc = true ∧ holdsB mn n 999999 = true)))
theorem px_most : pxZ 99999999 = 6400000 := by decide
theorem pxm_any (w : World) : Calls Tryz.prog 143 #[.int .i64 99999999] w fun e w' => e = .returned (.int .i64 6400000) ∧ w = w' := by
  have := px_any 99999999 w (by omega) (by omega)
  rwa [px_most] at this
theorem holds_val (a : ByteArray) (pc mn : Bool) (n most : Int) (h0 : 0 ≤ most) (h1 : most ≤ 6400000) (b : Bool) (hb : holdsB mn n most = b) (W : World) : Calls Tryz.prog 140 #[.agg #[.string a, .bool pc, .bool mn], .int .i64 n, .int .i64 most] W fun e w' => e = .returned (.bool b) ∧ Below W.heap.size W w' :=
  hb ▸ holds_any a pc mn n most h0 h1 W
theorem lengthHas_any (a : ByteArray) (em : Bool) (ha : (a = ⟨#[]⟩ ∧ em = true) ∨ (a = ⟨#[110, 111, 110, 101]⟩ ∧ em = false) ∨ (a = ⟨#[97, 117, 116, 111]⟩ ∧ em = false)) (pc mn : Bool) (p w k n : Int) (W : World) :
    Calls Tryz.prog 139 #[.agg #[.string a, .bool pc, .bool mn], .agg #[.int .i64 p, .int .i64 w, .int .i64 k, .int .i64 n]] W fun e w' => e = .returned (.bool (lenB em pc mn w k n)) ∧ Below W.heap.size W w' := by
  have HBW := Lib.hid (show Below W.heap.size W ((W.alloc (.cells #[.string a, .bool pc, .bool mn] 135)).alloc (.cells #[.int .i64 p, .int .i64 w, .int .i64 k, .int .i64 n] 70)) from ((Below.refl _ _).alloc (Nat.le_refl _) _).alloc (by simp) _)
  by_cases hw : w = 0
  · subst hw
    rcases (show k = 0 ∨ k = 1 ∨ k = 2 ∨ (k ≠ 0 ∧ k ≠ 1 ∧ k ≠ 2) by omega) with rfl | rfl | rfl | ⟨k0, k1, k2⟩
    · have hr : lenB em pc mn 0 0 n = (!em && decide (n = 0)) := by unfold lenB; cases em <;> simp
      have HR := Lib.hid hr
      clear hr
      rcases ha with ⟨rfl, rfl⟩ | ⟨rfl, rfl⟩ | ⟨rfl, rfl⟩
      all_goals
        go_enter Tryz.func139, Tryz.ntmps139
        go_wp2
        all_goals
          go_ret
          exact ⟨ret_bool (Eq.trans (by first | (simp; done) | (rw [Bool.eq_iff_iff]; simp)) HR.out.symm), HBW.out⟩
    · have hr : lenB em pc mn 0 1 n = holdsB mn n 6400000 := by unfold lenB; simp
      have HR := Lib.hid hr
      clear hr ha
      go_enter Tryz.func139, Tryz.ntmps139
      go_upto_region 7 with fail
      generalize hW1 : (W.alloc (.cells #[.string a, .bool pc, .bool mn] 135)).alloc (.cells #[.int .i64 p, .int .i64 0, .int .i64 1, .int .i64 n] 70) = W1 at *
      have E0 := (Whole.mk W 135 #[.string a, .bool pc, .bool mn]).made (.cells #[.int .i64 p, .int .i64 0, .int .i64 1, .int .i64 n] 70)
      have E1 := Whole.mk (W.alloc (.cells #[.string a, .bool pc, .bool mn] 135)) 70 #[.int .i64 p, .int .i64 0, .int .i64 1, .int .i64 n]
      rw [hW1] at E0 E1
      rw [World.size_alloc] at E1
      have K0 : ∀ s : Later W1.heap.size W1, s.w.cell? ⟨W.heap.size, 0, none⟩ = some (.string a) := fun s => (E0.under s.h E0.size).cell 0
      have K1 : ∀ s : Later W1.heap.size W1, s.w.cell? ⟨W.heap.size, 1, none⟩ = some (.bool pc) := fun s => (E0.under s.h E0.size).cell 1
      have K2 : ∀ s : Later W1.heap.size W1, s.w.cell? ⟨W.heap.size, 2, none⟩ = some (.bool mn) := fun s => (E0.under s.h E0.size).cell 2
      have K3 : ∀ s : Later W1.heap.size W1, s.w.cell? ⟨W.heap.size + 1, 3, none⟩ = some (.int .i64 n) := fun s => (E1.under s.h E1.size).cell 3
      have HS := Lib.hid HBW.out.size
      clear E0 E1 hW1
      refine region_lane [1, 2] [0, 3, 4, 5] [6] (by kernel_rfl) (by kernel_rfl) (fun _ _ _ _ _ h => h) ?_
      simp only [pick, List.map_cons, List.map_nil, List.getD_cons_zero, List.getD_cons_succ, List.drop_succ_cons, List.drop_zero]
      repeat (go_big_quiet_step (fail))
      refine wpQuiet_nil ?_
      refine ⟨rfl, ?_⟩
      refine laneO_run 2 (by kernel_rfl) ?_
      simp only [List.take_succ_cons, List.take_zero, List.drop_succ_cons, List.drop_zero]
      repeat (go_big_quiet_step (fail))
      refine wpQuiet_nil ?_
      refine laneO_call (v := .int .i64 6400000) (by kernel_rfl) (by rfl) (fun C hC h0 => ?_) ?_
      focus (go_big_quiet_op; exact ⟨_, fun w hw => (pxm_any w).mono fun e w' ⟨he, hb⟩ => ⟨he, hb ▸ hw⟩, rfl⟩)
      simp only [Act.put, List.setIfInBounds_toArray, List.set_cons_zero, List.set_cons_succ]
      refine laneO_call (v := .bool (holdsB mn n 6400000)) (by kernel_rfl) (by rfl) (fun C hC h0 => ?_) ?_
      focus (go_big_quiet_op; exact ⟨_, fun w hw => (holds_any a pc mn n 6400000 (by omega) (by omega) w).mono fun e w' ⟨he, hb⟩ => ⟨he, hC _ _ hw hb⟩, rfl⟩)
      simp only [Act.put, List.setIfInBounds_toArray, List.set_cons_zero, List.set_cons_succ]
      refine laneO_end0 rfl rfl fun w2 hb0 => ?_
      have hb2 : Below W1.heap.size W1 w2 := hb0
      have HB2 := Lib.hid (HBW.out.trans (hb2.mono HS.out))
      clear hb0 hb2 K0 K1 K2 K3
      go_wp2
      go_ret
      exact ⟨ret_bool HR.out.symm, HB2.out⟩
    · have hr : lenB em pc mn 0 2 n = (pc && holdsB mn n 999999) := by unfold lenB; cases pc <;> simp
      have HR := Lib.hid hr
      clear hr ha
      cases pc with
      | false =>
        go_enter Tryz.func139, Tryz.ntmps139
        go_wp2
        go_ret
        exact ⟨ret_bool HR.out.symm, HBW.out⟩
      | true =>
        go_enter Tryz.func139, Tryz.ntmps139
        go_wp2_with (go_at_call 140; refine (holds_any a true mn n 999999 (by omega) (by omega) _).mono ?_; rintro e w1 ⟨rfl, b⟩; have B := Lib.hid b; clear b)
        go_ret
        exact ⟨ret_bool HR.out.symm, HBW.out.trans (B.out.mono HBW.out.size)⟩
    · have hr : lenB em pc mn 0 k n = false := by unfold lenB; simp [k0, k1, k2]
      have HR := Lib.hid hr
      clear hr ha
      go_enter Tryz.func139, Tryz.ntmps139
      go_wp2
      go_ret
      exact ⟨ret_bool HR.out.symm, HBW.out⟩
  · have hr : lenB em pc mn w k n = false := by unfold lenB; simp [hw]
    have HR := Lib.hid hr
    clear hr ha
    go_enter Tryz.func139, Tryz.ntmps139
    go_wp2
    go_ret
    exact ⟨ret_bool HR.out.symm, HBW.out⟩
end Go.Proofs.YtbhdpfacfgldiaaGreatDoor
/- The forms' has, as mayZ. -/
namespace Go.Proofs.YtbhdpfacfgldiaaGreatDoor
open Go Go.RowKit
set_option linter.unusedVariables false
set_option linter.unusedSimpArgs false
set_option maxRecDepth 20000
set_option maxHeartbeats 4000000

def emB (p : Int) : Bool := decide ((12 ≤ p ∧ p ≤ 19) ∨ p = 31 ∨ p = 4 ∨ p = 5)
theorem autoS_ways (p : Int) : (autoS p = ⟨#[]⟩ ∧ emB p = true) ∨ (autoS p = ⟨#[110, 111, 110, 101]⟩ ∧ emB p = false) ∨ (autoS p = ⟨#[97, 117, 116, 111]⟩ ∧ emB p = false) := by
  unfold autoS emB
  by_cases h : (12 ≤ p ∧ p ≤ 19) ∨ p = 31 ∨ p = 4 ∨ p = 5
  · exact .inl ⟨if_pos h, decide_eq_true h⟩
  · rw [if_neg h, decide_eq_false h]
    by_cases h6 : p = 6 ∨ p = 7
    · exact .inr (.inl ⟨if_pos h6, rfl⟩)
    · exact .inr (.inr ⟨if_neg h6, rfl⟩)
theorem may_lenB (p w k n : Int) (h : lenP p) : lenB (emB p) (pctF p) (minF p) w k n = mayZ p w k n := by
  unfold lenP at h
  rcases (show (((12 ≤ p ∧ p ≤ 19) ∨ p = 31) ∨ (8 ≤ p ∧ p ≤ 11) ∨ (p = 4 ∨ p = 5) ∨ (p = 2 ∨ p = 3 ∨ p = 6 ∨ p = 7 ∨ p = 22)) by omega) with h1 | h1 | h1 | h1
  · rw [may_px h1, Bool.eq_iff_iff]
    unfold lenB emB pctF minF holdsB pxB
    simp only [Bool.and_eq_true, decide_eq_true_iff, Bool.not_eq_true', decide_eq_false_iff_not]
    omega
  · rw [may_margin h1, Bool.eq_iff_iff]
    unfold lenB emB pctF minF holdsB pxB pctB autoB
    simp only [Bool.and_eq_true, Bool.or_eq_true, decide_eq_true_iff, Bool.not_eq_true', decide_eq_false_iff_not]
    omega
  · rw [may_min h1, Bool.eq_iff_iff]
    unfold lenB emB pctF minF holdsB pxB pctB
    simp only [Bool.and_eq_true, Bool.or_eq_true, decide_eq_true_iff, Bool.not_eq_true', decide_eq_false_iff_not]
    omega
  · rw [may_rest h1, Bool.eq_iff_iff]
    unfold lenB emB pctF minF holdsB pxB pctB autoB
    simp only [Bool.and_eq_true, Bool.or_eq_true, decide_eq_true_iff, Bool.not_eq_true', decide_eq_false_iff_not]
    omega
theorem wordsHas_val (A : Option Addr) (p w k n : Int) (h : p = 1 ∨ p = 20 ∨ p = 21 ∨ p = 26 ∨ p = 27 ∨ p = 28 ∨ p = 29 ∨ p = 30 ∨ p = 32) (b : Bool) (hb : mayZ p w k n = b) (W : World) : Calls Tryz.prog 119 #[.slice A (wordsS p).length (wordsS p).length, .agg #[.int .i64 p, .int .i64 w, .int .i64 k, .int .i64 n]] W fun e w' => e = .returned (.bool b) ∧ Below W.heap.size W w' := by
  have hw := wordsN_pos h
  rw [← wordsS_length] at hw
  have := wordsHas_any A (wordsS p).length p w k n (by omega) W
  have e : wordsB (wordsS p).length w k n = b := by rw [← hb, may_words h, ← wordsS_length]; rfl
  rwa [e] at this
theorem wholeHas_val (p w k n : Int) (h : p = 23 ∨ p = 24) (b : Bool) (hb : mayZ p w k n = b) (W : World) : Calls Tryz.prog 122 #[.agg #[.int .i64 0, .int .i64 100], .agg #[.int .i64 p, .int .i64 w, .int .i64 k, .int .i64 n]] W fun e w' => e = .returned (.bool b) ∧ Below W.heap.size W w' := by
  have := wholeHas_any 0 100 p w k n W
  have e : wholeB 0 100 w k n = b := by rw [← hb, may_whole h]; rfl
  rwa [e] at this
theorem orderHas_val (w k n : Int) (b : Bool) (hb : mayZ 25 w k n = b) (W : World) : Calls Tryz.prog 122 #[.agg #[.int .i64 (-1000), .int .i64 1000], .agg #[.int .i64 25, .int .i64 w, .int .i64 k, .int .i64 n]] W fun e w' => e = .returned (.bool b) ∧ Below W.heap.size W w' := by
  have := wholeHas_any (-1000) 1000 25 w k n W
  have e : wholeB (-1000) 1000 w k n = b := by rw [← hb, may_order rfl]; rfl
  rwa [e] at this
theorem lenHas_val (p w k n : Int) (h : lenP p) (b : Bool) (hb : mayZ p w k n = b) (W : World) : Calls Tryz.prog 139 #[.agg #[.string (autoS p), .bool (pctF p), .bool (minF p)], .agg #[.int .i64 p, .int .i64 w, .int .i64 k, .int .i64 n]] W fun e w' => e = .returned (.bool b) ∧ Below W.heap.size W w' := by
  have := lengthHas_any (autoS p) (emB p) (autoS_ways p) (pctF p) (minF p) p w k n W
  rw [may_lenB p w k n h, hb] at this
  exact this
theorem mayp_range {p w k n : Int} (h : mayZ p w k n = true) : 1 ≤ p ∧ p ≤ 32 := by
  refine Classical.byContradiction fun hc => ?_
  rw [may_out (by omega)] at h
  cases h
end Go.Proofs.YtbhdpfacfgldiaaGreatDoor
/- The document's answer: lengths and whole numbers in a text. -/
namespace Go.Proofs.YtbhdpfacfgldiaaGreatDoor
open Go Go.RowKit
set_option linter.unusedVariables false
set_option linter.unusedSimpArgs false
set_option maxRecDepth 20000
set_option maxHeartbeats 4000000

section
variable (s : ByteArray) (ah bh : Nat) (hah : ah ≤ 5) (hbh : bh ≤ 3) (w : World) (hs : s.size ≤ 4611686018427387904)
include hah hbh hs
theorem rnumber_none (h : numZ (bytesOf s) ah bh = none) : Calls Tryz.prog 80 #[.string s, .int .i64 ah, .int .i64 bh] w fun e w' => e = .returned (.tuple #[.int .i64 0, .string ⟨#[]⟩, .bool false]) ∧ ∃ q, w' = w.drewN q := by
  have := rnumber_any s ah bh hah hbh w hs
  rw [h] at this
  exact this
theorem rnumber_some (v : Int) (r : Nat) (h : numZ (bytesOf s) ah bh = some (v, r)) : Calls Tryz.prog 80 #[.string s, .int .i64 ah, .int .i64 bh] w fun e w' => e = .returned (.tuple #[.int .i64 v, .string (s.extract r s.size), .bool true]) ∧ ∃ q, w' = w.drewN q := by
  have := rnumber_any s ah bh hah hbh w hs
  rw [h] at this
  exact this
end
def PixPost (r : Option Int) (W : World) (e : Ending) (w' : World) : Prop := ∃ (z : Int) (b : Bool), e = .returned (.tuple #[.int .i64 z, .bool b]) ∧ (-9223372036854775808 ≤ z ∧ z ≤ 9223372036854775807) ∧ r = (if b = true then some z else none) ∧ ∃ q, w' = W.drewN q
theorem px_in (v : Int) : -9223372036854775808 ≤ pxZ v ∧ pxZ v ≤ 9223372036854775807 := by have := hold_bd (nearZ (64 * max (-1000000000000) (min v 1000000000000)) 1000); unfold pxZ; omega
theorem rpixels_any (s : ByteArray) (w : World) (hs : s.size ≤ 4611686018427387904) : Calls Tryz.prog 74 #[.string s] w fun e w' => PixPost (pixR (bytesOf s)) w e w' := by
  by_cases h0 : bytesOf s = [48]
  · have H := Lib.hid (show pixR (bytesOf s) = some 0 by unfold pixR; rw [if_pos h0])
    have hb : (s.toList == [48]) = true := by rw [eq_bytes, h0]; rfl
    clear h0
    go_enter Tryz.func74, Tryz.ntmps74
    go_wp2
    go_ret2
    exact ⟨0, true, rfl, by omega, H.out, 0, rfl⟩
  · have hb : (s.toList == [48]) = false := by rw [eq_bytes, beq_eq_false_iff_ne]; exact h0
    cases hz : numZ (bytesOf s) 5 3 with
    | none =>
      have H := Lib.hid (show pixR (bytesOf s) = none by unfold pixR; rw [if_neg h0, hz])
      have HC := Lib.hid (rnumber_none s 5 3 (by omega) (by omega) w hs hz)
      clear h0 hz
      go_enter Tryz.func74, Tryz.ntmps74
      go_wp2_with (first
        | (go_at_call 80; refine HC.out.mono ?_; rintro e w1 ⟨rfl, q, rfl⟩)
        | (go_at_call 81; refine (rpx_any _ _).mono ?_; rintro e w2 ⟨rfl, rfl⟩))
      go_ret2
      exact ⟨_, false, rfl, px_in _, H.out, _, rfl⟩
    | some vr =>
      obtain ⟨v, r⟩ := vr
      have HC := Lib.hid (rnumber_some s 5 3 (by omega) (by omega) w hs v r hz)
      cases hr : restIs (bytesOf s) r [112, 120] with
      | true =>
        have H := Lib.hid (show pixR (bytesOf s) = some (pxZ v) by unfold pixR; rw [if_neg h0, hz]; simp only [hr]; rfl)
        have hb2 : ((s.extract r s.size).toList == [112, 120]) = true := (rest_bytes s r _).trans hr
        clear h0 hz hr
        go_enter Tryz.func74, Tryz.ntmps74
        go_wp2_with (first
          | (go_at_call 80; refine HC.out.mono ?_; rintro e w1 ⟨rfl, q, rfl⟩)
          | (go_at_call 81; refine (rpx_any _ _).mono ?_; rintro e w2 ⟨rfl, rfl⟩))
        go_ret2
        exact ⟨_, true, rfl, px_in _, H.out, _, rfl⟩
      | false =>
        have H := Lib.hid (show pixR (bytesOf s) = none by unfold pixR; rw [if_neg h0, hz]; simp only [hr]; rfl)
        have hb2 : ((s.extract r s.size).toList == [112, 120]) = false := (rest_bytes s r _).trans hr
        clear h0 hz hr
        go_enter Tryz.func74, Tryz.ntmps74
        go_wp2_with (first
          | (go_at_call 80; refine HC.out.mono ?_; rintro e w1 ⟨rfl, q, rfl⟩)
          | (go_at_call 81; refine (rpx_any _ _).mono ?_; rintro e w2 ⟨rfl, rfl⟩))
        go_ret2
        exact ⟨_, false, rfl, px_in _, H.out, _, rfl⟩
theorem rest_nil (s : ByteArray) (r : Nat) : (s.extract r s.size).toList = [] ↔ restIs (bytesOf s) r [] = true := by
  rw [← rest_bytes, beq_iff_eq]
theorem rwhole_any (s : ByteArray) (lo hi : Int) (w : World) (hs : s.size ≤ 4611686018427387904) : Calls Tryz.prog 73 #[.string s, .int .i64 lo, .int .i64 hi] w fun e w' => PixPost (wholeR (bytesOf s) lo hi) w e w' := by
  cases hz : numZ (bytesOf s) 4 0 with
  | none =>
    have H := Lib.hid (show wholeR (bytesOf s) lo hi = none by unfold wholeR; rw [hz])
    have HC := Lib.hid (rnumber_none s 4 0 (by omega) (by omega) w hs hz)
    clear hz
    go_enter Tryz.func73, Tryz.ntmps73
    go_wp2_with (go_at_call 80; refine HC.out.mono ?_; rintro e w1 ⟨rfl, q, rfl⟩)
    go_ret2
    exact ⟨0, false, rfl, by omega, H.out, _, rfl⟩
  | some vr =>
    obtain ⟨v, r⟩ := vr
    have hbd := numZ_bd (by omega) (by omega) hz
    have HC := Lib.hid (rnumber_some s 4 0 (by omega) (by omega) w hs v r hz)
    by_cases hc : restIs (bytesOf s) r [] = true ∧ lo ≤ v ∧ v ≤ hi
    · have H := Lib.hid (show wholeR (bytesOf s) lo hi = some v by unfold wholeR; rw [hz]; exact if_pos hc)
      obtain ⟨h1, h2, h3⟩ := hc
      have hE := (rest_nil s r).2 h1
      clear hz h1
      go_enter Tryz.func73, Tryz.ntmps73
      go_wp2_with (go_at_call 80; refine HC.out.mono ?_; rintro e w1 ⟨rfl, q, rfl⟩)
      go_ret2
      exact ⟨v, true, rfl, by omega, H.out, _, rfl⟩
    · have H := Lib.hid (show wholeR (bytesOf s) lo hi = none by unfold wholeR; rw [hz]; exact if_neg hc)
      rcases (show ¬ restIs (bytesOf s) r [] = true ∨ (restIs (bytesOf s) r [] = true ∧ v < lo) ∨ (restIs (bytesOf s) r [] = true ∧ lo ≤ v ∧ hi < v) by
        by_cases h1 : restIs (bytesOf s) r [] = true
        · by_cases h2 : lo ≤ v
          · exact .inr (.inr ⟨h1, h2, by have : ¬ v ≤ hi := fun h3 => hc ⟨h1, h2, h3⟩; omega⟩)
          · exact .inr (.inl ⟨h1, by omega⟩)
        · exact .inl h1) with h1 | ⟨h1, h2⟩ | ⟨h1, h2, h3⟩
      · have hE : ¬ (s.extract r s.size).toList = [] := fun h => h1 ((rest_nil s r).1 h)
        clear hz h1 hc
        go_enter Tryz.func73, Tryz.ntmps73
        go_wp2_with (go_at_call 80; refine HC.out.mono ?_; rintro e w1 ⟨rfl, q, rfl⟩)
        go_ret2
        exact ⟨0, false, rfl, by omega, H.out, _, rfl⟩
      · have hE := (rest_nil s r).2 h1
        clear hz h1 hc
        go_enter Tryz.func73, Tryz.ntmps73
        go_wp2_with (go_at_call 80; refine HC.out.mono ?_; rintro e w1 ⟨rfl, q, rfl⟩)
        go_ret2
        exact ⟨0, false, rfl, by omega, H.out, _, rfl⟩
      · have hE := (rest_nil s r).2 h1
        clear hz h1 hc
        go_enter Tryz.func73, Tryz.ntmps73
        go_wp2_with (go_at_call 80; refine HC.out.mono ?_; rintro e w1 ⟨rfl, q, rfl⟩)
        go_ret2
        exact ⟨0, false, rfl, by omega, H.out, _, rfl⟩
def LenPostR (r : Option (Int × Int)) (W : World) (e : Ending) (w' : World) : Prop := ∃ (k z : Int) (b : Bool), e = .returned (.tuple #[.agg #[.int .i64 k, .int .i64 z], .bool b]) ∧ (-9223372036854775808 ≤ z ∧ z ≤ 9223372036854775807) ∧ (0 ≤ k ∧ k ≤ 2) ∧ r = (if b = true then some (k, z) else none) ∧ Below W.heap.size W w'
theorem below_drewN (W : World) (o : Obj) (q : Nat) : Below W.heap.size W ((W.alloc o).drewN q) := Below.drewN' ((Below.refl _ W).alloc (Nat.le_refl _) o) q
theorem rlength_any (s : ByteArray) (w : World) (hs : s.size ≤ 4611686018427387904) : Calls Tryz.prog 75 #[.string s] w fun e w' => LenPostR (lenR (bytesOf s)) w e w' := by
  go_enter Tryz.func75, Tryz.ntmps75
  go_wp2_with fail
  refine (rpixels_any s _ hs).mono ?_
  rintro e w1 ⟨z, b, rfl, hb, hr, q, rfl⟩
  cases b with
  | true =>
    have H := Lib.hid (show lenR (bytesOf s) = some (1, z) by unfold lenR; rw [hr]; rfl)
    clear hr
    go_wp2
    exact bodyPost_ret (v := .tuple #[.agg #[.int .i64 1, .int .i64 z], .bool true]) (by simp [results, Tryz.results75, go_sem]) rfl ⟨1, z, true, rfl, hb, by omega, H.out, ((below_drewN w _ _).setCell (Nat.le_refl _) _).setCell (Nat.le_refl _) _⟩
  | false =>
    cases hz : numZ (bytesOf s) 4 2 with
    | none =>
      have H := Lib.hid (show lenR (bytesOf s) = none by unfold lenR pctR; rw [hr, hz]; rfl)
      clear hr
      go_wp2_with fail
      refine (rnumber_none s 4 2 (by omega) (by omega) _ hs hz).mono ?_
      rintro e w1 ⟨rfl, q2, rfl⟩
      clear hz
      go_wp2
      exact bodyPost_ret (v := .tuple #[.agg #[.int .i64 0, .int .i64 0], .bool false]) (by simp [results, Tryz.results75, go_sem]) rfl ⟨0, 0, false, rfl, by omega, by omega, H.out, ((below_drewN w _ _).setCell (Nat.le_refl _) _).setCell (Nat.le_refl _) _⟩
    | some vr =>
      obtain ⟨v, r⟩ := vr
      have hbd := numZ_bd (by omega) (by omega) hz
      cases hc : restIs (bytesOf s) r [37] with
      | true =>
        have H := Lib.hid (show lenR (bytesOf s) = some (2, v) by unfold lenR pctR; rw [hr, hz]; simp only [hc]; rfl)
        have hb2 : ((s.extract r s.size).toList == [37]) = true := (rest_bytes s r _).trans hc
        clear hr hc
        go_wp2_with fail
        refine (rnumber_some s 4 2 (by omega) (by omega) _ hs v r hz).mono ?_
        rintro e w1 ⟨rfl, q2, rfl⟩
        clear hz
        go_wp2
        exact bodyPost_ret (v := .tuple #[.agg #[.int .i64 2, .int .i64 v], .bool true]) (by simp [results, Tryz.results75, go_sem]) rfl ⟨2, v, true, rfl, by omega, by omega, H.out, ((below_drewN w _ _).setCell (Nat.le_refl _) _).setCell (Nat.le_refl _) _⟩
      | false =>
        have H := Lib.hid (show lenR (bytesOf s) = none by unfold lenR pctR; rw [hr, hz]; simp only [hc]; rfl)
        have hb2 : ((s.extract r s.size).toList == [37]) = false := (rest_bytes s r _).trans hc
        clear hr hc
        go_wp2_with fail
        refine (rnumber_some s 4 2 (by omega) (by omega) _ hs v r hz).mono ?_
        rintro e w1 ⟨rfl, q2, rfl⟩
        clear hz
        go_wp2
        exact bodyPost_ret (v := .tuple #[.agg #[.int .i64 0, .int .i64 0], .bool false]) (by simp [results, Tryz.results75, go_sem]) rfl ⟨0, 0, false, rfl, by omega, by omega, H.out, ((below_drewN w _ _).setCell (Nat.le_refl _) _).setCell (Nat.le_refl _) _⟩
end Go.Proofs.YtbhdpfacfgldiaaGreatDoor
