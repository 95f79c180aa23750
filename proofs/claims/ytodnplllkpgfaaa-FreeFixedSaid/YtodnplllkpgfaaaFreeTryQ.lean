import Derived.Test.YtodnplllkpgfaaaFreeLeftQ
import Derived.Test.YtodnplllkpgfaaaShareQ
import Derived.Test.YtodnplllkpgfaaaZQ
/- free's line: what those that are open would come to. -/
namespace Go.Proofs.Ytodnplllkpgfaaa
open Go Go.RowKit
set_option linter.unusedVariables false
set_option linter.unusedSimpArgs false
set_option maxRecDepth 20000
set_option maxHeartbeats 4000000

theorem sized_info : (Try.prog.info? 58).map (fun i => (i.zero, i.size, i.bytes)) = some (some (.agg #[.int .i64 0, .int .i64 0]), 2, 16) := by kernel_rfl
def tryZ : It × Int := (⟨⟨0, 0, 0, 0, 0, 0⟩, 0, false⟩, 0)
theorem made_tries (m : Nat) : (madeCells (Value.agg #[.int .i64 0, .int .i64 0]).cells (m * 2)).toList = (List.replicate m tryZ).flatMap tryV := by
  have h1 : (madeCells (Value.agg #[.int .i64 0, .int .i64 0]).cells (m * 2)).toList = List.replicate (m * 2) (.int .i64 0) := by
    have e : (Value.agg #[.int .i64 0, .int .i64 0]).cells = #[.int .i64 0, .int .i64 0] := rfl
    rw [e]
    apply List.ext_getElem?
    intro j
    by_cases hj : j < m * 2
    · have h2 : j % 2 = 0 ∨ j % 2 = 1 := by omega
      rcases h2 with h2 | h2 <;> simp [madeCells, hj, h2]
    · simp [madeCells, hj]
  rw [h1]
  clear h1
  induction m with
  | zero => rfl
  | succ m ih =>
    rw [List.replicate_succ, List.flatMap_cons, ← ih, show (m + 1) * 2 = m * 2 + 1 + 1 by omega, List.replicate_succ, List.replicate_succ]
    rfl
theorem two_set {α : Type} {f : α → List Value} (hf : ∀ x, (f x).length = 2) {a b : Value} {x : α} (hx : f x = [a, b]) : ∀ (l : List α) (i : Nat) (h : i < l.length), ((l.flatMap f).set (i * 2) a).set (i * 2 + 1) b = (l.set i x).flatMap f
  | y :: l, 0, h => by
    obtain ⟨p, q, e⟩ : ∃ p q, f y = [p, q] := by
      have := hf y
      match hfy : f y, this with
      | [p, q], _ => exact ⟨p, q, rfl⟩
    simp [e, hx]
  | y :: l, i + 1, h => by
    have e1 : (i + 1) * 2 = (f y).length + i * 2 := by rw [hf]; omega
    have e2 : (i + 1) * 2 + 1 = (f y).length + (i * 2 + 1) := by rw [hf]; omega
    rw [List.flatMap_cons, e1, show (f y).length + i * 2 + 1 = (f y).length + (i * 2 + 1) by omega, List.set_append_right _ _ (by omega), List.set_append_right _ _ (by omega)]
    simp only [Nat.add_sub_cancel_left]
    rw [two_set hf hx l i (by simpa using h)]
    rfl
theorem tryV_two : ∀ p, (tryV p).length = 2 := fun _ => rfl
theorem flatTwo_get {α : Type} {f : α → List Value} (hf : ∀ x, (f x).length = 2) : ∀ (l : List α) (i : Nat) (h : i < l.length) (j : Nat), j < 2 → (l.flatMap f)[i * 2 + j]? = (f l[i])[j]?
  | y :: l, 0, h, j, hj => by
    rw [List.flatMap_cons, List.getElem?_append_left (by rw [hf]; omega)]; simp
  | y :: l, i + 1, h, j, hj => by
    rw [List.flatMap_cons, List.getElem?_append_right (by rw [hf]; omega), hf, show (i + 1) * 2 + j - 2 = i * 2 + j by omega, flatTwo_get hf l i (by simpa using h) j hj]; simp
theorem tried_any {W w : World} {gp gz n : Nat} {A : Option Addr} {c : Nat} {inner : Int} {gr : Bool} {st : List It} (h : LnSt W w gp gz n A c inner gr st) (hr : RI gr inner st) (hn : st.length = n) (hR : Row W W.heap.size A ((st.map It.x).flatMap fxC))
    (P : List Int) (q : List (It × Int)) (hP : shareZ (leftI gr inner st) (wtsI gr st) = P) (hq : putI st P = q) :
    Calls Try.prog 26 #[.pointer (some ⟨gp, 0, none⟩)] w fun e w' => ∃ g, e = .returned (.tuple #[.slice (some ⟨g, 0, none⟩) (openI st) (openI st), .int .i64 (overI q)]) ∧
      w'.ownsRow w.heap.size 58 2 (.slice (some ⟨g, 0, none⟩) (openI st) (openI st)) (openI st) ((tryL q).flatMap tryV) ∧ Below w.heap.size w w' := by
  have HLE := Lib.hid (left_any h hr hn)
  have HWE := Lib.hid (weights_any h hr hn hR)
  have HS := Lib.hid h
  have hl5 := hr.len
  have hob := open_le st
  have hpl := hr.parts_len
  have hwl := wtsI_len gr st
  have OV := Lib.hid hr.over_bd
  have PB := Lib.hid hr.part_bd
  rw [hP] at OV PB hpl
  rw [hq] at OV
  have HP := Lib.hid hP
  have HQ := Lib.hid hq
  have HN := Lib.hid hn
  have HRI := Lib.hid hr
  have HR := Lib.hid hR
  obtain ⟨mo, hmo⟩ : ∃ m, openI st = m := ⟨_, rfl⟩
  have HMO := Lib.hid hmo
  rw [hmo] at hpl hwl hob ⊢
  rw [hn] at hl5 hob
  have hm5 : mo ≤ 500 := by omega
  have HPL := Lib.hid hpl
  have HWL := Lib.hid hwl
  have HPC := Lib.hid (show (plcI 0 st).length = mo by rw [plcI_len, hmo])
  have SHR := Lib.hid (fun (w : World) (A1 : Option Addr) (c1 : Nat) (hr : Row w w.heap.size A1 (i64s (wtsI gr st))) => (share_any (leftI gr inner st) A1 c1 (wtsI gr st) w _ (Nat.le_refl _) hr (by omega)))
  rw [hwl, hP, hpl] at SHR
  rw [hwl] at HWE
  clear h hr hn hR hP hq hmo hpl hwl hob
  obtain ⟨i0, hi, hz0, hz1, hz2⟩ := info_parts sized_info
  go_enter Try.func26, Try.ntmps26
  go_wp2_with fail
  refine HLE.out.mono ?_
  rintro e w' ⟨rfl, rfl⟩
  go_wp2_with fail
  refine HWE.out.mono ?_
  rintro e w1 ⟨rfl, o1, hb1⟩
  have O1 := Lib.hid o1
  have B1 := Lib.hid hb1
  clear o1 hb1 HLE HWE
  go_wp2_with fail
  refine (SHR.out w1 _ _ (row_of_own O1.out)).mono ?_
  rintro e w2 ⟨A2, c2, rfl, r2, hb2⟩
  have R2 := Lib.hid r2
  have B2 := Lib.hid (B1.out.trans (hb2.mono B1.out.size))
  have L2 := Lib.hid (HS.out.behind B2.out)
  clear r2 hb2 SHR O1 B1
  obtain ⟨Ao, co, L⟩ := L2.out
  have L := Lib.hid L
  clear L2
  rw [HPC.out] at L
  have k3 := L.out.cell.cell 3
  simp only [List.getElem?_cons_zero, List.getElem?_cons_succ] at k3
  go_upto_region 3 with (at_make; refine wpList_make_full _ rfl _ _ 53 rfl w2.heap.size 58 i0 (.agg #[.int .i64 0, .int .i64 0]) 2 Try.underlying53 hi hz0 hz1 .i64 .i64 _ _ mo rfl rfl rfl rfl (by rw [hz2]; omega) (by unfold maxLen; omega) (Nat.le_refl _) ?_; intro w3 r3 r4; have O3 := Lib.hid r3; have G3 := Lib.hid (Only.of_grown r4); clear r3 r4)
  clear hi hz0 hz1 hz2
  have B3 := Lib.hid (G3.out.below (B := w2.heap.size) (by simp) (Nat.le_refl _))
  obtain ⟨g, hg⟩ : ∃ g, w2.heap.size = g := ⟨_, rfl⟩
  have hql : q.length = n := by rw [← HQ.out, putI_len]; exact HN.out
  have htl : (tryL q).length = mo := by rw [← HQ.out, tryL_len]; exact HMO.out
  have HQL := Lib.hid hql
  have HTL := Lib.hid htl
  have O4 : Hid (w3.ownsRow w2.heap.size 58 2 (.slice (some ⟨g, 0, none⟩) mo mo) mo ((mixL (tryL q) (List.replicate mo tryZ) 0).flatMap tryV)) := Lib.hid (by
    rw [mixL_zero, ← made_tries, ← hg]
    exact O3.out)
  have L3 := Lib.hid (L.out.behind B3.out)
  rw [hg]
  have HG := Lib.hid hg
  have k3 := L3.out.cell.cell 3
  simp only [List.getElem?_cons_zero, List.getElem?_cons_succ] at k3
  clear O3 G3 hg hql htl L3
  go_wp2_with fail
  go_loopw [6, 28] (fun v6 v28 wr => ∃ m k : Nat, v6 = .int .i64 (overI (q.take k)) ∧ v28 = .int .i64 m ∧ m ≤ mo ∧ k ≤ n ∧ Hid (openI (st.take k) = m) ∧ Hid (wr.ownsRow w2.heap.size 58 2 (.slice (some ⟨g, 0, none⟩) mo mo) mo ((mixL (tryL q) (List.replicate mo tryZ) m).flatMap tryV)) ∧ Hid (Below w2.heap.size w2 wr)) (fun _ v28 _ => mo - (intOf v28).toNat)
  case atStart => exact ⟨0, 0, rfl, rfl, Nat.zero_le _, Nat.zero_le _, Lib.hid rfl, O4, B3⟩
  case round =>
    clear O4 B3 k3
    obtain ⟨m, k, rfl, rfl, hm, hk, HK, O4, B3⟩ := hrel
    have SK := Lib.hid (fun a b h1 h2 h3 => skip_eq (F := fun k => overI (q.take k)) (l := st) (fun j hj hf => (give_frozen HQ.out HN.out (by rw [← HN.out]; exact hj) hf (.int .i64 0) rfl).2.2.1) (a := a) (b := b) h1 h2 h3)
    by_cases hlt : m < mo
    · have hltz : (m : Int) < mo := by omega
      have hmp : m < (plcI 0 st).length := by rw [HPC.out]; exact hlt
      have hmP : m < P.length := by rw [HPL.out]; exact hlt
      have L3 := Lib.hid (L.out.behind B3.out)
      have k0 := L3.out.cell.cell 0
      simp only [List.getElem?_cons_zero, List.getElem?_cons_succ] at k0
      obtain ⟨i, his, hpi, hfi, hoi⟩ := plcI_get st 0 m hmp
      have LP := L3.out
      rw [← HPC.out] at LP
      obtain ⟨ap, rfl, hapb, cp⟩ := LP.plc hmp
      clear LP
      have hin : i < n := by rw [← HN.out]; exact his
      have hinz : (i : Int) < n := by omega
      have hiq : i < q.length := by rw [HQL.out]; exact hin
      have hii : i < (st.map It.x).length := by simpa using his
      obtain ⟨ad, rfl, hb, X⟩ := Row.fxAt (HR.out.below L3.out.low) hii
      rw [hpi, Nat.zero_add] at cp
      rw [List.getElem_map] at X
      have hki : k ≤ i := open_at his hfi (by rw [HK.out, hoi])
      have ek : overI (q.take k) = overI (q.take i) := (SK.out k i hki (by omega) (by rw [HK.out, hoi])).symm
      rw [ek]
      obtain ⟨a2, rfl, hb2, cq⟩ := (R2.out.below B3.out).int hmP
      have hx := HRI.out.ok _ (List.getElem_mem his)
      have ov1 := OV.out i
      have ov2 := OV.out (i + 1)
      have pb := PB.out m
      have gd0 : P.getD m 0 = P[m] := by rw [List.getD_eq_getElem?_getD, List.getElem?_eq_getElem hmP, Option.getD_some]
      rw [gd0] at pb
      have tq := try_at HQ.out his hiq hfi
      rw [hoi] at tq
      have qe : q[i] = (⟨st[i].x, clF st[i].x (st[i].x.base + P[m]), false⟩, st[i].x.base + P[m]) := by
        have h1 := give_open HQ.out HN.out hin his hfi (.int .i64 0) _ rfl
        have h2 : (putI st P)[i]'(by rw [HQ.out]; exact hiq) = q[i] := by simp only [HQ.out]
        rw [← h2, put_open his hfi, hoi, gd0]
      have ot := overI_take q i hiq
      rw [qe] at tq ot
      obtain ⟨z, hz⟩ : ∃ z, P[m] = z := ⟨_, rfl⟩
      rw [hz] at pb cq tq ot
      obtain ⟨x, hxe⟩ : ∃ x, st[i].x = x := ⟨_, rfl⟩
      rw [hxe] at X hx tq ot
      simp only at ot
      rw [ot] at ov2
      have hon : openI (st.take (i + 1)) = m + 1 := by rw [openI_take st i his, if_neg (by rw [hfi]; simp), hoi]
      have OT := Lib.hid ot
      have TQ := Lib.hid tq
      have HON := Lib.hid hon
      obtain ⟨o, ho⟩ : ∃ o, overI (q.take i) = o := ⟨_, rfl⟩
      rw [ho] at ov1 ov2 OT ⊢
      have x0 := hx.b0
      have x1 := hx.b1
      have pw : -9223372036854775808 ≤ x.base + z ∧ x.base + z ≤ 9223372036854775807 := by omega
      have CB := clF_bd hx (x.base + z) (by omega)
      have hml : (tryL q).length = (List.replicate mo tryZ).length := by rw [HTL.out, List.length_replicate]
      have hmr : m < (List.replicate mo tryZ).length := by simpa using hlt
      have hmx : m < (mixL (tryL q) (List.replicate mo tryZ) m).length := by rw [mixL_len hml (by omega)]; exact hmr
      have CL := Lib.hid (fun (n : Int) (w : World) (h : FxAt w (ad.add (i * 6)) x) => fclamp_any (ad.add (i * 6)) x n w h hx.m0)
      have HX := Lib.hid X
      have hmPz : (m : Int) < P.length := by omega
      have hmz : (m : Int) < mo := hltz
      obtain ⟨c0, c1, c2, c3, c4, c5⟩ := X
      have hbl : (ad.add (i * 6)).block < wr.heap.size := by have := L3.out.low.size; rw [add_block]; omega
      clear hxe hz ho ot tq hon pb gd0 qe ek hpi hoi hfi hx L3 c1 c2 c3 c4 c5 SK
      go_upto_region 8 with fail
      go_quiet (fail)
      have O5 := Lib.hid (own_below O4.out (Below.drewN' (Below.refl wr.heap.size wr) nq) (Nat.le_refl _))
      have B5 := Lib.hid (Below.drewN' B3.out nq)
      have X5 := Lib.hid (HX.out.below (Below.drewN' (Below.refl wr.heap.size wr) nq) hbl)
      clear O4 B3 HX c0 cp cq k0 hapb hb2 hb hbl
      generalize wr.drewN nq = w4 at *
      have O4 := O5
      have B3 := B5
      clear O5 B5
      have o4l := O4.out.1
      have cm0 : ∃ u, w4.cell? ⟨g, m * 2, none⟩ = some u := by
        rw [O4.out.cellAt _ (by omega), List.getElem?_eq_getElem (by rw [o4l]; omega)]; exact ⟨_, rfl⟩
      have cm1 : ∃ u, w4.cell? ⟨g, m * 2 + 1, none⟩ = some u := by
        rw [O4.out.cellAt _ (by omega), List.getElem?_eq_getElem (by rw [o4l]; omega)]; exact ⟨_, rfl⟩
      have fm0 := O4.out.frozenAt (m * 2)
      have fm1 := O4.out.frozenAt (m * 2 + 1)
      have lg := O4.out.lt g rfl
      obtain ⟨C, hC⟩ : ∃ C, clF x (x.base + z) = C := ⟨_, rfl⟩
      have hTV : tryV (⟨x, clF x (x.base + z), false⟩, x.base + z) = [.int .i64 (clF x (x.base + z)), .int .i64 (clF x (x.base + z) - (x.base + z))] := rfl
      have TS := Lib.hid (fun (C D : Int) (hC : tryV (⟨x, clF x (x.base + z), false⟩, x.base + z) = [.int .i64 C, .int .i64 D]) =>
        (by
          have h1 := ((O4.out.stored (m * 2) (.int .i64 C)).1.stored (m * 2 + 1) (.int .i64 D)).1
          rw [two_set tryV_two hC _ m hmx, mix_step hml hmr TQ.out] at h1
          exact ⟨h1, (B3.out.setCell (p := ⟨g, m * 2, none⟩) lg.1 (.int .i64 C)).setCell (p := ⟨g, m * 2 + 1, none⟩) lg.1 (.int .i64 D)⟩ :
          ((w4.setCell ⟨g, m * 2, none⟩ (.int .i64 C)).setCell ⟨g, m * 2 + 1, none⟩ (.int .i64 D)).ownsRow w2.heap.size 58 2 (.slice (some ⟨g, 0, none⟩) mo mo) mo ((mixL (tryL q) (List.replicate mo tryZ) (m + 1)).flatMap tryV) ∧ Below w2.heap.size w2 ((w4.setCell ⟨g, m * 2, none⟩ (.int .i64 C)).setCell ⟨g, m * 2 + 1, none⟩ (.int .i64 D))))
      obtain ⟨u0, cm0⟩ := cm0
      obtain ⟨u1, cm1⟩ := cm1
      have hne : (Addr.mk g (m * 2) none) ≠ ⟨g, m * 2 + 1, none⟩ := by simp
      have T2 := Lib.hid (TS.out _ _ hTV)
      have CL2 := Lib.hid (CL.out (x.base + z) w4 X5.out)
      obtain ⟨y, hy⟩ : ∃ y, x.base + z = y := ⟨_, rfl⟩
      rw [hy] at hC pw CB T2 CL2 OT ov2 ⊢
      rw [hC] at CB T2 CL2 OT ov2
      clear hTV TS CL X5 hy hC TQ hml hmr hmx lg o4l
      go_wp2_with fail
      refine CL2.out.mono ?_
      rintro e wq ⟨rfl, hwq⟩
      obtain rfl : w4 = wq := hwq.symm
      clear CL2
      go_upto_region 11 with fail
      have R5 := Lib.hid T2.out.1
      have B5 := Lib.hid T2.out.2
      clear T2 O4 B3 fm0 fm1 cm0 cm1
      generalize (w4.setCell ⟨g, m * 2, none⟩ (.int .i64 C)).setCell ⟨g, m * 2 + 1, none⟩ (.int .i64 (C - y)) = w5 at *
      go_wp2_with fail
      go_roundw
      case rel => exact ⟨m + 1, i + 1, by rw [OT.out], by go_num, by omega, by omega, HON, R5, B5⟩
      case measure => simp [intOf] <;> omega
    · obtain rfl : m = mo := by omega
      have hltz : ¬ (m : Int) < m := by omega
      have e0 : overI (q.take k) = overI q := by
        have hoz : openI (st.take n) = openI (st.take k) := by rw [HK.out, List.take_of_length_le (by rw [HN.out]; omega), HMO.out]
        have h1 : overI (q.take n) = overI (q.take k) := SK.out k n hk (by rw [HN.out]; omega) hoz
        rw [List.take_of_length_le (by rw [HQL.out]; omega)] at h1
        exact h1.symm
      have O6 : Hid (wr.ownsRow w2.heap.size 58 2 (.slice (some ⟨g, 0, none⟩) m m) m ((tryL q).flatMap tryV)) := Lib.hid (by
        have h := O4.out
        rw [mixL_end (by rw [HTL.out, List.length_replicate]) (by simp)] at h
        exact h)
      have B6 := Lib.hid (B2.out.trans (B3.out.mono B2.out.size))
      rw [e0]
      clear e0 O4 B3 SK
      go_wp2_with fail
      go_ret2
      exact ⟨g, rfl, own_raise O6.out (fun g' hg' => Nat.le_trans B2.out.size (O6.out.lt g' hg').1), B6.out⟩
end Go.Proofs.Ytodnplllkpgfaaa
