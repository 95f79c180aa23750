import Derived.Test.YtodnplllkpgfaaaFreeCQ
import Derived.Test.YtodnplllkpgfaaaZQ
import Derived.OwnWalk
/- free's line: what those that are open share, and by what. -/
namespace Go.Proofs.Ytodnplllkpgfaaa
open Go Go.RowKit
set_option linter.unusedVariables false
set_option linter.unusedSimpArgs false
set_option maxRecDepth 20000
set_option maxHeartbeats 4000000

theorem i64e_info : (Try.prog.info? 2).map (fun i => (i.zero, i.size, i.bytes)) = some (some (.int .i64 0), 1, 8) := by kernel_rfl
theorem RI.room_bd {g : Bool} {inner : Int} {st : List It} (h : RI g inner st) : -1152921504606846976 ≤ roomF inner (st.map It.x) ∧ roomF inner (st.map It.x) ≤ 1152921504606846976 := by
  have hl := h.len
  have r0 := h.room.lo
  have r1 := h.room.hi
  have l1 := sum_lo_by (f := Fx.around) (c := 8796093022208) (st.map It.x) fun x hx => by obtain ⟨i, hi, rfl⟩ := List.mem_map.1 hx; exact (h.ok i hi).a0
  have l2 := sum_hi_by (f := Fx.around) (c := 8796093022208) (st.map It.x) fun x hx => by obtain ⟨i, hi, rfl⟩ := List.mem_map.1 hx; exact (h.ok i hi).a1
  rw [List.length_map] at l1 l2
  unfold roomF arS
  omega
theorem now_take (st : List It) {k : Nat} (h : k < st.length) : ((st.take (k + 1)).map nowI).sum = ((st.take k).map nowI).sum + nowI st[k] := by
  rw [List.take_succ_eq_append_getElem h, List.map_append, List.sum_append]
  simp
theorem left_any {W w : World} {gp gz n : Nat} {A : Option Addr} {c : Nat} {inner : Int} {gr : Bool} {st : List It} (h : LnSt W w gp gz n A c inner gr st) (hr : RI gr inner st) (hn : st.length = n) :
    Calls Try.prog 30 #[.pointer (some ⟨gp, 0, none⟩)] w fun e w' => e = .returned (.int .i64 (leftI gr inner st)) ∧ w' = w := by
  obtain ⟨Ao, co, L⟩ := h
  have HL := Lib.hid L
  have HN := Lib.hid hn
  have HRI := Lib.hid hr
  have hl5 := hr.len
  have rb := hr.room_bd
  have FR := Lib.hid (free_room inner st)
  have k1 := L.cell.cell 1
  have k2 := L.cell.cell 2
  have k4 := L.cell.cell 4
  simp only [List.getElem?_cons_zero, List.getElem?_cons_succ] at k1 k2 k4
  obtain ⟨rm, hrm⟩ : ∃ r, roomF inner (st.map It.x) = r := ⟨_, rfl⟩
  rw [hrm] at k1 rb FR
  clear hrm L hr
  rw [hn] at hl5
  clear hn
  go_enter Try.func30, Try.ntmps30
  go_wp2_with fail
  go_loopw [3, 15] (fun v3 v15 wr => ∃ k : Nat, v3 = .int .i64 (rm - ((st.take k).map nowI).sum) ∧ v15 = .int .i64 k ∧ k ≤ n ∧ Hid (wr = w)) (fun _ v15 _ => n - (intOf v15).toNat)
  case atStart => exact ⟨0, by simp, rfl, Nat.zero_le _, Lib.hid rfl⟩
  case round =>
    obtain ⟨k, rfl, rfl, hk, HW⟩ := hrel
    obtain rfl := HW.out
    by_cases hlt : k < n
    · have hltz : (k : Int) < n := by omega
      have hks : k < st.length := by rw [HN.out]; exact hlt
      have b1 := HRI.out.now_bd k
      have b2 := HRI.out.now_bd (k + 1)
      have NT := Lib.hid (now_take st hks)
      rw [NT.out] at b2
      have cz := rowG_cell HL.out.zrow hlt (nowV_get hks)
      obtain ⟨z, hz⟩ : ∃ z, nowI st[k] = z := ⟨_, rfl⟩
      rw [hz] at NT b2 cz
      obtain ⟨S, hS⟩ : ∃ S, ((st.take k).map nowI).sum = S := ⟨_, rfl⟩
      rw [hS] at NT b1 b2 ⊢
      clear hz hS
      go_wp2_with fail
      go_roundw
      case rel => exact ⟨k + 1, by rw [NT.out]; go_num, by go_num, by omega, by first | exact Lib.hid rfl | exact Lib.hid trivial⟩
      case measure => simp [intOf] <;> omega
    · obtain rfl : k = n := by omega
      have hltz : ¬ (k : Int) < k := by omega
      have e0 : st.take k = st := List.take_of_length_le (by rw [HN.out]; omega)
      rw [e0, ← FR.out]
      clear e0 k1
      cases gr with
      | true =>
        go_wp2_with fail
        go_ret
        exact ⟨ret_int (by unfold leftI; rw [if_pos rfl]), rfl⟩
      | false =>
        go_wp2_with fail
        go_ret
        exact ⟨ret_int (by unfold leftI; rw [if_neg (by simp)]), rfl⟩
theorem weights_any {W w : World} {gp gz n : Nat} {A : Option Addr} {c : Nat} {inner : Int} {gr : Bool} {st : List It} (h : LnSt W w gp gz n A c inner gr st) (hr : RI gr inner st) (hn : st.length = n) (hR : Row W W.heap.size A ((st.map It.x).flatMap fxC)) :
    Calls Try.prog 31 #[.pointer (some ⟨gp, 0, none⟩)] w fun e w' =>
      e = .returned (.slice (some ⟨w.heap.size, 0, none⟩) (wtsI gr st).length (wtsI gr st).length) ∧ RowG w' w.heap.size 2 w.heap.size (wtsI gr st).length (i64s (wtsI gr st)) ∧ Below w.heap.size w w' := by
  obtain ⟨Ao, co, L⟩ := h
  have HL := Lib.hid L
  have HN := Lib.hid hn
  have HRI := Lib.hid hr
  have HR := Lib.hid hR
  have hl5 := hr.len
  have hpl : (plcI 0 st).length = (wtsI gr st).length := by rw [plcI_len, wtsI_len]
  have hm5 : (wtsI gr st).length ≤ 500 := by have := open_le st; rw [wtsI_len]; omega
  obtain ⟨mo, hmo⟩ : ∃ m, (wtsI gr st).length = m := ⟨_, rfl⟩
  rw [hmo] at hpl hm5 ⊢
  have HMO := Lib.hid hmo
  have HPL := Lib.hid hpl
  have k3 := L.cell.cell 3
  simp only [List.getElem?_cons_zero, List.getElem?_cons_succ] at k3
  rw [hpl] at k3
  rw [hn] at hl5
  have hlow := L.low.size
  clear hr hn hR hmo hpl
  obtain ⟨i0, hi, hz0, hz1, hz2⟩ := info_parts i64e_info
  go_enter Try.func31, Try.ntmps31
  go_upto_region 2 with (at_make; refine wpList_make_full _ rfl _ _ 22 rfl w.heap.size 2 i0 (.int .i64 0) 1 Try.underlying22 hi hz0 hz1 .i64 .i64 _ _ mo rfl rfl rfl rfl (by rw [hz2]; omega) (by unfold maxLen; omega) (Nat.le_refl _) ?_; intro w2 r1 r2; have O2 := Lib.hid r1; have G2 := Lib.hid (Only.of_grown r2); clear r1 r2)
  clear hi hz0 hz1 hz2
  have B2 := Lib.hid (G2.out.below (B := w.heap.size) (by simp) (Nat.le_refl _))
  obtain ⟨g, hg⟩ : ∃ g, w.heap.size = g := ⟨_, rfl⟩
  have O3 : Hid (RowG w2 w.heap.size 2 g mo (mixL (i64s (wtsI gr st)) (List.replicate mo (.int .i64 0)) 0)) := Lib.hid (by
    rw [mixL_zero, ← hg]
    have e1 : (madeCells (Value.int .i64 0).cells (mo * 1)).toList = List.replicate mo (Value.int .i64 0) := by rw [Nat.mul_one]; exact toList_madeCells_one _ _
    have o := O2.out
    rw [e1] at o
    exact o)
  clear O2 G2 k3
  have HG := Lib.hid hg
  rw [hg]
  have L2 := Lib.hid (HL.out.behind B2.out)
  have k3 := L2.out.cell.cell 3
  simp only [List.getElem?_cons_zero, List.getElem?_cons_succ] at k3
  rw [HPL.out] at k3
  clear hg L2 L
  go_wp2_with fail
  go_loopw [18] (fun v18 wr => ∃ m : Nat, v18 = .int .i64 m ∧ m ≤ mo ∧ Hid (RowG wr w.heap.size 2 g mo (mixL (i64s (wtsI gr st)) (List.replicate mo (.int .i64 0)) m)) ∧ Hid (Below w.heap.size w wr)) (fun v18 _ => mo - (intOf v18).toNat)
  case atStart => exact ⟨0, rfl, Nat.zero_le _, O3, B2⟩
  case round =>
    clear O3 B2 k3
    obtain ⟨m, rfl, hm, O3, B2⟩ := hrel
    by_cases hlt : m < mo
    · have hltz : (m : Int) < mo := by omega
      have hmp : m < (plcI 0 st).length := by rw [HPL.out]; exact hlt
      have L3 := Lib.hid (HL.out.behind B2.out)
      have k0 := L3.out.cell.cell 0
      have k2 := L3.out.cell.cell 2
      simp only [List.getElem?_cons_zero, List.getElem?_cons_succ] at k0 k2
      obtain ⟨i, his, hpi, hfi, hoi⟩ := plcI_get st 0 m hmp
      obtain ⟨ap, rfl, hapb, cp⟩ := L3.out.plc hmp
      have hin : i < n := by rw [← HN.out]; exact his
      have hinz : (i : Int) < n := by omega
      have hii : i < (st.map It.x).length := by simpa using his
      obtain ⟨ad, rfl, hb, X⟩ := Row.fxAt (HR.out.below L3.out.low) hii
      rw [hpi, Nat.zero_add] at cp
      rw [List.getElem_map] at X
      have hx := HRI.out.ok _ (List.getElem_mem his)
      have wm : (i64s (wtsI gr st))[m]? = some (.int .i64 (wtF gr st[i].x)) := by
        have h1 := opn_at his hfi
        rw [hoi] at h1
        rw [wts_opn]
        unfold i64s
        rw [List.getElem?_map, List.getElem?_map, h1]; rfl
      have hlm : (i64s (wtsI gr st)).length = (List.replicate mo (Value.int .i64 0)).length := by rw [i64s_length, List.length_replicate]; exact HMO.out
      have hmr : m < (List.replicate mo (Value.int .i64 0)).length := by simpa using hlt
      have MS := Lib.hid (mix_step hlm hmr wm)
      have cm := rowG_cell (u := .int .i64 0) O3.out hlt (mix_get hlm hmr (by simp [hlt]))
      have fm := O3.out.frozenAt m
      have lg := rowG_lt O3.out
      have P3 := Lib.hid (fun u => rowG_put O3.out m u)
      have Q3 := Lib.hid (fun u => below_put B2.out lg.1 m u)
      have hpos : 0 ≤ st[i].x.base * st[i].x.shrink ∧ st[i].x.base * st[i].x.shrink ≤ 1125899906842624 := by
        have := wt_shrink hx
        unfold wtF at this
        rw [if_neg (by simp)] at this
        exact this
      obtain ⟨x, hxe⟩ : ∃ x, st[i].x = x := ⟨_, rfl⟩
      rw [hxe] at X MS hpos hx
      obtain ⟨c0, c1, c2, c3, c4, c5⟩ := X
      have x0 := hx.b0
      have x1 := hx.b1
      clear hxe wm hlm hmr hpi hfi hoi hx c1 c2 c5 lg L3 O3
      cases gr with
      | true =>
        have MS2 : Hid ((mixL (i64s (wtsI true st)) (List.replicate mo (.int .i64 0)) m).set m (.int .i64 x.grow) = mixL (i64s (wtsI true st)) (List.replicate mo (.int .i64 0)) (m + 1)) := MS
        have P4 := P3.out (.int .i64 x.grow)
        rw [MS2.out] at P4
        have P4 := Lib.hid P4
        have Q4 := Lib.hid (Q3.out (.int .i64 x.grow))
        clear MS MS2 P3 Q3 c0 c4
        go_wp2_with fail
        go_roundw
        case rel => exact ⟨m + 1, by go_num, by omega, P4, Q4⟩
        case measure => simp [intOf] <;> omega
      | false =>
        have MS2 : Hid ((mixL (i64s (wtsI false st)) (List.replicate mo (.int .i64 0)) m).set m (.int .i64 (x.base * x.shrink)) = mixL (i64s (wtsI false st)) (List.replicate mo (.int .i64 0)) (m + 1)) := MS
        have P4 := P3.out (.int .i64 (x.base * x.shrink))
        rw [MS2.out] at P4
        have P4 := Lib.hid P4
        have Q4 := Lib.hid (Q3.out (.int .i64 (x.base * x.shrink)))
        clear MS MS2 P3 Q3 c3
        go_upto_region 8 with fail
        go_region
        all_goals go_wp2
        go_roundw
        case rel => exact ⟨m + 1, by go_num, by omega, by first | exact P4 | exact Lib.hid (own_below P4.out (Below.drewN' (Below.refl _ _) 1) (Nat.le_refl _)), by first | exact Q4 | exact Lib.hid (Below.drewN' Q4.out 1)⟩
        case measure => simp [intOf] <;> omega
    · obtain rfl : m = mo := by omega
      have hltz : ¬ (m : Int) < m := by omega
      have O4 : Hid (RowG wr w.heap.size 2 g m (i64s (wtsI gr st))) := Lib.hid (by
        have h := O3.out
        rw [mixL_end (by rw [i64s_length, List.length_replicate]; exact HMO.out) (by simp)] at h
        exact h)
      clear O3
      go_wp2_with fail
      go_ret
      obtain rfl := HG.out
      exact ⟨rfl, O4.out, B2.out⟩
end Go.Proofs.Ytodnplllkpgfaaa
