import Derived.Test.YtbhdpfacfgldiaaGreatDoorTreeOrderQ
import Derived.Test.YtbhdpfacfgldiaaGreatDoorNodesCopyQ
import Derived.Test.YtbhdpfacfgldiaaGreatDoorZRQ
import Derived.Test.YtbhdpfacfgldiaaGreatDoorTreeBoundsQ
import Derived.Lib.MinMax
/- TreeBack answers true. -/
namespace Go.Proofs.YtbhdpfacfgldiaaGreatDoor
open Go Go.RowKit
set_option linter.unusedVariables false
set_option linter.unusedSimpArgs false
set_option maxRecDepth 20000
set_option maxHeartbeats 4000000

theorem tcopy_any {W : World} {base t : Nat} {most : Int} {L : List Nd} (hT : Tree W base t most L) (hL : L.length ≤ 1000) :
    Calls Tryz.prog 26 #[.pointer (some ⟨t, 0, none⟩)] W fun e w' => ∃ c, e = .returned (.pointer (some ⟨c, 0, none⟩)) ∧ Tree w' W.heap.size c most L ∧ Below W.heap.size W w' := by
  have NC := Lib.hid (ncopy_any hT hL)
  have HE := Lib.hid (held_t t W)
  clear hT
  go_enter Tryz.func26, Tryz.ntmps26
  go_wp2_with fail
  refine HE.out.mono ?_
  rintro e w' ⟨rfl, rfl⟩
  go_wp2_with fail
  refine NC.out.mono ?_
  rintro e w2 ⟨c, rfl, h1, h2⟩
  have Q1 := Lib.hid h1
  have Q2 := Lib.hid h2
  clear h1 h2 NC
  go_wp2_with fail
  go_ret
  exact ⟨c, rfl, Q1.out, Q2.out⟩
/-- A list that one may say is one that Of may be given. -/
theorem NodesOwn.low {w : World} {lo : Nat} {v : Value} {L : List Nd} {most : Int} (h : NodesOwn w lo v L) (ho : ofB most L = true) (hl : L.length ≤ 1000000) : ∃ A c svs, v = .slice A L.length c ∧ L.length ≤ c ∧ NodesLow w w.heap.size A L svs := by
  obtain ⟨A, c, svs, rfl, h1, h2, h3⟩ := h
  obtain ⟨A', c', e, h4, -, -⟩ := owns_nil h2
  injection e with e1 e2 e3
  subst e1 e3
  exact ⟨A, c, svs, rfl, h4, (SeeS.mk h1 hl (row_of_own h2) fun k hk hk2 => (h3 k hk hk2).at_ : SeeS w A L svs).low ho⟩
theorem say_low {W : World} {base t : Nat} {most : Int} {L : List Nd} {m0 : Int} (hT : Tree W base t most L) (ho : ofB m0 L = true) (hL : L.length ≤ 1000) :
    Calls Tryz.prog 25 #[.pointer (some ⟨t, 0, none⟩)] W fun e w' => ∃ A c svs, e = .returned (.slice A L.length c) ∧ L.length ≤ c ∧ NodesLow w' w'.heap.size A L svs ∧ NodesSee w' (.slice A L.length c) L ∧ Below W.heap.size W w' := by
  obtain ⟨T, f1, f2, f3⟩ := of_tree m0 L ho
  refine (tsay_any hT hL f1 f2 f3).mono ?_
  rintro e w' ⟨v, rfl, hN, -, hb⟩
  obtain ⟨A, c, svs, rfl, h1, h2⟩ := hN.low ho (by omega)
  exact ⟨A, c, svs, rfl, h1, h2, hN.see (by omega), hb⟩
theorem of_ans {W w' : World} {most : Int} {l : List Nd} {e : Ending} (h : OfPost W most l e w') : ∃ p, e = .returned (.tuple #[.pointer p, .bool (ofB most l)]) := by
  unfold OfPost at h
  cases hb : ofB most l
  · rw [hb, if_neg (by decide)] at h; exact ⟨none, h⟩
  · rw [hb, if_pos rfl] at h
    obtain ⟨t, h3, -⟩ := h
    exact ⟨some ⟨t, 0, none⟩, h3⟩
theorem of_one_less {L : List Nd} (h : ofB 500 L = true) : ofB (max ((L.length : Int) - 1) 1) L = decide ((L.length : Int) = 1) := by
  have h2 : 0 < L.length := by cases L with | nil => cases h | cons r R => simp
  have h5 := of_most 500 L h
  have h3 : mostZ 500 = 500 := rfl
  by_cases e : (L.length : Int) = 1
  · rw [decide_eq_true e]
    exact of_just 500 _ L h (by unfold mostZ; omega)
  · rw [decide_eq_false e]
    cases hb : ofB (max ((L.length : Int) - 1) 1) L with
    | false => rfl
    | true =>
      have := of_most _ L hb
      unfold mostZ at this
      omega
theorem TOs.lowl {W w : World} {lo t : Nat} {mo : Int} {L : List Nd} {A1 : Option Addr} {n c1 : Nat} (h : TOs W w lo t mo L A1 n c1) (ho : ofB 500 L = true) : ∃ svs, NodesLow w w.heap.size A1 L svs ∧ L.length ≤ c1 := by
  obtain ⟨A, c, svs, e, hc, hs⟩ := h.list
  injection e with e1 e2 e3
  subst e1 e3
  exact ⟨svs, hs.low ho, hc⟩
theorem treeBack_any (zs : List Int) (A : Option Addr) (c : Nat) (W : World) (hR : Row W W.heap.size A (i64s zs)) (hm : zs.length ≤ 9223372036854775807) (hT : TabOk W) (hA : AscOk W) :
    Calls Tryz.prog 5 #[.slice A zs.length c] W fun e w' => e = .returned (.bool true) ∧ Below W.heap.size W w' := by
  have MA := Lib.hid (made_any zs A c W hR hm)
  have UA := Lib.hid (fun w (hb : Below W.heap.size W w) d => untoldAt_any w (hT.below hb) (hA.below hb) d)
  clear hR hm hT hA
  go_enter Tryz.func5, Tryz.ntmps5
  go_wp2_with fail
  refine MA.out.mono ?_
  rintro e w1 ⟨v, L, rfl, hO, h6, hb1⟩
  obtain ⟨A1, c1, svs, rfl, hc1, hs⟩ := h6
  have LB := of_most 500 L hO
  have LB2 : mostZ 500 = 500 := rfl
  have hO2 := Lib.hid hO
  have OF := Lib.hid (tof_at 500 A1 c1 L svs w1 (hs.low hO) hc1 fun n hn ht d hd => UA.out w1 hb1 d)
  have S1 : Hid (R6 w1 (.slice A1 L.length c1) L) := Lib.hid ⟨A1, c1, svs, rfl, hc1, hs⟩
  have B1 := Lib.hid hb1
  have hL := Lib.hid (show L.length ≤ 500 by omega)
  clear hs hb1 MA hc1 LB LB2
  go_wp2_with fail
  refine OF.out.mono ?_
  rintro e w2 ⟨hp, hb2⟩
  unfold OfPost at hp
  rw [if_pos hO] at hp
  obtain ⟨t, rfl, hTr⟩ := hp
  have ST : Hid (TOs W w2 w1.heap.size t (mostZ 500) L A1 L.length c1) := Lib.hid ⟨hTr, S1.out.behind hb2, B1.out.trans (hb2.mono B1.out.size)⟩
  clear hTr hb2 S1 OF B1 hO
  generalize ((mostZ 500 : Nat) : Int) = mo at *
  generalize w1.heap.size = lo at *
  have SY := Lib.hid (say_low ST.out.tree hO2.out (by have := hL.out; omega))
  go_wp2_with fail
  refine SY.out.mono ?_
  rintro e w3 ⟨A3, c3, svs3, rfl, hc3, hlow3, -, hb3⟩
  have S3 := Lib.hid (ST.out.behind hb3)
  have OF := Lib.hid (tof_at (L.length : Int) A3 c3 L svs3 w3 hlow3 hc3 fun n hn ht d hd => UA.out w3 S3.out.low d)
  clear hc3 hlow3 hb3 SY ST
  go_wp2_with fail
  refine OF.out.mono ?_
  rintro e w4 ⟨hp, hb4⟩
  unfold OfPost at hp
  rw [if_pos (of_len L hO2.out)] at hp
  obtain ⟨u, rfl, hU⟩ := hp
  have S4 := Lib.hid (S3.out.behind hb4)
  have U4 := Lib.hid hU
  clear hU hb4 S3 OF
  generalize ((mostZ (L.length : Int) : Nat) : Int) = mo2 at *
  generalize w3.heap.size = lo2 at *
  have CP := Lib.hid (tcopy_any S4.out.tree (by have := hL.out; omega))
  go_wp2_with fail
  refine CP.out.mono ?_
  rintro e w5 ⟨cp, rfl, hC, hb5⟩
  have S5 := Lib.hid (S4.out.behind hb5)
  have U5 := Lib.hid (U4.out.behind hb5)
  have C5 := Lib.hid hC
  clear hC hb5 S4 U4 CP
  generalize w4.heap.size = lo3 at *
  obtain ⟨svs5, hlow5, hc5⟩ := S5.out.lowl hO2.out
  have OF := Lib.hid (tof_at (max ((L.length : Int) - 1) 1) A1 c1 L svs5 w5 hlow5 hc5 fun n hn ht d hd => UA.out w5 S5.out.low d)
  have E1 := Lib.hid (of_one_less hO2.out)
  have hL5 := hL.out
  clear hlow5 hc5
  go_wp2_with fail
  refine OF.out.mono ?_
  rintro e w6 ⟨hp, hb6⟩
  obtain ⟨pp, rfl⟩ := of_ans hp
  rw [E1.out]
  have S6 := Lib.hid (S5.out.behind hb6)
  have U6 := Lib.hid (U5.out.behind hb6)
  have C6 := Lib.hid (C5.out.behind hb6)
  clear hp hb6 S5 U5 C5 OF E1 UA
  have nz : ((L.length : Int) == 1) = decide ((L.length : Int) = 1) := by by_cases h : (L.length : Int) = 1 <;> simp [h]
  obtain ⟨bb, hbb⟩ : ∃ b, decide ((L.length : Int) = 1) = b := ⟨_, rfl⟩
  rw [hbb] at nz ⊢
  have zb : (bb == bb) = true := by simp
  clear hbb
  have SY := Lib.hid (say_low (S6.out.tree) hO2.out (by omega))
  go_wp2_with fail
  refine SY.out.mono ?_
  rintro e w7 ⟨A7, c7, svs7, rfl, -, -, hse, hb⟩
  have S7 := Lib.hid (S6.out.behind hb)
  have U7 := Lib.hid (U6.out.behind hb)
  have C7 := Lib.hid (C6.out.behind hb)
  have SA := Lib.hid (nsame_any L (.slice A7 L.length c7) (.slice A1 L.length c1) w7 hse S7.out.list.see)
  clear hse hb SY S6 U6 C6
  go_wp2_with fail
  refine SA.out.mono ?_
  rintro e w8 ⟨rfl, hb⟩
  have S8 := Lib.hid (S7.out.behind hb)
  have U8 := Lib.hid (U7.out.behind hb)
  have C8 := Lib.hid (C7.out.behind hb)
  clear hb SA S7 U7 C7
  have SY := Lib.hid (say_low (U8.out) hO2.out (by omega))
  go_wp2_with fail
  refine SY.out.mono ?_
  rintro e w9 ⟨A9, c9, svs9, rfl, -, -, hse, hb⟩
  have S9 := Lib.hid (S8.out.behind hb)
  have U9 := Lib.hid (U8.out.behind hb)
  have C9 := Lib.hid (C8.out.behind hb)
  have SA := Lib.hid (nsame_any L (.slice A9 L.length c9) (.slice A1 L.length c1) w9 hse S9.out.list.see)
  clear hse hb SY S8 U8 C8
  go_wp2_with fail
  refine SA.out.mono ?_
  rintro e w10 ⟨rfl, hb⟩
  have S10 := Lib.hid (S9.out.behind hb)
  have U10 := Lib.hid (U9.out.behind hb)
  have C10 := Lib.hid (C9.out.behind hb)
  clear hb SA S9 U9 C9
  have SY := Lib.hid (say_low (C10.out) hO2.out (by omega))
  go_wp2_with fail
  refine SY.out.mono ?_
  rintro e w11 ⟨A11, c11, svs11, rfl, -, -, hse, hb⟩
  have S11 := Lib.hid (S10.out.behind hb)
  have U11 := Lib.hid (U10.out.behind hb)
  have C11 := Lib.hid (C10.out.behind hb)
  have SA := Lib.hid (nsame_any L (.slice A11 L.length c11) (.slice A1 L.length c1) w11 hse S11.out.list.see)
  clear hse hb SY S10 U10 C10
  go_wp2_with fail
  refine SA.out.mono ?_
  rintro e w12 ⟨rfl, hb⟩
  have S12 := Lib.hid (S11.out.behind hb)
  have U12 := Lib.hid (U11.out.behind hb)
  have C12 := Lib.hid (C11.out.behind hb)
  clear hb SA S11 U11 C11
  have AE := Lib.hid (lawake6_any w12)
  have BL := Lib.hid S12.out.low
  clear S12 U12 C12
  go_wp2_with fail
  refine AE.out.mono ?_
  rintro e w13 ⟨rfl, hb⟩
  have B13 := Lib.hid (BL.out.trans (hb.mono BL.out.size))
  clear hb
  go_wp2_with fail
  go_ret
  exact ⟨rfl, B13.out⟩
end Go.Proofs.YtbhdpfacfgldiaaGreatDoor
