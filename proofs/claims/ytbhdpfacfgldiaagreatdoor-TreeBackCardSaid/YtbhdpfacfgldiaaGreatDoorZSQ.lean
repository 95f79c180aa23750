import Derived.Test.YtbhdpfacfgldiaaGreatDoorZRQ
import Derived.Test.YtbhdpfacfgldiaaGreatDoorZQ
import Derived.Test.YtbhdpfacfgldiaaGreatDoorFmtBQ
import Derived.Test.YtbhdpfacfgldiaaGreatDoorShelf
import Derived.Lib.ItoaMem
import Derived.Lib.ItoaNum
import Derived.Laws.IdiomStrings
import Derived.Test.YtbhdpfacfgldiaaGreatDoorProg
import Derived.Lib.Builder
import Derived.Lib.AppendStr
import Derived.OwnWalk
import Derived.BigRegion
import Derived.WalkKit
import Derived.Lib.Hide
import Derived.LoopTactic
import Derived.Laws.Strings
import Derived.Lib.IndexBytes
/- quoinref6: Find, Parent, Kids, Below, Deep of a list that reads as L. -/
namespace Go.Proofs.YtbhdpfacfgldiaaGreatDoor
open Go Go.RowKit
set_option linter.unusedVariables false
set_option linter.unusedSimpArgs false
set_option maxRecDepth 20000
set_option maxHeartbeats 4000000

def findZ (L : List Nd) (id : Int) : Int := if hasZ L id = true then (rkZ L id : Int) else -1
theorem find_hit {L : List Nd} {id : Int} {k : Nat} (hk : k < L.length) (he : L[k].id = id) (hj : ∀ j (h : j < k), (L[j]'(by omega)).id ≠ id) : findZ L id = k := by
  unfold findZ
  rw [if_pos (has_iff.2 ⟨L[k], List.getElem_mem hk, he⟩)]
  congr 1
  unfold rkZ
  refine (List.findIdx_eq hk).2 ⟨by simp [he], fun j h => ?_⟩
  simp [hj j h]
theorem find_miss {L : List Nd} {id : Int} (h : ∀ j (hj : j < L.length), L[j].id ≠ id) : findZ L id = -1 := by
  unfold findZ
  rw [if_neg]
  intro hc
  obtain ⟨n, hn, e⟩ := has_iff.1 hc
  obtain ⟨i, hi, ei⟩ := List.mem_iff_getElem.1 hn
  exact h i hi (by rw [ei]; exact e)
theorem find_get {L : List Nd} {id : Int} (h : hasZ L id = true) : ∃ (hk : rkZ L id < L.length), L[rkZ L id].id = id ∧ atZ L id = some L[rkZ L id] := by
  obtain ⟨n, hn, e⟩ := has_iff.1 h
  have hk : rkZ L id < L.length := List.findIdx_lt_length_of_exists ⟨n, hn, by simp [e]⟩
  have h1 : (L[rkZ L id].id == id) = true := List.findIdx_getElem (xs := L) (p := fun (n : Nd) => n.id == id) (w := hk)
  refine ⟨hk, by simpa using h1, ?_⟩
  unfold atZ
  have h2 := List.find?_eq_some_iff_getElem (p := fun (n : Nd) => n.id == id) (b := L[rkZ L id]) (xs := L)
  refine h2.2 ⟨h1, rkZ L id, hk, rfl, fun j hj => ?_⟩
  have := List.not_of_lt_findIdx (p := fun (n : Nd) => n.id == id) (xs := L) (i := j) hj
  simpa using this
theorem find_neg {L : List Nd} {id : Int} : (findZ L id < 0) ↔ hasZ L id = false := by
  unfold findZ
  cases hasZ L id
  · simp
  · simp
theorem nodes_see_behind {w w' : World} {v : Value} {l : List Nd} (h : NodesSee w v l) (hb : Below w.heap.size w w') : NodesSee w' v l := by
  obtain ⟨A, c, svs, e, h1, h2, h3, h4⟩ := h
  exact ⟨A, c, svs, e, h1, h2, (h3.below hb).more hb.size, fun k hk hk2 => (h4 k hk hk2).below hb⟩
abbrev r6V (m : Int) (v : Value) : Value := .agg #[.int .i64 m, v]
theorem rfind_any (m : Int) (v : Value) (L : List Nd) (id : Int) (W : World) (h : NodesSee W v L) :
    Calls Tryz.prog 17 #[r6V m v, .int .i64 id] W fun e w' => e = .returned (.int .i64 (findZ L id)) ∧ Below W.heap.size W w' := by
  obtain ⟨A, c, svs, rfl, hs, hl, hR, -⟩ := h
  have HR := Lib.hid (hR.below ((Below.refl W.heap.size W).alloc (Nat.le_refl _) (.cells #[.int .i64 m, .slice A L.length c] 40)))
  have B0 := Lib.hid ((Below.refl W.heap.size W).alloc (Nat.le_refl _) (.cells #[.int .i64 m, .slice A L.length c] 40))
  have X0 := Lib.hid (Whole.mk W 40 #[.int .i64 m, .slice A L.length c])
  have HS := Lib.hid hs
  clear hR hs
  go_enter Tryz.func17, Tryz.ntmps17
  go_upto_region 2 with fail
  generalize W.alloc _ = w1 at *
  have x1 : w1.cell? ⟨W.heap.size, 1, none⟩ = some (.slice A L.length c) := X0.out.cell 1
  have HM := Lib.hid (find_miss (L := L) (id := id))
  have HH := Lib.hid (fun k hk he hj => find_hit (L := L) (id := id) (k := k) hk he hj)
  go_loopw [5] (fun v5 wr => ∃ k : Nat, k ≤ L.length ∧ v5 = .int .i64 k ∧ wr = w1 ∧ Hid (∀ j (hj : j < k) (hj2 : j < L.length), L[j].id ≠ id)) (fun v5 _ => L.length - (intOf v5).toNat)
  case atStart => exact ⟨0, Nat.zero_le _, rfl, rfl, Lib.hid fun j hj => absurd hj (by omega)⟩
  case round =>
    obtain ⟨k, hk, rfl, rfl, HN⟩ := hrel
    by_cases hlt : k < L.length
    · have hki : (k : Int) < L.length := by omega
      obtain ⟨ad, rfl, -, c0, -⟩ := HR.out.ndr HS.out hlt (by rw [HS.out]; exact hlt)
      by_cases he : L[k].id = id
      · have hb : (L[k].id == id) = true := by rw [beq_iff_eq]; exact he
        have e := HH.out k hlt he (fun j hj => HN.out j hj (by omega))
        go_wp2_with fail
        go_ret
        exact ⟨ret_int (by first | exact e.symm | rfl), B0.out⟩
      · have hb : (L[k].id == id) = false := by rw [beq_eq_false_iff_ne]; exact he
        have HN2 : Hid (∀ j (hj : j < k + 1) (hj2 : j < L.length), L[j].id ≠ id) := Lib.hid fun j hj hj2 => by
          rcases Nat.lt_or_ge j k with h | h
          · exact HN.out j h hj2
          · have : j = k := by omega
            subst this; exact he
        clear HN
        go_wp2_with fail
        go_roundw
        case rel => exact ⟨k + 1, by omega, by go_num, by first | rfl | trivial, HN2⟩
        case measure => simp [intOf]; omega
    · have hq : k = L.length := by omega
      have hki : ¬ (k : Int) < L.length := by omega
      have e := HM.out (fun j hj => HN.out j (by omega) hj)
      go_wp2_with fail
      go_ret
      exact ⟨ret_int (by first | exact e.symm | rfl), B0.out⟩
theorem rparent_any (m : Int) (v : Value) (L : List Nd) (id : Int) (W : World) (h : NodesSee W v L) :
    Calls Tryz.prog 20 #[r6V m v, .int .i64 id] W fun e w' => e = .returned (.int .i64 (parZ L id)) ∧ Below W.heap.size W w' := by
  obtain ⟨A, c, svs, rfl, hs, hl, hR, hst⟩ := h
  have hB := (Below.refl W.heap.size W).alloc (Nat.le_refl _) (.cells #[.int .i64 m, .slice A L.length c] 40)
  have hN : NodesSee W (.slice A L.length c) L := ⟨A, c, svs, rfl, hs, hl, hR, hst⟩
  have F := Lib.hid (rfind_any m _ L id _ (nodes_see_behind hN hB))
  have HR := Lib.hid hR
  have B0 := Lib.hid hB
  have X0 := Lib.hid (Whole.mk W 40 #[.int .i64 m, .slice A L.length c])
  have HS := Lib.hid hs
  clear hR hs hst hN hB
  go_enter Tryz.func20, Tryz.ntmps20
  go_upto_region 1 with fail
  generalize W.alloc _ = w1 at *
  have x0 : w1.cell? ⟨W.heap.size, 0, none⟩ = some (.int .i64 m) := X0.out.cell 0
  have x1 : w1.cell? ⟨W.heap.size, 1, none⟩ = some (.slice A L.length c) := X0.out.cell 1
  go_wp2_with fail
  refine F.out.mono ?_
  rintro e w2 ⟨rfl, hb⟩
  have B2 := Lib.hid (B0.out.trans (hb.mono B0.out.size))
  have x2 : w2.cell? ⟨W.heap.size, 1, none⟩ = some (.slice A L.length c) := (X0.out.under hb X0.out.size).cell 1
  clear hb F x0 x1 X0 B0
  cases hh : hasZ L id
  · have e : findZ L id = -1 := by unfold findZ; rw [hh, if_neg (by decide)]
    have ep : parZ L id = -1 := par_no hh
    rw [e]
    clear x2
    go_wp2_with fail
    go_ret
    exact ⟨ret_int (by first | exact ep.symm | rfl), B2.out⟩
  · obtain ⟨hk, h1, h2⟩ := find_get hh
    have e : findZ L id = (rkZ L id : Int) := by unfold findZ; rw [hh, if_pos rfl]
    have ep : parZ L id = L[rkZ L id].par := by unfold parZ; rw [h2]
    rw [e]
    obtain ⟨ad, rfl, -, -, c1, -⟩ := (HR.out.below B2.out).ndr HS.out hk (by rw [HS.out]; exact hk)
    have hki : (rkZ L id : Int) < L.length := by omega
    have EP := Lib.hid ep
    clear ep e h1 h2
    generalize rkZ L id = k at *
    go_wp2_with fail
    go_ret
    exact ⟨ret_int (by first | exact EP.out.symm | rfl), B2.out⟩
end Go.Proofs.YtbhdpfacfgldiaaGreatDoor
/- quoinref6: Below, Deep, Kids of a list that reads as L. -/
namespace Go.Proofs.YtbhdpfacfgldiaaGreatDoor
open Go Go.RowKit
set_option linter.unusedVariables false
set_option linter.unusedSimpArgs false
set_option maxRecDepth 20000
set_option maxHeartbeats 4000000

theorem find_yes {L : List Nd} {id : Int} (h : hasZ L id = true) : ∃ a : Nat, findZ L id = a := ⟨rkZ L id, by unfold findZ; rw [if_pos h]⟩
theorem find_no {L : List Nd} {id : Int} (h : hasZ L id = false) : findZ L id = -1 := by unfold findZ; rw [if_neg (by rw [h]; decide)]
theorem TreeOk.below_out {L : List Nd} (hOK : TreeOk L) {id of_ : Int} (h : hasZ L id = false) : belowZ L id of_ = false := by
  cases ho : hasZ L of_
  · unfold belowZ; rw [ho]; rfl
  · have hne : id ≠ of_ := fun e => by subst e; rw [h] at ho; cases ho
    rw [hOK.below_step ho hne, par_no h]
    exact hOK.below_nobody ho
theorem NodesSee.tmp {W : World} {v : Value} {L : List Nd} (h : NodesSee W v L) (o : Obj) : NodesSee (W.alloc o) v L := nodes_see_behind h ((Below.refl _ _).alloc (Nat.le_refl _) o)
theorem NodesSee.one {W : World} {v : Value} {L : List Nd} (h : NodesSee W v L) : ∃ A c, v = .slice A L.length c := by obtain ⟨A, c, svs, e, -⟩ := h; exact ⟨A, c, e⟩
theorem rbelow_any (m : Int) (v : Value) (L : List Nd) (id of_ : Int) (W : World) (hOK : TreeOk L) (h : NodesSee W v L) :
    Calls Tryz.prog 22 #[r6V m v, .int .i64 id, .int .i64 of_] W fun e w' => e = .returned (.bool (belowZ L id of_)) ∧ Below W.heap.size W w' := by
  have OK := Lib.hid hOK
  have B0 := Lib.hid ((Below.refl W.heap.size W).alloc (Nat.le_refl _) (.cells #[.int .i64 m, v] 40))
  have S0 := Lib.hid (h.tmp (.cells #[.int .i64 m, v] 40))
  have X0 := Lib.hid (Whole.mk W 40 #[.int .i64 m, v])
  obtain ⟨A, c, rfl⟩ := h.one
  have FI := Lib.hid (fun w (hs : NodesSee w (.slice A L.length c) L) (x : Int) => rfind_any m _ L x w hs)
  have PA := Lib.hid (fun w (hs : NodesSee w (.slice A L.length c) L) (x : Int) => rparent_any m _ L x w hs)
  clear hOK h
  go_enter Tryz.func22, Tryz.ntmps22
  go_upto_region 1 with fail
  generalize W.alloc _ = w1 at *
  have x0 : w1.cell? ⟨W.heap.size, 0, none⟩ = some (.int .i64 m) := X0.out.cell 0
  have x1 : w1.cell? ⟨W.heap.size, 1, none⟩ = some (.slice A L.length c) := X0.out.cell 1
  go_wp2_with fail
  refine (FI.out _ S0.out id).mono ?_
  rintro e w2 ⟨rfl, hb⟩
  have B2 := Lib.hid (B0.out.trans (hb.mono B0.out.size))
  have S2 := Lib.hid (nodes_see_behind S0.out hb)
  have X2 := Lib.hid (X0.out.under hb X0.out.size)
  clear hb B0 S0 X0 x0 x1
  have x0 : w2.cell? ⟨W.heap.size, 0, none⟩ = some (.int .i64 m) := X2.out.cell 0
  have x1 : w2.cell? ⟨W.heap.size, 1, none⟩ = some (.slice A L.length c) := X2.out.cell 1
  cases hi : hasZ L id
  · have e := OK.out.below_out (of_ := of_) hi
    rw [find_no hi]
    go_wp2_with fail
    go_ret
    exact ⟨ret_bool (by first | exact e.symm | rfl), B2.out⟩
  obtain ⟨a, ha⟩ := find_yes hi
  rw [ha]
  clear ha
  go_wp2_with fail
  refine (FI.out _ S2.out of_).mono ?_
  rintro e w3 ⟨rfl, hb⟩
  have B3 := Lib.hid (B2.out.trans (hb.mono B2.out.size))
  have S3 := Lib.hid (nodes_see_behind S2.out hb)
  have X3 := Lib.hid (X2.out.under hb X2.out.size)
  clear hb B2 S2 X2 x0 x1
  cases ho : hasZ L of_
  · have e : belowZ L id of_ = false := by unfold belowZ; rw [ho]; rfl
    rw [find_no ho]
    go_wp2_with fail
    go_ret
    exact ⟨ret_bool (by first | exact e.symm | rfl), B3.out⟩
  obtain ⟨b, hb⟩ := find_yes ho
  rw [hb]
  clear hb
  have h0 : 0 ≤ of_ := by
    obtain ⟨n, hn, e⟩ := has_iff.1 ho
    have := OK.out.rng n hn
    omega
  have HO := Lib.hid ho
  clear ho hi FI
  go_upto_region 3 with fail
  go_loopw [1] (fun v1 wr => ∃ x : Int, v1 = .int .i64 x ∧ Hid (belowZ L x of_ = belowZ L id of_) ∧ Hid (Below W.heap.size W wr) ∧ Hid (NodesSee wr (.slice A L.length c) L) ∧ Hid (Whole wr W.heap.size 40 [.int .i64 m, .slice A L.length c])) (fun v1 _ => upZ L (intOf v1))
  case atStart => exact ⟨id, rfl, Lib.hid rfl, B3, S3, X3⟩
  case round =>
    clear B3 S3 X3
    obtain ⟨x, rfl, hb, B, S, X⟩ := hrel
    by_cases hx : 0 ≤ x
    · by_cases h1 : x = of_
      · subst h1
        have e : belowZ L id x = true := by rw [← hb.out]; exact below_self HO.out
        go_wp2_with fail
        go_ret
        exact ⟨ret_bool (by first | exact e.symm | rfl), B.out⟩
      · have b1 : (x == of_) = false := by rw [beq_eq_false_iff_ne]; exact h1
        have hb2 := Lib.hid ((OK.out.below_step HO.out h1).symm.trans hb.out)
        have hm := Lib.hid (OK.out.up_less (x := x) (by omega))
        have x0 : wr.cell? ⟨W.heap.size, 0, none⟩ = some (.int .i64 m) := X.out.cell 0
        have x1 : wr.cell? ⟨W.heap.size, 1, none⟩ = some (.slice A L.length c) := X.out.cell 1
        go_wp2_with fail
        refine (PA.out _ S.out x).mono ?_
        rintro e w4 ⟨rfl, hbb⟩
        have B4 := Lib.hid (B.out.trans (hbb.mono B.out.size))
        have S4 := Lib.hid (nodes_see_behind S.out hbb)
        have X4 := Lib.hid (X.out.under hbb X.out.size)
        clear hbb B S X x0 x1
        go_wp2_with fail
        go_roundw
        case rel => exact ⟨_, rfl, hb2, B4, S4, X4⟩
        case measure => simpa [intOf] using hm.out
    · have e : belowZ L id of_ = false := by rw [← hb.out]; exact OK.out.below_out (OK.out.not_nobody (by omega))
      go_wp2_with fail
      go_ret
      exact ⟨ret_bool (by first | exact e.symm | rfl), B.out⟩
theorem rdeep_any (m : Int) (v : Value) (L : List Nd) (id : Int) (W : World) (hOK : TreeOk L) (hL : L.length ≤ 1000) (h : NodesSee W v L) :
    Calls Tryz.prog 21 #[r6V m v, .int .i64 id] W fun e w' => e = .returned (.int .i64 (deepZ L id)) ∧ Below W.heap.size W w' := by
  have OK := Lib.hid hOK
  have B0 := Lib.hid ((Below.refl W.heap.size W).alloc (Nat.le_refl _) (.cells #[.int .i64 m, v] 40))
  have S0 := Lib.hid (h.tmp (.cells #[.int .i64 m, v] 40))
  have X0 := Lib.hid (Whole.mk W 40 #[.int .i64 m, v])
  obtain ⟨A, c, rfl⟩ := h.one
  have FI := Lib.hid (fun w (hs : NodesSee w (.slice A L.length c) L) (x : Int) => rfind_any m _ L x w hs)
  have PA := Lib.hid (fun w (hs : NodesSee w (.slice A L.length c) L) (x : Int) => rparent_any m _ L x w hs)
  clear hOK h
  go_enter Tryz.func21, Tryz.ntmps21
  go_upto_region 2 with fail
  generalize W.alloc _ = w1 at *
  go_loopw [1, 5] (fun v1 v5 wr => ∃ (x d : Int), v1 = .int .i64 x ∧ v5 = .int .i64 d ∧ Hid (deepZ L id = d + 1 + deepZ L x) ∧ (-1 ≤ d ∧ d + (if hasZ L x = true then rkZ L x + 1 else 0 : Nat) ≤ 1000) ∧
    Hid (Below W.heap.size W wr) ∧ Hid (NodesSee wr (.slice A L.length c) L) ∧ Hid (Whole wr W.heap.size 40 [.int .i64 m, .slice A L.length c])) (fun v1 _ _ => upZ L (intOf v1))
  case atStart =>
    refine ⟨id, -1, rfl, rfl, Lib.hid (by omega), ⟨by omega, ?_⟩, B0, S0, X0⟩
    split
    · rename_i hh
      have := (OK.out.step hh).1
      omega
    · omega
  case round =>
    clear B0 S0 X0
    obtain ⟨x, d, rfl, rfl, hd, ⟨hd1, hd2⟩, B, S, X⟩ := hrel
    have x0 : wr.cell? ⟨W.heap.size, 0, none⟩ = some (.int .i64 m) := X.out.cell 0
    have x1 : wr.cell? ⟨W.heap.size, 1, none⟩ = some (.slice A L.length c) := X.out.cell 1
    by_cases hh : hasZ L x = true
    · obtain ⟨a, ha⟩ := find_yes hh
      have F1 := Lib.hid (FI.out wr S.out x)
      rw [ha] at F1
      rw [if_pos hh] at hd2
      have hne : x ≠ -1 := fun e => by subst e; rw [OK.out.not_nobody (by omega)] at hh; cases hh
      have hs := OK.out.step hh
      have hd3 := Lib.hid (show deepZ L id = d + 1 + 1 + deepZ L (parZ L x) by rw [hd.out, OK.out.deep_has hh]; omega)
      have hm := Lib.hid (OK.out.up_less hne)
      have hd4 := Lib.hid (show -1 ≤ d + 1 ∧ d + 1 + (if hasZ L (parZ L x) = true then rkZ L (parZ L x) + 1 else 0 : Nat) ≤ 1000 by
        refine ⟨by omega, ?_⟩
        rcases hs.2 with ⟨e1, e2⟩ | ⟨e1, e2⟩
        · rw [e2, if_neg (by rw [OK.out.not_nobody (by omega)]; decide)]; omega
        · rw [if_pos e1]; omega)
      have hd5 : d ≤ 1000 := by omega
      clear hs hh hd2 ha
      go_wp2_with fail
      refine F1.out.mono ?_
      rintro e w2 ⟨rfl, hb⟩
      have B2 := Lib.hid (B.out.trans (hb.mono B.out.size))
      have S2 := Lib.hid (nodes_see_behind S.out hb)
      have X2 := Lib.hid (X.out.under hb X.out.size)
      clear hb B S X x0 x1
      have x0 : w2.cell? ⟨W.heap.size, 0, none⟩ = some (.int .i64 m) := X2.out.cell 0
      have x1 : w2.cell? ⟨W.heap.size, 1, none⟩ = some (.slice A L.length c) := X2.out.cell 1
      go_wp2_with fail
      refine (PA.out _ S2.out x).mono ?_
      rintro e w3 ⟨rfl, hb⟩
      have B3 := Lib.hid (B2.out.trans (hb.mono B2.out.size))
      have S3 := Lib.hid (nodes_see_behind S2.out hb)
      have X3 := Lib.hid (X2.out.under hb X2.out.size)
      clear hb B2 S2 X2 x0 x1
      go_wp2_with fail
      go_roundw
      case rel => exact ⟨_, _, rfl, rfl, hd3, hd4.out, B3, S3, X3⟩
      case measure => simpa [intOf] using hm.out
    · have hh : hasZ L x = false := by simpa using hh
      have F1 := Lib.hid (FI.out wr S.out x)
      rw [find_no hh] at F1
      have e : deepZ L id = d := by rw [hd.out, deep_no hh]; omega
      clear hd2
      go_wp2_with fail
      refine F1.out.mono ?_
      rintro e w2 ⟨rfl, hb⟩
      have B2 := Lib.hid (B.out.trans (hb.mono B.out.size))
      go_wp2_with fail
      go_ret
      exact ⟨ret_int (by first | exact e.symm | rfl), B2.out⟩
theorem intInfo6 : (Tryz.prog.info? 3).map (fun i => (i.zero, i.size, i.bytes)) = some (some (.int .i64 0), 1, 8) := by kernel_rfl
theorem kids_step (L : List Nd) (id : Int) (k : Nat) (h0 : 0 < k) (hk : k < L.length) : kidsZ (L.take (k + 1)) id = if L[k].par = id then kidsZ (L.take k) id ++ [L[k].id] else kidsZ (L.take k) id := by
  have hne : L.take k ≠ [] := fun e => by
    have h3 : (L.take k).length = 0 := by rw [e]; rfl
    rw [List.length_take] at h3; omega
  rw [List.take_succ_eq_append_getElem hk, kids_append _ _ _ hne]
  by_cases h : L[k].par = id
  · rw [if_pos h, if_pos h.symm]
  · rw [if_neg h, if_neg (fun e => h e.symm)]
theorem rkids_any (m : Int) (v : Value) (L : List Nd) (id : Int) (W : World) (h : NodesSee W v L) (hL : L.length ≤ 1000) :
    Calls Tryz.prog 24 #[r6V m v, .int .i64 id] W fun e w' => ∃ v', e = .returned v' ∧ IdsOwn w' W.heap.size v' (kidsZ L id) ∧ Below W.heap.size W w' := by
  obtain ⟨A, c, svs, rfl, hs, hl, hR, -⟩ := h
  have HR := Lib.hid (hR.below ((Below.refl W.heap.size W).alloc (Nat.le_refl _) (.cells #[.int .i64 m, .slice A L.length c] 40)))
  have B0 := Lib.hid ((Below.refl W.heap.size W).alloc (Nat.le_refl _) (.cells #[.int .i64 m, .slice A L.length c] 40))
  have X0 := Lib.hid (Whole.mk W 40 #[.int .i64 m, .slice A L.length c])
  have HS := Lib.hid hs
  clear hR hs
  go_enter Tryz.func24, Tryz.ntmps24
  go_upto_region 3 with fail
  have hw1 : W.heap.size + 1 = (W.alloc (.cells #[.int .i64 m, .slice A L.length c] 40)).heap.size := by simp
  generalize W.alloc _ = w1 at *
  go_loopw [5, 6] (fun v5 v6 wr => ∃ (A1 : Option Addr) (c1 k n : Nat), 1 ≤ k ∧ v5 = .slice A1 n c1 ∧ v6 = .int .i64 k ∧ Hid (n = (kidsZ (L.take k) id).length) ∧ n ≤ k ∧ (k ≤ L.length ∨ k = 1) ∧ Hid (wr.ownsRow w1.heap.size 3 1 (.slice A1 n c1) n (idC (kidsZ (L.take k) id))) ∧ Hid (Below w1.heap.size w1 wr)) (fun _ v6 _ => (L.length + 1) - (intOf v6).toNat)
  case atStart =>
    have e : kidsZ (L.take 1) id = [] := by cases L <;> rfl
    exact ⟨none, 0, 1, 0, Nat.le_refl _, rfl, rfl, Lib.hid (by rw [e]; rfl), Nat.zero_le _, .inr rfl, Lib.hid (by rw [e]; exact ⟨rfl, .inl ⟨rfl, rfl⟩⟩), Lib.hid (Below.refl _ _)⟩
  case round =>
    obtain ⟨A1, c1, k, n, hk1, rfl, rfl, hn, hnk, hk, HO, HB⟩ := hrel
    have Xr := Lib.hid (X0.out.under HB.out X0.out.size)
    have x1 : wr.cell? ⟨W.heap.size, 1, none⟩ = some (.slice A L.length c) := Xr.out.cell 1
    have hsz := HB.out.size
    by_cases hlt : k < L.length
    · have hki : (k : Int) < L.length := by omega
      obtain ⟨ad, rfl, -, c0, c2, -⟩ := (HR.out.below (HB.out.mono (by omega))).ndr HS.out hlt (by rw [HS.out]; exact hlt)
      have KS := Lib.hid (kids_step L id k (by omega) hlt)
      by_cases he : L[k].par = id
      · have hb : (L[k].par == id) = true := by rw [beq_iff_eq]; exact he
        rw [if_pos he] at KS
        generalize L[k].id = z at *
        generalize L[k].par = z2 at *
        have hal := Lib.hid ((Below.refl wr.heap.size wr).alloc (Nat.le_refl _) (.cells #[.int .i64 z] 3))
        go_wp2_with (at_builtin; refine wpList_pushOne rfl (.tmp 22) (.tmp 29) _ rfl w1.heap.size 3 1 8 (.int .i64 0) Tryz.underlying28 intInfo6 rfl (by decide) n (.slice A1 n c1) _ rfl (own_below HO.out hal.out (Nat.le_refl _)) (by simp; omega) wr.heap.size [.int .i64 z] rfl (Whole.mk wr 3 #[.int .i64 z]) rfl (by simp [Value.oneCell']) (by unfold maxLen; omega) (by omega) ?_; intro A5 c5 w5 h5 ho5 hk5)
        have O5 : Hid (w5.ownsRow w1.heap.size 3 1 (.slice A5 (n + 1) c5) (n + 1) (idC (kidsZ (L.take (k + 1)) id))) := Lib.hid (by rw [KS.out, idC, List.map_append]; exact h5)
        have B5 := Lib.hid (HB.out.trans (Below.trans (hal.out.mono hsz) (ho5.below (fun x hx => ((own_below HO.out hal.out (Nat.le_refl _)).lt x (by simpa using hx)).1) (by simp; omega))))
        have hn5 : Hid (n + 1 = (kidsZ (L.take (k + 1)) id).length) := Lib.hid (by rw [KS.out, List.length_append, ← hn.out]; rfl)
        clear h5 ho5 hk5 HO HB hal KS
        go_wp2_with fail
        go_roundw
        case rel => exact ⟨A5, c5, k + 1, n + 1, by omega, rfl, by go_num, hn5, by omega, .inl (by omega), O5, B5⟩
        case measure => simp [intOf]; omega
      · have hb : (L[k].par == id) = false := by rw [beq_eq_false_iff_ne]; exact he
        rw [if_neg he] at KS
        have HO2 : Hid (wr.ownsRow w1.heap.size 3 1 (.slice A1 n c1) n (idC (kidsZ (L.take (k + 1)) id))) := Lib.hid (by rw [KS.out]; exact HO.out)
        have hn2 : Hid (n = (kidsZ (L.take (k + 1)) id).length) := Lib.hid (by rw [KS.out]; exact hn.out)
        clear KS HO
        go_wp2_with fail
        go_roundw
        case rel => exact ⟨A1, c1, k + 1, n, by omega, rfl, by go_num, hn2, by omega, .inl (by omega), HO2, HB⟩
        case measure => simp [intOf]; omega
    · have hki : ¬ (k : Int) < L.length := by omega
      have e : L.take k = L := List.take_of_length_le (by omega)
      rw [e] at hn HO
      have F := Lib.hid (show IdsOwn wr W.heap.size (.slice A1 n c1) (kidsZ L id) from ⟨A1, c1, by rw [← hn.out], by rw [← hn.out]; exact own_mono HO.out (by omega), by rw [← hn.out]; omega⟩)
      have B := Lib.hid (B0.out.trans (HB.out.mono (by omega)))
      clear HO hn
      go_wp2_with fail
      go_ret
      exact ⟨_, rfl, F.out, B.out⟩
end Go.Proofs.YtbhdpfacfgldiaaGreatDoor
/- quoinref6: where a node's part of the list ends. -/
namespace Go.Proofs.YtbhdpfacfgldiaaGreatDoor
open Go Go.RowKit
set_option linter.unusedVariables false
set_option linter.unusedSimpArgs false
set_option maxRecDepth 20000
set_option maxHeartbeats 4000000

theorem tail_len {L : List Nd} {k : Nat} (q : Nd → Bool) (hk : k < L.length) : ((L.drop k).takeWhile q).length = if q L[k] = true then ((L.drop (k + 1)).takeWhile q).length + 1 else 0 := by
  rw [List.drop_eq_getElem_cons hk]
  cases hq : q L[k]
  · rw [List.takeWhile_cons_of_neg (by rw [hq]; decide), if_neg (by decide)]; rfl
  · rw [List.takeWhile_cons_of_pos hq, if_pos rfl, List.length_cons]
theorem rend_any (m : Int) (v : Value) (L : List Nd) (id : Int) (W : World) (hOK : TreeOk L) (hh : hasZ L id = true) (h : NodesSee W v L) (hL : L.length ≤ 1000) :
    Calls Tryz.prog 50 #[r6V m v, .int .i64 id] W fun e w' => e = .returned (.int .i64 (endZ L id)) ∧ Below W.heap.size W w' := by
  have OK := Lib.hid hOK
  have hrk := (hOK.step hh).1
  have B0 := Lib.hid ((Below.refl W.heap.size W).alloc (Nat.le_refl _) (.cells #[.int .i64 m, v] 40))
  have S0 := Lib.hid (h.tmp (.cells #[.int .i64 m, v] 40))
  have X0 := Lib.hid (Whole.mk W 40 #[.int .i64 m, v])
  obtain ⟨A, c, svs, rfl, hs, hl, hR, hst⟩ := h
  have NS := Lib.hid (fun w (hw : Below W.heap.size W w) => nodes_see_behind (⟨A, c, svs, rfl, hs, hl, hR, hst⟩ : NodesSee W (.slice A L.length c) L) hw)
  have HR := Lib.hid hR
  have HS := Lib.hid hs
  have FI := Lib.hid (rfind_any m _ L id _ S0.out)
  have EF : findZ L id = (rkZ L id : Int) := by unfold findZ; rw [hh, if_pos rfl]
  rw [EF] at FI
  have EZ := Lib.hid (show endZ L id = rkZ L id + 1 + ((L.drop (rkZ L id + 1)).takeWhile fun x => belowZ L x.id id).length from rfl)
  clear hOK hh hR hs hst EF
  generalize endZ L id = E at *
  generalize rkZ L id = k0 at *
  go_enter Tryz.func50, Tryz.ntmps50
  go_upto_region 1 with fail
  generalize W.alloc _ = w1 at *
  have hW.heap.size : W.heap.size < w1.heap.size := X0.out.size
  have x0 : w1.cell? ⟨W.heap.size, 0, none⟩ = some (.int .i64 m) := X0.out.cell 0
  have x1 : w1.cell? ⟨W.heap.size, 1, none⟩ = some (.slice A L.length c) := X0.out.cell 1
  go_wp2_with fail
  refine FI.out.mono ?_
  rintro e w2 ⟨rfl, hb⟩
  have B2 := Lib.hid (B0.out.trans (hb.mono B0.out.size))
  have X2 := Lib.hid (X0.out.under hb X0.out.size)
  clear hb B0 S0 X0 x0 x1 FI
  go_upto_region 2 with fail
  go_loopw [5] (fun v5 wr => ∃ k : Nat, k ≤ L.length ∧ v5 = .int .i64 k ∧ Hid (k + ((L.drop k).takeWhile fun x => belowZ L x.id id).length = E) ∧ Hid (Below W.heap.size W wr) ∧ Hid (Whole wr W.heap.size 40 [.int .i64 m, .slice A L.length c])) (fun v5 _ => L.length - (intOf v5).toNat)
  case atStart => exact ⟨k0 + 1, by omega, by go_num, Lib.hid EZ.out.symm, B2, X2⟩
  case round =>
    clear B2 X2 EZ
    obtain ⟨k, hk, rfl, HE, B, X⟩ := hrel
    have ZT := Lib.hid (fun w (hw : Behind wr w) => X.out.under hw X.out.size)
    have y0 : ∀ t : Later wr.heap.size wr, t.w.cell? ⟨W.heap.size, 0, none⟩ = some (.int .i64 m) := fun t => (ZT.out t.w t.h).cell 0
    have y1 : ∀ t : Later wr.heap.size wr, t.w.cell? ⟨W.heap.size, 1, none⟩ = some (.slice A L.length c) := fun t => (ZT.out t.w t.h).cell 1
    by_cases hlt : k < L.length
    · have hki : (k : Int) < L.length := by omega
      have d1 : decide ((k : Int) < L.length) = true := by rw [decide_eq_true_eq]; exact hki
      have Y : Hid (∀ t : Later wr.heap.size wr, ∃ ad, A = some ad ∧ t.w.cell? (ad.add (k * 5)) = some (.int .i64 L[k].id)) := Lib.hid fun t => by
        obtain ⟨ad, e, -, c0, -⟩ := (HR.out.below (B.out.trans (t.h.mono B.out.size))).ndr HS.out hlt (by rw [HS.out]; exact hlt)
        exact ⟨ad, e, c0⟩
      obtain ⟨ad, hA, -⟩ := Y.out ⟨wr, Below.refl _ _⟩
      subst hA
      have y2 : ∀ t : Later wr.heap.size wr, t.w.cell? (ad.add (k * 5)) = some (.int .i64 L[k].id) := fun t => by
        obtain ⟨ad', e, h⟩ := Y.out t
        injection e with e; subst e; exact h
      have TL := Lib.hid (tail_len (fun x => belowZ L x.id id) hlt)
      clear Y
      obtain ⟨b, hb⟩ : ∃ b, belowZ L L[k].id id = b := ⟨_, rfl⟩
      have BL := Lib.hid (fun w (hw : Behind wr w) => by
        have := rbelow_any m (.slice (some ad) L.length c) L L[k].id id w OK.out (NS.out w (B.out.trans (Below.mono hw B.out.size)))
        rw [hb] at this; exact this)
      have TL2 := Lib.hid (show ((L.drop k).takeWhile fun x => belowZ L x.id id).length = if b = true then ((L.drop (k + 1)).takeWhile fun x => belowZ L x.id id).length + 1 else 0 by rw [TL.out, hb])
      clear TL
      generalize L[k].id = z at *
      go_upto_region 2 with fail
      refine region_lane [] (List.range 15) [15] (by kernel_rfl) (by kernel_rfl) (fun _ _ _ _ _ h => h) ?_
      simp only [pick, List.map_nil]
      refine wpQuiet_nil ⟨rfl, ?_⟩
      rw [show List.range 15 = [0, 1, 2, 3, 4, 5, 6, 7, 8, 9, 10, 11, 12, 13, 14] from rfl]
      simp only [List.map_cons, List.map_nil, List.getD_cons_zero, List.getD_cons_succ, List.drop_succ_cons, List.drop_zero]
      refine laneO_run 3 (by kernel_rfl) ?_
      simp only [List.take_succ_cons, List.take_zero, List.drop_succ_cons, List.drop_zero]
      repeat (go_big_quiet_step (fail))
      refine wpQuiet_nil ?_
      refine laneO_fixed (v := .int .i64 L.length) (by kernel_rfl) (fun w hw => .inl ⟨by rfl, ?_⟩) ?_
      focus (unfold gives; simp [go_sem]; exact Behind.refl w)
      simp only [Act.put, List.setIfInBounds_toArray, List.set_cons_zero, List.set_cons_succ]
      refine laneO_run 2 (by kernel_rfl) ?_
      simp only [List.take_succ_cons, List.take_zero, List.drop_succ_cons, List.drop_zero]
      repeat (go_big_quiet_step (fail))
      refine wpQuiet_nil ?_
      refine laneO_fixed (v := .agg #[.int .i64 m, .slice (some ad) L.length c]) (by kernel_rfl) (fun w hw => .inl ⟨by rfl, cells_gives rtree_flat (.tmp 2) rfl W.heap.size rfl [.int .i64 m, .slice (some ad) L.length c] rfl 40 (ZT.out w hw)⟩) ?_
      simp only [Act.put, List.setIfInBounds_toArray, List.set_cons_zero, List.set_cons_succ]
      refine laneO_run 7 (by kernel_rfl) ?_
      simp only [List.take_succ_cons, List.take_zero, List.drop_succ_cons, List.drop_zero]
      repeat (go_big_quiet_step (fail))
      refine wpQuiet_nil ?_
      refine laneO_call (v := .bool b) (by kernel_rfl) (by rfl) (fun C hC h0 => ?_) ?_
      focus (go_big_quiet_op; exact ⟨_, fun w hw => (BL.out w (h0 _ hw)).mono fun e w' ⟨he, hb⟩ => ⟨he, hC _ _ hw hb⟩, rfl⟩)
      simp only [Act.put, List.setIfInBounds_toArray, List.set_cons_zero, List.set_cons_succ]
      refine laneO_end0 rfl rfl fun w3 hb0 => ?_
      have B3 := Lib.hid (B.out.trans (Below.mono hb0 B.out.size))
      have X3 := Lib.hid (X.out.under hb0 X.out.size)
      clear y0 y1 y2 ZT BL hb0 B X
      cases b
      · have hE := Lib.hid (show k = E by have h1 := TL2.out; have h2 := HE.out; rw [if_neg (by decide)] at h1; omega)
        go_wp2_with fail
        go_ret
        exact ⟨ret_int (by rw [hE.out]), B3.out⟩
      · have hE : Hid ((k + 1) + ((L.drop (k + 1)).takeWhile fun x => belowZ L x.id id).length = E) := Lib.hid (by have h1 := TL2.out; have h2 := HE.out; rw [if_pos rfl] at h1; omega)
        clear TL2 HE
        go_wp2_with fail
        go_roundw
        case rel => exact ⟨k + 1, by omega, by go_num, hE, B3, X3⟩
        case measure => simp [intOf]; omega
    · have hki : ¬ (k : Int) < L.length := by omega
      have d1 : decide ((k : Int) < L.length) = false := by rw [decide_eq_false_iff_not]; exact hki
      have hE := Lib.hid (show k = E by
        have h2 := HE.out
        rw [List.drop_eq_nil_of_le (by omega)] at h2
        simpa using h2)
      clear HE
      go_upto_region 2 with fail
      refine region_lane [] (List.range 15) [15] (by kernel_rfl) (by kernel_rfl) (fun _ _ _ _ _ h => h) ?_
      simp only [pick, List.map_nil]
      refine wpQuiet_nil ⟨rfl, ?_⟩
      rw [show List.range 15 = [0, 1, 2, 3, 4, 5, 6, 7, 8, 9, 10, 11, 12, 13, 14] from rfl]
      simp only [List.map_cons, List.map_nil, List.getD_cons_zero, List.getD_cons_succ, List.drop_succ_cons, List.drop_zero]
      refine laneO_run 3 (by kernel_rfl) ?_
      simp only [List.take_succ_cons, List.take_zero, List.drop_succ_cons, List.drop_zero]
      repeat (go_big_quiet_step (fail))
      refine wpQuiet_nil ?_
      refine laneO_fixed (v := .int .i64 L.length) (by kernel_rfl) (fun w hw => .inl ⟨by rfl, ?_⟩) ?_
      focus (unfold gives; simp [go_sem]; exact Behind.refl w)
      simp only [Act.put, List.setIfInBounds_toArray, List.set_cons_zero, List.set_cons_succ]
      refine laneO_run 2 (by kernel_rfl) ?_
      simp only [List.take_succ_cons, List.take_zero, List.drop_succ_cons, List.drop_zero]
      repeat (go_big_quiet_step (fail))
      refine wpQuiet_nil ?_
      refine laneO_skip (by kernel_rfl) (by rfl) ?_
      simp only [Act.put, List.setIfInBounds_toArray, List.set_cons_zero, List.set_cons_succ]
      refine laneO_skip (by kernel_rfl) (by rfl) ?_
      simp only [Act.put, List.setIfInBounds_toArray, List.set_cons_zero, List.set_cons_succ]
      refine laneO_skip (by kernel_rfl) (by rfl) ?_
      simp only [Act.put, List.setIfInBounds_toArray, List.set_cons_zero, List.set_cons_succ]
      refine laneO_skip (by kernel_rfl) (by rfl) ?_
      simp only [Act.put, List.setIfInBounds_toArray, List.set_cons_zero, List.set_cons_succ]
      refine laneO_skip (by kernel_rfl) (by rfl) ?_
      simp only [Act.put, List.setIfInBounds_toArray, List.set_cons_zero, List.set_cons_succ]
      refine laneO_skip (by kernel_rfl) (by rfl) ?_
      simp only [Act.put, List.setIfInBounds_toArray, List.set_cons_zero, List.set_cons_succ]
      refine laneO_skip (by kernel_rfl) (by rfl) ?_
      simp only [Act.put, List.setIfInBounds_toArray, List.set_cons_zero, List.set_cons_succ]
      refine laneO_skip (by kernel_rfl) (by rfl) ?_
      simp only [Act.put, List.setIfInBounds_toArray, List.set_cons_zero, List.set_cons_succ]
      refine laneO_skip (by kernel_rfl) (by rfl) ?_
      simp only [Act.put, List.setIfInBounds_toArray, List.set_cons_zero, List.set_cons_succ]
      refine laneO_end0 rfl rfl fun w3 hb0 => ?_
      have B3 := Lib.hid (B.out.trans (Below.mono hb0 B.out.size))
      clear y0 y1 ZT hb0 B X
      go_wp2_with fail
      go_ret
      exact ⟨ret_int (by rw [hE.out]), B3.out⟩
end Go.Proofs.YtbhdpfacfgldiaaGreatDoor
/- A region that draws its order and writes below what it began with, but not below B. No program is named here. -/
namespace Go.Proofs.YtbhdpfacfgldiaaGreatDoor
open Go Go.RowKit
set_option linter.unusedVariables false
set_option linter.unusedSimpArgs false

def topFB0 (ops : Array Oper) (size : Nat) (ps fl ts : List Nat) : Bool :=
  Region.noSelect ops && pureB .any ops ps (Array.replicate ops.size false) && pureB .any ops fl (firstAll ops.size ps) && turnB .any ops ts (firstAll ops.size (ps ++ fl)) && decide (ps.length + (fl.length + ts.length) = ops.size)
/-- ps hang on no world; fl read what stands below B; then the tail ts in its order. -/
theorem region_floatB {P : Program} {id B : Nat} {Q : Exit → Act → World → Prop} {a : Act} {w : World} {l : List Oper} (ps fl ts : List Nat) (hm : P.follows .mixedOrders = true) (hB : topFB0 l.toArray a.tmps.size ps fl ts = true) 
    (hQ : ∀ c (a : Act) (d : Tmp) v w, Q (.panic c) (a.put (some d) v) w → Q (.panic c) a w)
    (h : wpQuiet P l.toArray (fun _ => True) (fun a1 => wpQuiet P l.toArray (fun w' => ∃ s : Later B w, w' = s.w) (fun a2 => ∀ w', Behind w w' → wpTail P l.toArray Q (Below B w) (pick l ts) a2 w') (pick l fl) a1) (pick l ps) a) : (Code.region id l.toArray true).wp P Q a w := by
  simp only [topFB0, Bool.and_eq_true, decide_eq_true_eq] at hB
  obtain ⟨⟨⟨⟨hsel, hp⟩, hfl⟩, hseq⟩, hlen⟩ := hB
  refine wp_region_any hm ?_
  have hfold : fl.foldl (fun L k => L.setIfInBounds k true) (firstAll l.toArray.size ps) = firstAll l.toArray.size (ps ++ fl) := by simp [firstAll, List.foldl_append]
  have key : ∀ fuel, fuel = ps.length + (fl.length + ts.length) → wpAny P .any l.toArray Q fuel (Array.replicate l.toArray.size false) a { w with drawn := w.drawn + 1 } := by
    intro fuel hfuel
    rw [hfuel]
    rw [← pick_eq ps (by simpa using pure_lt ps _ hp)] at h
    refine pure_first hsel hQ ps _ a hp h fun a1 h1 => ?_
    rw [← pick_eq fl (by simpa using pure_lt fl _ hfl)] at h1
    have hd : Below B w { w with drawn := w.drawn + 1 } := ⟨rfl, rfl, rfl, Nat.le_refl _, fun _ _ => rfl⟩
    refine wpAny_of_C (C := Below B w) _ _ _ _ (float_first hsel hQ hd fl _ a1 hfl (wpQuiet_class (fun w' => ⟨fun hb => ⟨⟨w', hb⟩, rfl⟩, fun ⟨s, e⟩ => e ▸ s.h⟩) _ _ h1) fun a2 h2 => ?_)
    show wpAnyC P .any l.toArray Q (Below B w) _ (fl.foldl (fun L k => L.setIfInBounds k true) (firstAll l.toArray.size ps)) a2 _
    rw [hfold]
    refine anyC_of_turn ts _ a2 _ hseq ?_
    rw [pick_eq ts (by simpa using turn_lt ts _ hseq)]
    exact h2 _ (Behind.drawn w)
  exact key _ hlen.symm
end Go.Proofs.YtbhdpfacfgldiaaGreatDoor
/- FormatInt at base 10, whatever the table of powers holds: a text of 22 bytes at most. -/
namespace Go.Proofs.YtbhdpfacfgldiaaGreatDoor
open Go Go.RowKit
set_option linter.unusedVariables false
set_option linter.unusedSimpArgs false
set_option maxRecDepth 20000
set_option maxHeartbeats 4000000

/-- The table of powers holds some numbers. -/
def PowTab (w : World) : Prop := ∀ i : Nat, i < 20 → ∃ z : Int, w.cell? ⟨3, i, none⟩ = some (.int .u64 z)
theorem PowTab.below {B : Nat} {w w' : World} (h : PowTab w) (hb : Below B w w') (hg : 3 < B) : PowTab w' := fun i hi => by
  obtain ⟨z, hz⟩ := h i hi
  exact ⟨z, (hb.cell (p := ⟨3, i, none⟩) hg).trans hz⟩
theorem numDigits_some (u : Nat) (h1 : 1 ≤ u) (h2 : u < 18446744073709551616) (w : World) (hP : PowTab w) :
    Calls Tryz.prog 129 #[.int .u64 u] w fun e w' => ∃ d : Nat, e = .returned (.int .i64 d) ∧ d ≤ 20 ∧ w' = w := by
  have hL : Lib.bitLen u ≤ 64 := Lib.bitLen_le u 64 (Nat.le_refl _) h2
  have hl : Lib.l10 (Lib.bitLen u) ≤ 19 := by unfold Lib.l10; omega
  have CL := Lib.hid (Tryz.bits_Len64 u w (by omega) (by omega))
  rw [Int.toNat_natCast] at CL
  have CT := Lib.hid (Tryz.internal_strconv_log10Pow2 (Lib.bitLen u) hL w)
  have CB := Lib.hid (fun b => Tryz.internal_strconv_bool2_int b w)
  generalize Lib.bitLen u = L at *
  generalize Lib.l10 L = q at *
  obtain ⟨z, hz⟩ := hP q (by omega)
  have hq : (q : Int) < 20 := by omega
  have hq2 : q < 20 := by omega
  clear hL hP
  by_cases hzu : z ≤ (u : Int)
  · have zz : decide (z ≤ (u : Int)) = true := decide_eq_true hzu
    go_enter Tryz.func129, Tryz.ntmps129
    go_wp2_with fail
    refine CL.out.mono ?_
    rintro e w' ⟨rfl, rfl⟩
    go_wp2_with fail
    refine CT.out.mono ?_
    rintro e w' ⟨rfl, rfl⟩
    go_wp2_with fail
    refine (CB.out true).mono ?_
    rintro e w' ⟨rfl, rfl⟩
    go_wp2_with fail
    go_ret
    exact ⟨q + 1, ret_int (by simp), by omega, rfl⟩
  · have zz : decide (z ≤ (u : Int)) = false := decide_eq_false hzu
    go_enter Tryz.func129, Tryz.ntmps129
    go_wp2_with fail
    refine CL.out.mono ?_
    rintro e w' ⟨rfl, rfl⟩
    go_wp2_with fail
    refine CT.out.mono ?_
    rintro e w' ⟨rfl, rfl⟩
    go_wp2_with fail
    refine (CB.out false).mono ?_
    rintro e w' ⟨rfl, rfl⟩
    go_wp2_with fail
    go_ret
    exact ⟨q, ret_int (by simp), by omega, rfl⟩
theorem Byt.list {w : World} {g N : Nat} {t : TypeId} (h : Byt w g t N) : ∃ l : List UInt8, l.length = N ∧ ∀ j (hj : j < l.length), w.cell? ⟨g, j, none⟩ = some (.int .u8 (l[j].toNat : Int)) := by
  obtain ⟨cs, h1, h2, h3⟩ := h
  have key : ∀ cs : List Value, (∀ v ∈ cs, ∃ z : Int, v = .int .u8 z ∧ 0 ≤ z ∧ z < 256) → ∃ l : List UInt8, cs = l.map fun b => .int .u8 (b.toNat : Int) := fun cs => by
    induction cs with
    | nil => intro _; exact ⟨[], rfl⟩
    | cons v cs ih =>
      intro hv
      obtain ⟨l, hl⟩ := ih fun x hx => hv x (List.mem_cons_of_mem _ hx)
      obtain ⟨z, rfl, z0, z1⟩ := hv _ (List.mem_cons_self ..)
      refine ⟨UInt8.ofNat z.toNat :: l, ?_⟩
      rw [List.map_cons, ← hl]
      have : ((UInt8.ofNat z.toNat).toNat : Int) = z := by
        rw [UInt8.toNat_ofNat']; omega
      rw [this]
  obtain ⟨l, rfl⟩ := key cs h3
  refine ⟨l, by simpa using h2, fun j hj => ?_⟩
  rw [h1.cell j]
  simp [hj]
/-- Some bytes of a row as a text. -/
theorem byt_text {w : World} {g N : Nat} {t : TypeId} (h : Byt w g t N) (off n cap : Nat) (hn : off + n ≤ N) :
    ∃ s : ByteArray, s.size = n ∧ (convert 116 9 (.slice (some ⟨g, off, none⟩) n cap)).run Tryz.prog w = .ok (.string s) w := by
  obtain ⟨l, hl, hc⟩ := h.list
  have hlen : ((l.drop off).take n).length = n := by simp; omega
  have h := run_convert_bytes_back (P := Tryz.prog) w 116 9 5 ⟨g, off, none⟩ cap ((l.drop off).take n) Tryz.underlying116 Tryz.underlying5 Tryz.underlying9 (fun j hj => by
    rw [hlen] at hj
    have e : ((⟨g, off, none⟩ : Addr).add j) = ⟨g, off + j, none⟩ := by unfold Addr.add; simp
    rw [e, hc (off + j) (by omega)]
    simp)
  rw [hlen] at h
  exact ⟨_, by show ((l.drop off).take n).toArray.size = n; simp; omega, h⟩
theorem arr24 : Tryz.prog.arrayLen 180 = 24 := by simp [Program.arrayLen, Tryz.underlying180]
theorem byt_zeros (w : World) : Byt (w.alloc (.cells Lib.zeros24 180)) w.heap.size 180 24 :=
  ⟨Lib.zeros24.toList, Whole.mk w _ _, rfl, fun v hv => ⟨0, by simp [Lib.zeros24] at hv; exact hv, by omega, by omega⟩⟩
theorem fint_small (n : Nat) (hn : n < 100) (W : World) : Calls Tryz.prog 128 #[.int .i64 n] W fun e w' => ∃ s : ByteArray, e = .returned (.string s) ∧ s.size ≤ 22 ∧ w' = W := by
  refine (Tryz.internal_strconv_small n hn W).mono ?_
  rintro e w' ⟨rfl, rfl⟩
  refine ⟨_, rfl, ?_, rfl⟩
  show (Lib.decDigits n).toArray.size ≤ 22
  rw [List.size_toArray, Lib.decDigits_length]
  by_cases h0 : n = 0
  · subst h0; decide +kernel
  · have := Lib.numDigits_eq n (by omega) (by omega)
    split at this <;> omega
theorem fint_any (n : Int) (h0 : -4611686018427387904 ≤ n) (h1 : n ≤ 4611686018427387904) (W : World) (hP : PowTab W) (hg : 3 < W.heap.size) :
    Calls Tryz.prog 127 #[.int .i64 n, .int .i64 10] W fun e w' => ∃ s : ByteArray, e = .returned (.string s) ∧ s.size ≤ 22 ∧ Below W.heap.size W w' := by
  by_cases hs : 0 ≤ n ∧ n < 100
  · obtain ⟨i, rfl⟩ : ∃ i : Nat, n = i := ⟨n.toNat, by omega⟩
    have SM := Lib.hid (fint_small i (by omega) W)
    have z1 : decide ((0 : Int) ≤ (i : Int)) = true := decide_eq_true (by omega)
    have z2 : decide ((i : Int) < 100) = true := decide_eq_true (by omega)
    go_enter Tryz.func127, Tryz.ntmps127
    go_wp2_with fail
    refine SM.out.mono ?_
    rintro e w' ⟨s, rfl, hs2, rfl⟩
    go_wp2_with fail
    go_ret
    exact ⟨s, rfl, hs2, Below.refl _ _⟩
  · by_cases hneg : n < 0
    · obtain ⟨u, rfl⟩ : ∃ u : Nat, n = -(u : Int) := ⟨n.natAbs, by omega⟩
      have hwr : IntKind.u64.wrap (-IntKind.u64.wrap (-(u : Int))) = (u : Int) := by rw [IntKind.wrap_u64, IntKind.wrap_u64]; omega
      have zn : decide (-(u : Int) < 0) = true := decide_eq_true (by omega)
      have zm : decide ((0 : Int) ≤ -(u : Int)) = false := decide_eq_false (by omega)
      have B0 := Lib.hid ((Below.refl W.heap.size W).alloc (Nat.le_refl _) (.cells Lib.zeros24 180))
      have Y0 := Lib.hid (byt_zeros W)
      have ND := Lib.hid (numDigits_some u (by omega) (by omega) _ (hP.below B0.out hg))
      have hu64 : (0 : Int) ≤ (u : Int) ∧ (u : Int) < 18446744073709551616 := by omega
      clear hs
      go_enter Tryz.func127, Tryz.ntmps127
      go_wp2_with fail
      refine ND.out.mono ?_
      rintro e w1 ⟨d, rfl, hd, rfl⟩
      have hd2 : (d : Int) ≤ 20 := by omega
      have hsl1 : ∀ w, (Instr.sliceAt 180 (.pointer (some ⟨W.heap.size, 0, none⟩)) (some (.int .i64 1)) (some (.int .i64 (1 + (d : Int)))) none).run Tryz.prog w = .ok (.slice (some ⟨W.heap.size, 1, none⟩) d 23) w := fun w => by
        rw [run_sliceAt_array_lh w 180 ⟨W.heap.size, 0, none⟩ Tryz.underlying180 .i64 .i64 1 (1 + (d : Int)) (by omega) (by omega) (by rw [arr24]; omega)]
        go_simp
        omega
      have FB := Lib.hid (fb_any W.heap.size 1 d 24 23 180 (by omega) (by omega) (by omega) u hu64 _ Y0.out)
      go_wp2_with fail
      refine FB.out.mono ?_
      rintro e w2 ⟨rfl, y2, o2⟩
      have Y2 := Lib.hid y2
      have B2 := Lib.hid (B0.out.trans (o2.below (B := W.heap.size) (by simp) (by simp)))
      clear y2 o2 FB Y0 B0 hsl1 ND
      obtain ⟨z0, c0, -⟩ := Y2.out.cell (j := 0) (by omega)
      have f0 := Y2.out.free 0
      have Y3 := Lib.hid (Y2.out.put 0 45 (by omega))
      have B3 := Lib.hid (B2.out.setCell (p := ⟨W.heap.size, 0, none⟩) (by simp) (.int .u8 45))
      obtain ⟨s, hsz, hcv⟩ := byt_text Y3.out 0 (1 + d) 24 (by omega)
      have hsl2 : ∀ w, (Instr.sliceAt 180 (.pointer (some ⟨W.heap.size, 0, none⟩)) none (some (.int .i64 (1 + (d : Int)))) none).run Tryz.prog w = .ok (.slice (some ⟨W.heap.size, 0, none⟩) (1 + d) 24) w := fun w => by
        rw [run_sliceAt_array_h w 180 ⟨W.heap.size, 0, none⟩ Tryz.underlying180 .i64 (1 + (d : Int)) (by omega) (by rw [arr24]; omega)]
        go_simp
        omega
      go_wp2
      go_ret
      exact ⟨s, rfl, by omega, B3.out⟩
    · obtain ⟨u, rfl⟩ : ∃ u : Nat, n = (u : Int) := ⟨n.toNat, by omega⟩
      have hwr : IntKind.u64.wrap (u : Int) = (u : Int) := by rw [IntKind.wrap_u64]; omega
      have zn : decide ((u : Int) < 0) = false := decide_eq_false (by omega)
      have zm : decide ((0 : Int) ≤ (u : Int)) = true := decide_eq_true (by omega)
      have zk : decide ((u : Int) < 100) = false := decide_eq_false (by omega)
      have B0 := Lib.hid ((Below.refl W.heap.size W).alloc (Nat.le_refl _) (.cells Lib.zeros24 180))
      have Y0 := Lib.hid (byt_zeros W)
      have ND := Lib.hid (numDigits_some u (by omega) (by omega) _ (hP.below B0.out hg))
      have hu64 : (0 : Int) ≤ (u : Int) ∧ (u : Int) < 18446744073709551616 := by omega
      clear hs
      go_enter Tryz.func127, Tryz.ntmps127
      go_wp2_with fail
      refine ND.out.mono ?_
      rintro e w1 ⟨d, rfl, hd, rfl⟩
      have hd2 : (d : Int) ≤ 20 := by omega
      have hsl1 : ∀ w, (Instr.sliceAt 180 (.pointer (some ⟨W.heap.size, 0, none⟩)) (some (.int .i64 1)) (some (.int .i64 (1 + (d : Int)))) none).run Tryz.prog w = .ok (.slice (some ⟨W.heap.size, 1, none⟩) d 23) w := fun w => by
        rw [run_sliceAt_array_lh w 180 ⟨W.heap.size, 0, none⟩ Tryz.underlying180 .i64 .i64 1 (1 + (d : Int)) (by omega) (by omega) (by rw [arr24]; omega)]
        go_simp
        omega
      have FB := Lib.hid (fb_any W.heap.size 1 d 24 23 180 (by omega) (by omega) (by omega) u hu64 _ Y0.out)
      go_wp2_with fail
      refine FB.out.mono ?_
      rintro e w2 ⟨rfl, y2, o2⟩
      have Y2 := Lib.hid y2
      have B2 := Lib.hid (B0.out.trans (o2.below (B := W.heap.size) (by simp) (by simp)))
      clear y2 o2 FB Y0 B0 hsl1 ND
      obtain ⟨s, hsz, hcv⟩ := byt_text Y2.out 1 d 23 (by omega)
      have hsl1 : ∀ w, (Instr.sliceAt 180 (.pointer (some ⟨W.heap.size, 0, none⟩)) (some (.int .i64 1)) (some (.int .i64 (1 + (d : Int)))) none).run Tryz.prog w = .ok (.slice (some ⟨W.heap.size, 1, none⟩) d 23) w := fun w => by
        rw [run_sliceAt_array_lh w 180 ⟨W.heap.size, 0, none⟩ Tryz.underlying180 .i64 .i64 1 (1 + (d : Int)) (by omega) (by omega) (by rw [arr24]; omega)]
        go_simp
        omega
      go_wp2
      go_ret
      exact ⟨s, rfl, by omega, B2.out⟩
end Go.Proofs.YtbhdpfacfgldiaaGreatDoor
/- The words of each Prop. No program is named here. -/
set_option linter.unusedVariables false
set_option linter.unusedSimpArgs false
namespace Go.Proofs.YtbhdpfacfgldiaaGreatDoor
open Go.RowKit

def wordsS (p : Int) : List ByteArray :=
  if p = 1 then [⟨#[98, 108, 111, 99, 107]⟩, ⟨#[105, 110, 108, 105, 110, 101]⟩, ⟨#[102, 108, 101, 120]⟩, ⟨#[110, 111, 110, 101]⟩]
  else if p = 20 then [⟨#[114, 111, 119]⟩, ⟨#[114, 111, 119, 45, 114, 101, 118, 101, 114, 115, 101]⟩, ⟨#[99, 111, 108, 117, 109, 110]⟩, ⟨#[99, 111, 108, 117, 109, 110, 45, 114, 101, 118, 101, 114, 115, 101]⟩]
  else if p = 21 then [⟨#[110, 111, 119, 114, 97, 112]⟩, ⟨#[119, 114, 97, 112]⟩, ⟨#[119, 114, 97, 112, 45, 114, 101, 118, 101, 114, 115, 101]⟩]
  else if p = 26 then [⟨#[115, 116, 97, 114, 116]⟩, ⟨#[101, 110, 100]⟩, ⟨#[99, 101, 110, 116, 101, 114]⟩, ⟨#[98, 101, 116, 119, 101, 101, 110]⟩, ⟨#[97, 114, 111, 117, 110, 100]⟩]
  else if p = 27 then [⟨#[115, 116, 97, 114, 116]⟩, ⟨#[101, 110, 100]⟩, ⟨#[99, 101, 110, 116, 101, 114]⟩, ⟨#[115, 116, 114, 101, 116, 99, 104]⟩]
  else if p = 28 then [⟨#[97, 117, 116, 111]⟩, ⟨#[115, 116, 97, 114, 116]⟩, ⟨#[101, 110, 100]⟩, ⟨#[99, 101, 110, 116, 101, 114]⟩, ⟨#[115, 116, 114, 101, 116, 99, 104]⟩]
  else if p = 29 then [⟨#[108, 101, 102, 116]⟩, ⟨#[114, 105, 103, 104, 116]⟩, ⟨#[99, 101, 110, 116, 101, 114]⟩]
  else if p = 30 then [⟨#[110, 111, 114, 109, 97, 108]⟩, ⟨#[110, 111, 119, 114, 97, 112]⟩, ⟨#[112, 114, 101]⟩]
  else if p = 32 then [⟨#[118, 105, 115, 105, 98, 108, 101]⟩, ⟨#[104, 105, 100, 100, 101, 110]⟩]
  else []
theorem wordsS_length (p : Int) : ((wordsS p).length : Int) = wordsN p := by
  by_cases h : p = 1 ∨ p = 20 ∨ p = 21 ∨ p = 26 ∨ p = 27 ∨ p = 28 ∨ p = 29 ∨ p = 30 ∨ p = 32
  · rcases h with rfl | rfl | rfl | rfl | rfl | rfl | rfl | rfl | rfl <;> rfl
  · have h1 : p ≠ 1 := by omega
    have h2 : p ≠ 20 := by omega
    have h3 : p ≠ 21 := by omega
    have h4 : p ≠ 26 := by omega
    have h5 : p ≠ 27 := by omega
    have h6 : p ≠ 28 := by omega
    have h7 : p ≠ 29 := by omega
    have h8 : p ≠ 30 := by omega
    have h9 : p ≠ 32 := by omega
    unfold wordsS wordsN
    simp [h1, h2, h3, h4, h5, h6, h7, h8, h9]
def strs (l : List ByteArray) : List Value := l.map Value.string
theorem strs_length (l : List ByteArray) : (strs l).length = l.length := by simp [strs]
end Go.Proofs.YtbhdpfacfgldiaaGreatDoor
/- (*strings.Builder).copyCheck and WriteString. -/
namespace Go.Proofs.YtbhdpfacfgldiaaGreatDoor
open Go Go.RowKit
set_option linter.unusedVariables false
set_option linter.unusedSimpArgs false
set_option maxRecDepth 100000
set_option maxHeartbeats 2000000

theorem bld_info : (Tryz.prog.info? 118).map (·.size) = some 2 := by kernel_rfl
theorem bld_lies : liesAt Tryz.prog Tryz.prog.depth 118 (2 / Tryz.prog.cellsOf 118) 0 118 1 = true := by kernel_rfl
theorem ccheck_used (b : Nat) (w : World) (h0 : w.cell? ⟨b, 0, none⟩ = some (.pointer (some ⟨b, 0, none⟩))) :
    Calls Tryz.prog 93 #[.pointer (some ⟨b, 0, none⟩)] w fun e w' => e = .returned (.tuple #[]) ∧ w' = w := by
  obtain ⟨j, hj, _⟩ := Option.map_eq_some_iff.1 bld_info
  go_enter Tryz.func93, Tryz.ntmps93
  go_wp2
  rw [Lib.run_neq_ptr_same w _ Tryz.underlying115 hj]
  go_wp2
  go_end0
  exact ⟨rfl, rfl⟩
theorem ccheck_fresh (b : Nat) (w : World) (h0 : w.cell? ⟨b, 0, none⟩ = some (.pointer none)) (hsh : w.shape? b = some (118, 2)) (hfz : w.frozen? ⟨b, 0, none⟩ = false) :
    Calls Tryz.prog 93 #[.pointer (some ⟨b, 0, none⟩)] w fun e w' => e = .returned (.tuple #[]) ∧ w' = w.setCell ⟨b, 0, none⟩ (.pointer (some ⟨b, 0, none⟩)) := by
  obtain ⟨j, hj, hjs⟩ := Option.map_eq_some_iff.1 bld_info
  go_enter Tryz.func93, Tryz.ntmps93
  go_wp2
  rw [Lib.run_to_unsafe w ⟨b, 0, none⟩ Tryz.underlying115 Tryz.underlying140 hj (by rw [hjs]; decide) hsh (Nat.zero_lt_succ 1)]
  simp only [Result.andThen]
  rw [Oper.upon_value]
  go_wp2
  rw [run_callFunc_extern Tryz.func96 (by kernel_rfl) (by kernel_rfl) (by kernel_rfl) (e := Extern.AbiNoEscape.same) (by kernel_rfl)]
  rw [Lib.run_noEscape]
  simp only [Result.andThen]
  rw [Oper.upon_value]
  go_wp2
  rw [Lib.run_from_unsafe w ⟨b, 0, none⟩ Tryz.underlying140 Tryz.underlying115 hj hsh bld_lies]
  simp only [Result.andThen]
  rw [Oper.upon_value]
  go_wp2
  go_end0
  exact ⟨rfl, rfl⟩
theorem ccheck_any (B b : Nat) (bs : List Value) (w : World) (h : Lib.IsBuilder 118 5 B b bs w) :
    Calls Tryz.prog 93 #[.pointer (some ⟨b, 0, none⟩)] w fun e w' => e = .returned (.tuple #[]) ∧ (Lib.BuilderAt 118 5 B b (.pointer (some ⟨b, 0, none⟩)) bs w' ∧ Below B w w') := by
  rcases h with h | h
  · refine (ccheck_fresh b w h.cell0 h.shape h.frozen0).mono ?_
    rintro e w' ⟨rfl, rfl⟩
    exact ⟨rfl, h.used _, (Below.refl B w).setCell (p := ⟨b, 0, none⟩) h.1 _⟩
  · refine (ccheck_used b w h.cell0).mono ?_
    rintro e w' ⟨rfl, rfl⟩
    exact ⟨rfl, h, Below.refl _ _⟩
theorem u8_info : (Tryz.prog.info? 5).map (fun i => (i.zero, i.size, i.bytes)) = some (some (.int .u8 0), 1, 1) := by kernel_rfl
theorem wstr_any (B b : Nat) (bs : List Value) (s : ByteArray) (w : World) (h : Lib.IsBuilder 118 5 B b bs w) (hlen : bs.length + s.size ≤ 140737488355328) (hBw : B ≤ w.heap.size) :
    Calls Tryz.prog 83 #[.pointer (some ⟨b, 0, none⟩), .string s] w fun e w' => e = .returned (.tuple #[.int .i64 s.size, .nilIface]) ∧ (Lib.BuilderAt 118 5 B b (.pointer (some ⟨b, 0, none⟩)) (bs ++ Lib.strCells s) w' ∧ Below B w w') := by
  obtain ⟨i0, hi, hz0, hz1, hz2⟩ := info_parts u8_info
  have CC := Lib.hid (ccheck_any B b bs w h)
  go_enter Tryz.func83, Tryz.ntmps83
  go_wp2_with fail
  refine CC.out.mono ?_
  rintro e w1 ⟨rfl, h1, hb1⟩
  obtain ⟨hB, v, hbk, hown, hne⟩ := h1
  have c0 : w1.cell? ⟨b, 0, none⟩ = some (.pointer (some ⟨b, 0, none⟩)) := by rw [Lib.cell_of_heap hbk]; rfl
  have c1 : w1.cell? ⟨b, 1, none⟩ = some v := by rw [Lib.cell_of_heap hbk]; rfl
  go_wp2_with (at_builtin; refine Lib.wpList_append_own_string _ rfl _ _ 116 9 rfl B 5 i0 Tryz.underlying116 Tryz.underlying9 hi hz0 hz1 hz2 _ _ _ rfl hown s rfl ?c3 ?c4 ?c5 ?_)
  case c3 => unfold maxLen; omega
  case c4 => omega
  case c5 => have := hb1.size; omega
  intro v' w2 hown' hgrow _
  have hlt : b < w1.heap.size := by
    rcases Nat.lt_or_ge b w1.heap.size with h' | h'
    · exact h'
    · simp [Array.getElem?_eq_none h'] at hbk
  have hb2 : w2.heap[b]? = some (.cells #[.pointer (some ⟨b, 0, none⟩), v] 118 (0, 0)) := by
    rw [hgrow.block b hlt (fun e => hne e.symm)]
    exact hbk
  have d0 : w2.cell? ⟨b, 0, none⟩ = some (.pointer (some ⟨b, 0, none⟩)) := by rw [Lib.cell_of_heap hb2]; rfl
  have d1 : w2.cell? ⟨b, 1, none⟩ = some v := by rw [Lib.cell_of_heap hb2]; rfl
  have f1 : w2.frozen? ⟨b, 1, none⟩ = false := Lib.frozen_of_heap hb2 1
  obtain ⟨ao, n', cap, rfl⟩ : ∃ ao n' cap, v' = .slice ao n' cap := by
    rcases hown'.2 with ⟨hv, _⟩ | ⟨g, cap, cur, hv, _⟩
    · exact ⟨_, _, _, hv⟩
    · exact ⟨_, _, _, hv⟩
  go_wp2
  go_ret2
  refine ⟨rfl, ?_, ?_⟩
  · exact Lib.BuilderAt.put (T := 118) (e := 5) hB hb2 (bs' := bs ++ Lib.strCells s) (by simpa [Lib.strCells_length] using hown') (by decide)
  · exact (hb1.grown hgrow (by have := hb1.size; omega) (fun k hk => (hown.lt k hk).1)).setCell (p := ⟨b, 1, none⟩) hB _
end Go.Proofs.YtbhdpfacfgldiaaGreatDoor
/- Rows of bytes of one sort. No program is named here. -/
namespace Go.Proofs.YtbhdpfacfgldiaaGreatDoor
set_option linter.unusedVariables false
set_option linter.unusedSimpArgs false
open Go.RowKit

def bytesOf (s : ByteArray) : List UInt8 := s.data.toList
theorem bytesOf_length (s : ByteArray) : (bytesOf s).length = s.size := by simp [bytesOf]
theorem bytesOf_get (s : ByteArray) (k : Nat) (h : k < s.size) : (bytesOf s)[k]'(by rw [bytesOf_length]; exact h) = s[k] := rfl
/-- How many bytes of one sort stand from a place on. -/
def rowN (f : UInt8 → Bool) (l : List UInt8) (at_ : Nat) : Nat := ((l.drop at_).takeWhile f).length
theorem takeWhile_step {f : UInt8 → Bool} : ∀ (l : List UInt8) (k : Nat), k ≤ (l.takeWhile f).length →
    (∀ h : k < l.length, f l[k] = true → k + 1 ≤ (l.takeWhile f).length) ∧ (∀ h : k < l.length, f l[k] = false → k = (l.takeWhile f).length) ∧ (l.length ≤ k → k = (l.takeWhile f).length) ∧ (l.takeWhile f).length ≤ l.length
  | [], k, h => by simp at h ⊢; omega
  | c :: r, k, h => by
    by_cases hc : f c = true
    · rw [List.takeWhile_cons_of_pos hc] at h ⊢
      cases k with
      | zero =>
        have := takeWhile_step (f := f) r 0 (Nat.zero_le _)
        refine ⟨fun _ _ => by simp, fun _ h1 => by simp [hc] at h1, fun h1 => by simp at h1, by simp; exact this.2.2.2⟩
      | succ k =>
        obtain ⟨h1, h2, h3, h4⟩ := takeWhile_step r k (by simpa using h)
        refine ⟨fun h hf => ?_, fun h hf => ?_, fun h => ?_, by simpa using h4⟩
        · have := h1 (by simpa using h) (by simpa using hf); simp; omega
        · have := h2 (by simpa using h) (by simpa using hf); simp; omega
        · have := h3 (by simpa using h); simp; omega
    · rw [List.takeWhile_cons_of_neg hc] at h ⊢
      have hk : k = 0 := by simpa using h
      subst hk
      refine ⟨fun _ h1 => by simp at h1; exact absurd h1 hc, fun _ _ => by simp, fun _ => by simp, by simp⟩
section
variable {f : UInt8 → Bool} {l : List UInt8} {a k : Nat}
theorem rowN_le (f : UInt8 → Bool) (l : List UInt8) (a : Nat) (h : a ≤ l.length) : a + rowN f l a ≤ l.length := by
  have := (takeWhile_step (f := f) (l.drop a) 0 (Nat.zero_le _)).2.2.2
  unfold rowN
  simp at this
  omega
theorem rowN_more (hk : k ≤ rowN f l a) (h : a + k < l.length) (hf : f l[a + k] = true) : k + 1 ≤ rowN f l a := by
  have := (takeWhile_step (f := f) (l.drop a) k hk).1 (by simp; omega)
  simp only [List.getElem_drop] at this
  exact this hf
theorem rowN_stop (hk : k ≤ rowN f l a) (h : a + k < l.length) (hf : f l[a + k] = false) : k = rowN f l a := by
  have := (takeWhile_step (f := f) (l.drop a) k hk).2.1 (by simp; omega)
  simp only [List.getElem_drop] at this
  exact this hf
theorem rowN_end (hk : k ≤ rowN f l a) (h : l.length ≤ a + k) : k = rowN f l a :=
  (takeWhile_step (f := f) (l.drop a) k hk).2.2.1 (by simp; omega)
theorem takeWhile_all : ∀ (l : List UInt8) (k : Nat) (h : k < (l.takeWhile f).length), ∃ h' : k < l.length, f l[k] = true
  | [], k, h => by simp at h
  | c :: r, k, h => by
    by_cases hc : f c = true
    · rw [List.takeWhile_cons_of_pos hc] at h
      cases k with
      | zero => exact ⟨by simp, hc⟩
      | succ k =>
        obtain ⟨h1, h2⟩ := takeWhile_all r k (by simpa using h)
        exact ⟨by simp; omega, by simpa using h2⟩
    · rw [List.takeWhile_cons_of_neg hc] at h
      simp at h
theorem rowN_all (h : k < rowN f l a) : ∃ h' : a + k < l.length, f l[a + k] = true := by
  obtain ⟨h1, h2⟩ := takeWhile_all (f := f) (l.drop a) k h
  simp at h1
  refine ⟨by omega, ?_⟩
  simpa only [List.getElem_drop] using h2
end
def isDig (c : UInt8) : Bool := decide (48 ≤ (c.toNat : Int) ∧ (c.toNat : Int) ≤ 57)
def blankB (c : UInt8) : Bool := decide ((c.toNat : Int) = 32 ∨ (c.toNat : Int) = 9 ∨ (c.toNat : Int) = 10)
def nameB (c : UInt8) : Bool := decide ((97 ≤ (c.toNat : Int) ∧ (c.toNat : Int) ≤ 122) ∨ (c.toNat : Int) = 45)
def valB (c : UInt8) : Bool := decide (((97 ≤ (c.toNat : Int) ∧ (c.toNat : Int) ≤ 122) ∨ (c.toNat : Int) = 45) ∨ (48 ≤ (c.toNat : Int) ∧ (c.toNat : Int) ≤ 57) ∨ (c.toNat : Int) = 46 ∨ (c.toNat : Int) = 37)
end Go.Proofs.YtbhdpfacfgldiaaGreatDoor
/- The document's answer: rows of bytes in a text. -/
namespace Go.Proofs.YtbhdpfacfgldiaaGreatDoor
open Go Go.RowKit
set_option linter.unusedVariables false
set_option linter.unusedSimpArgs false
set_option maxRecDepth 20000
set_option maxHeartbeats 4000000

theorem rblank_any (c : UInt8) (w : World) : Calls Tryz.prog 72 #[.int .u8 c.toNat] w fun e w' => e = .returned (.bool (blankB c)) ∧ w = w' := by
  have hd : blankB c = decide ((c.toNat : Int) = 32 ∨ (c.toNat : Int) = 9 ∨ (c.toNat : Int) = 10) := rfl
  generalize hb : blankB c = b at *
  clear hb
  rcases (show ((c.toNat : Int) = 32) ∨ ((c.toNat : Int) = 9) ∨ ((c.toNat : Int) = 10) ∨ ((c.toNat : Int) ≠ 32 ∧ (c.toNat : Int) ≠ 9 ∧ (c.toNat : Int) ≠ 10) by omega) with h | h | h | h
  · have HR := Lib.hid (hd.trans (decide_eq_true (by omega)))
    have f0 : ((c.toNat : Int) == 32) = true := beq_iff_eq.2 (by omega)
    clear h hd
    go_enter Tryz.func72, Tryz.ntmps72
    go_wp2
    go_ret
    exact ⟨ret_bool HR.out.symm, rfl⟩
  · have HR := Lib.hid (hd.trans (decide_eq_true (by omega)))
    have f0 : ((c.toNat : Int) == 32) = false := beq_eq_false_iff_ne.2 (by omega)
    have f1 : ((c.toNat : Int) == 9) = true := beq_iff_eq.2 (by omega)
    clear h hd
    go_enter Tryz.func72, Tryz.ntmps72
    go_wp2
    go_ret
    exact ⟨ret_bool HR.out.symm, rfl⟩
  · have HR := Lib.hid (hd.trans (decide_eq_true (by omega)))
    have f0 : ((c.toNat : Int) == 32) = false := beq_eq_false_iff_ne.2 (by omega)
    have f1 : ((c.toNat : Int) == 9) = false := beq_eq_false_iff_ne.2 (by omega)
    have f2 : ((c.toNat : Int) == 10) = true := beq_iff_eq.2 (by omega)
    clear h hd
    go_enter Tryz.func72, Tryz.ntmps72
    go_wp2
    go_ret
    exact ⟨ret_bool HR.out.symm, rfl⟩
  · have HR := Lib.hid (hd.trans (decide_eq_false (by omega)))
    have f0 : ((c.toNat : Int) == 32) = false := beq_eq_false_iff_ne.2 (by omega)
    have f1 : ((c.toNat : Int) == 9) = false := beq_eq_false_iff_ne.2 (by omega)
    have f2 : ((c.toNat : Int) == 10) = false := beq_eq_false_iff_ne.2 (by omega)
    clear h hd
    go_enter Tryz.func72, Tryz.ntmps72
    go_wp2
    go_ret
    exact ⟨ret_bool HR.out.symm, rfl⟩
theorem rinName_any (c : UInt8) (w : World) : Calls Tryz.prog 65 #[.int .u8 c.toNat] w fun e w' => e = .returned (.bool (nameB c)) ∧ w = w' := by
  have hd : nameB c = decide ((97 ≤ (c.toNat : Int) ∧ (c.toNat : Int) ≤ 122) ∨ (c.toNat : Int) = 45) := rfl
  generalize hb : nameB c = b at *
  clear hb
  rcases (show (97 ≤ (c.toNat : Int) ∧ (c.toNat : Int) ≤ 122) ∨ ((c.toNat : Int) = 45) ∨ ((c.toNat : Int) < 97 ∧ (c.toNat : Int) ≠ 45) ∨ (122 < (c.toNat : Int)) by omega) with h | h | h | h
  · have HR := Lib.hid (hd.trans (decide_eq_true (by omega)))
    have f0 : decide (97 ≤ (c.toNat : Int)) = true := decide_eq_true (by omega)
    have f1 : decide ((c.toNat : Int) ≤ 122) = true := decide_eq_true (by omega)
    clear h hd
    go_enter Tryz.func65, Tryz.ntmps65
    go_wp2
    go_ret
    exact ⟨ret_bool HR.out.symm, rfl⟩
  · have HR := Lib.hid (hd.trans (decide_eq_true (by omega)))
    have f0 : decide (97 ≤ (c.toNat : Int)) = false := decide_eq_false (by omega)
    have f1 : ((c.toNat : Int) == 45) = true := beq_iff_eq.2 (by omega)
    clear h hd
    go_enter Tryz.func65, Tryz.ntmps65
    go_wp2
    go_ret
    exact ⟨ret_bool HR.out.symm, rfl⟩
  · have HR := Lib.hid (hd.trans (decide_eq_false (by omega)))
    have f0 : decide (97 ≤ (c.toNat : Int)) = false := decide_eq_false (by omega)
    have f1 : ((c.toNat : Int) == 45) = false := beq_eq_false_iff_ne.2 (by omega)
    clear h hd
    go_enter Tryz.func65, Tryz.ntmps65
    go_wp2
    go_ret
    exact ⟨ret_bool HR.out.symm, rfl⟩
  · have HR := Lib.hid (hd.trans (decide_eq_false (by omega)))
    have f0 : decide (97 ≤ (c.toNat : Int)) = true := decide_eq_true (by omega)
    have f1 : decide ((c.toNat : Int) ≤ 122) = false := decide_eq_false (by omega)
    have f2 : ((c.toNat : Int) == 45) = false := beq_eq_false_iff_ne.2 (by omega)
    clear h hd
    go_enter Tryz.func65, Tryz.ntmps65
    go_wp2
    go_ret
    exact ⟨ret_bool HR.out.symm, rfl⟩
theorem rinName_val (c : UInt8) (b : Bool) (h : nameB c = b) (w : World) : Calls Tryz.prog 65 #[.int .u8 c.toNat] w fun e w' => e = .returned (.bool b) ∧ w = w' := h ▸ rinName_any c w
theorem rinValue_any (c : UInt8) (w : World) : Calls Tryz.prog 66 #[.int .u8 c.toNat] w fun e w' => e = .returned (.bool (valB c)) ∧ w = w' := by
  have hd : valB c = decide (((97 ≤ (c.toNat : Int) ∧ (c.toNat : Int) ≤ 122) ∨ (c.toNat : Int) = 45) ∨ (48 ≤ (c.toNat : Int) ∧ (c.toNat : Int) ≤ 57) ∨ (c.toNat : Int) = 46 ∨ (c.toNat : Int) = 37) := rfl
  generalize hb : valB c = b at *
  clear hb
  rcases (show ((97 ≤ (c.toNat : Int) ∧ (c.toNat : Int) ≤ 122) ∨ (c.toNat : Int) = 45) ∨ (48 ≤ (c.toNat : Int) ∧ (c.toNat : Int) ≤ 57) ∨ ((c.toNat : Int) = 46) ∨ ((c.toNat : Int) = 37) ∨ (¬ ((97 ≤ (c.toNat : Int) ∧ (c.toNat : Int) ≤ 122) ∨ (c.toNat : Int) = 45) ∧ (c.toNat : Int) < 48 ∧ (c.toNat : Int) ≠ 46 ∧ (c.toNat : Int) ≠ 37) ∨ (¬ ((97 ≤ (c.toNat : Int) ∧ (c.toNat : Int) ≤ 122) ∨ (c.toNat : Int) = 45) ∧ 57 < (c.toNat : Int)) by omega) with h | h | h | h | h | h
  · have HR := Lib.hid (hd.trans (decide_eq_true (by omega)))
    have HN := Lib.hid (show nameB c = true from decide_eq_true (by omega))
    clear h hd
    go_enter Tryz.func66, Tryz.ntmps66
    go_wp2_with (go_at_call 65; refine (rinName_val c true HN.out _).mono ?_; rintro e w' ⟨rfl, rfl⟩)
    go_ret
    exact ⟨ret_bool HR.out.symm, rfl⟩
  · have HR := Lib.hid (hd.trans (decide_eq_true (by omega)))
    have f0 : decide (48 ≤ (c.toNat : Int)) = true := decide_eq_true (by omega)
    have f1 : decide ((c.toNat : Int) ≤ 57) = true := decide_eq_true (by omega)
    have HN := Lib.hid (show nameB c = false from decide_eq_false (by omega))
    clear h hd
    go_enter Tryz.func66, Tryz.ntmps66
    go_wp2_with (go_at_call 65; refine (rinName_val c false HN.out _).mono ?_; rintro e w' ⟨rfl, rfl⟩)
    go_ret
    exact ⟨ret_bool HR.out.symm, rfl⟩
  · have HR := Lib.hid (hd.trans (decide_eq_true (by omega)))
    have f0 : decide (48 ≤ (c.toNat : Int)) = false := decide_eq_false (by omega)
    have f1 : ((c.toNat : Int) == 46) = true := beq_iff_eq.2 (by omega)
    have HN := Lib.hid (show nameB c = false from decide_eq_false (by omega))
    clear h hd
    go_enter Tryz.func66, Tryz.ntmps66
    go_wp2_with (go_at_call 65; refine (rinName_val c false HN.out _).mono ?_; rintro e w' ⟨rfl, rfl⟩)
    go_ret
    exact ⟨ret_bool HR.out.symm, rfl⟩
  · have HR := Lib.hid (hd.trans (decide_eq_true (by omega)))
    have f0 : decide (48 ≤ (c.toNat : Int)) = false := decide_eq_false (by omega)
    have f1 : ((c.toNat : Int) == 46) = false := beq_eq_false_iff_ne.2 (by omega)
    have f2 : ((c.toNat : Int) == 37) = true := beq_iff_eq.2 (by omega)
    have HN := Lib.hid (show nameB c = false from decide_eq_false (by omega))
    clear h hd
    go_enter Tryz.func66, Tryz.ntmps66
    go_wp2_with (go_at_call 65; refine (rinName_val c false HN.out _).mono ?_; rintro e w' ⟨rfl, rfl⟩)
    go_ret
    exact ⟨ret_bool HR.out.symm, rfl⟩
  · have HR := Lib.hid (hd.trans (decide_eq_false (by omega)))
    have f0 : decide (48 ≤ (c.toNat : Int)) = false := decide_eq_false (by omega)
    have f1 : ((c.toNat : Int) == 46) = false := beq_eq_false_iff_ne.2 (by omega)
    have f2 : ((c.toNat : Int) == 37) = false := beq_eq_false_iff_ne.2 (by omega)
    have HN := Lib.hid (show nameB c = false from decide_eq_false (by omega))
    clear h hd
    go_enter Tryz.func66, Tryz.ntmps66
    go_wp2_with (go_at_call 65; refine (rinName_val c false HN.out _).mono ?_; rintro e w' ⟨rfl, rfl⟩)
    go_ret
    exact ⟨ret_bool HR.out.symm, rfl⟩
  · have HR := Lib.hid (hd.trans (decide_eq_false (by omega)))
    have f0 : decide (48 ≤ (c.toNat : Int)) = true := decide_eq_true (by omega)
    have f1 : decide ((c.toNat : Int) ≤ 57) = false := decide_eq_false (by omega)
    have f2 : ((c.toNat : Int) == 46) = false := beq_eq_false_iff_ne.2 (by omega)
    have f3 : ((c.toNat : Int) == 37) = false := beq_eq_false_iff_ne.2 (by omega)
    have HN := Lib.hid (show nameB c = false from decide_eq_false (by omega))
    clear h hd
    go_enter Tryz.func66, Tryz.ntmps66
    go_wp2_with (go_at_call 65; refine (rinName_val c false HN.out _).mono ?_; rintro e w' ⟨rfl, rfl⟩)
    go_ret
    exact ⟨ret_bool HR.out.symm, rfl⟩
theorem rblank_val (c : UInt8) (b : Bool) (h : blankB c = b) (w : World) : Calls Tryz.prog 72 #[.int .u8 c.toNat] w fun e w' => e = .returned (.bool b) ∧ w = w' := h ▸ rblank_any c w
theorem rinValue_val (c : UInt8) (b : Bool) (h : valB c = b) (w : World) : Calls Tryz.prog 66 #[.int .u8 c.toNat] w fun e w' => e = .returned (.bool b) ∧ w = w' := h ▸ rinValue_any c w
theorem cast_add (a k : Nat) : (Value.int .i64 ((a : Int) + k)) = .int .i64 ((a + k : Nat) : Int) := by push_cast; rfl
theorem rskip_any (s : ByteArray) (a : Nat) (w : World) (hs : s.size ≤ 4611686018427387904) (ha : a ≤ s.size) :
    Calls Tryz.prog 64 #[.string s, .int .i64 a] w fun e w' => e = .returned (.int .i64 ((a + rowN blankB (bytesOf s) a : Nat) : Int)) ∧ w = w' := by
  have HL := Lib.hid (bytesOf_length s)
  go_enter Tryz.func64, Tryz.ntmps64
  go_wp2
  go_loop [1] (fun i => ∃ k : Nat, k ≤ rowN blankB (bytesOf s) a ∧ i = .int .i64 ((a + k : Nat) : Int)) (fun i => s.size - (intOf i).toNat)
  case atStart => exact ⟨0, Nat.zero_le _, rfl⟩
  case round =>
    obtain ⟨k, hk, rfl⟩ := hrel
    have hle := rowN_le blankB (bytesOf s) a (by rw [HL.out]; exact ha)
    rw [HL.out] at hle
    by_cases hlt : a + k < s.size
    · have hi : ((a : Int) + k) < s.size := by omega
      go_wp2_with fail
      cases hb : blankB s[a + k] with
      | true =>
        have HK := Lib.hid (rowN_more hk (by rw [HL.out]; exact hlt) hb)
        refine (rblank_val _ true hb _).mono ?_
        rintro e w' ⟨rfl, rfl⟩
        clear hb
        go_wp2
        go_round
        case rel => exact ⟨k + 1, HK.out, by go_num⟩
        case measure => simp [intOf]; omega
      | false =>
        have HK := Lib.hid (rowN_stop hk (by rw [HL.out]; exact hlt) hb)
        refine (rblank_val _ false hb _).mono ?_
        rintro e w' ⟨rfl, rfl⟩
        clear hb
        go_wp2
        go_ret
        exact ⟨by rw [← HK.out]; first | rfl | (push_cast; rfl), rfl⟩
    · have HK := Lib.hid (rowN_end hk (by rw [HL.out]; omega))
      have hi : ¬ ((a : Int) + k) < s.size := by omega
      go_wp2
      go_ret
      exact ⟨by rw [← HK.out]; first | rfl | (push_cast; rfl), rfl⟩
theorem rdigits_any (s : ByteArray) (a : Nat) (w : World) (hs : s.size ≤ 4611686018427387904) (ha : a ≤ s.size) :
    Calls Tryz.prog 88 #[.string s, .int .i64 a] w fun e w' => e = .returned (.int .i64 (rowN isDig (bytesOf s) a : Nat)) ∧ w = w' := by
  have HL := Lib.hid (bytesOf_length s)
  go_enter Tryz.func88, Tryz.ntmps88
  go_wp2
  go_loop [5] (fun i => ∃ k : Nat, k ≤ rowN isDig (bytesOf s) a ∧ i = .int .i64 (k : Int)) (fun i => s.size - (intOf i).toNat)
  case atStart => exact ⟨0, Nat.zero_le _, rfl⟩
  case round =>
    obtain ⟨k, hk, rfl⟩ := hrel
    have hle := rowN_le isDig (bytesOf s) a (by rw [HL.out]; exact ha)
    rw [HL.out] at hle
    by_cases hlt : a + k < s.size
    · have hi : ((a : Int) + k) < s.size := by omega
      by_cases hb : 48 ≤ (s[a + k].toNat : Int) ∧ (s[a + k].toNat : Int) ≤ 57
      · have HK := Lib.hid (rowN_more hk (by rw [HL.out]; exact hlt) (show isDig s[a + k] = true from decide_eq_true hb))
        obtain ⟨hb1, hb2⟩ := hb
        go_wp2
        go_round
        case rel => exact ⟨k + 1, HK.out, by go_num⟩
        case measure => simp [intOf]; omega
      · have HK := Lib.hid (rowN_stop hk (by rw [HL.out]; exact hlt) (show isDig s[a + k] = false from decide_eq_false hb))
        by_cases hb1 : 48 ≤ (s[a + k].toNat : Int)
        all_goals
          have hb2 : (s[a + k].toNat : Int) < 48 ∨ 57 < (s[a + k].toNat : Int) := by omega
          go_wp2
          all_goals
            go_ret
            exact ⟨by rw [← HK.out]; rfl, rfl⟩
    · have HK := Lib.hid (rowN_end hk (by rw [HL.out]; omega))
      have hi : ¬ ((a : Int) + k) < s.size := by omega
      go_wp2
      go_ret
      exact ⟨by rw [← HK.out]; rfl, rfl⟩
end Go.Proofs.YtbhdpfacfgldiaaGreatDoor
/- Numbers in texts. No program is named here. -/
namespace Go.Proofs.YtbhdpfacfgldiaaGreatDoor
set_option linter.unusedVariables false
set_option linter.unusedSimpArgs false
open Go.RowKit

/-- The value of k digits from a place on, behind a value. -/
def digV (l : List UInt8) (a : Nat) (v : Int) : Nat → Int
  | 0 => v
  | k + 1 => 10 * digV l a v k + (((l.getD (a + k) 48).toNat : Int) - 48)
def negB (l : List UInt8) : Bool := l.head? == some 45
def signZ (ng : Bool) (v : Int) : Int := match ng with | true => -v | false => v
/-- A number of at most ah digits, and bh behind the point, in its last digits; where the rest begins. -/
def numZ (l : List UInt8) (ah bh : Nat) : Option (Int × Nat) :=
  let a := (negB l).toNat
  let n := rowN isDig l a
  if n < 1 ∨ ah < n then none
  else if l[a + n]? = some 46 then
    let k := rowN isDig l (a + n + 1)
    if k < 1 ∨ bh < k then none
    else some (signZ (negB l) (digV l (a + n + 1) (digV l a 0 n) k * 10 ^ (bh - k)), a + n + 1 + k)
  else some (signZ (negB l) (digV l a 0 n * 10 ^ bh), a + n)
theorem digV_bd (l : List UInt8) (a : Nat) (v M : Int) (h0 : 0 ≤ v) (h1 : v < M) : ∀ k, k ≤ rowN isDig l a → 0 ≤ digV l a v k ∧ digV l a v k < M * 10 ^ k
  | 0, _ => by simp [digV]; exact ⟨h0, h1⟩
  | k + 1, hk => by
    obtain ⟨h2, h3⟩ := digV_bd l a v M h0 h1 k (by omega)
    obtain ⟨h4, h5⟩ := rowN_all (f := isDig) (l := l) (a := a) (k := k) (by omega)
    have h6 := of_decide_eq_true h5
    have e : l.getD (a + k) 48 = l[a + k] := by simp [List.getD, h4]
    have e2 : M * 10 ^ (k + 1) = 10 * (M * 10 ^ k) := by rw [Int.pow_succ, ← Int.mul_assoc, Int.mul_comm]
    rw [e2]
    generalize M * 10 ^ k = X at *
    simp only [digV, e]
    omega
theorem pow5 (j : Nat) (h : j ≤ 5) : (1 : Int) ≤ 10 ^ j ∧ (10 : Int) ^ j ≤ 100000 := by
  rcases (show j = 0 ∨ j = 1 ∨ j = 2 ∨ j = 3 ∨ j = 4 ∨ j = 5 by omega) with rfl | rfl | rfl | rfl | rfl | rfl <;> decide
theorem digV_first (l : List UInt8) (a j : Nat) (h5 : j ≤ 5) (h : j ≤ rowN isDig l a) : 0 ≤ digV l a 0 j ∧ digV l a 0 j ≤ 99999 := by
  have h1 := digV_bd l a 0 1 (by omega) (by omega) j h
  have h2 := pow5 j h5
  omega
theorem digV_next (l : List UInt8) (a j : Nat) (v : Int) (h0 : 0 ≤ v) (h1 : v ≤ 99999) (h3 : j ≤ 3) (h : j ≤ rowN isDig l a) : 0 ≤ digV l a v j ∧ digV l a v j ≤ 99999999 := by
  have h2 := digV_bd l a v 100000 (by omega) (by omega) j h
  rcases (show j = 0 ∨ j = 1 ∨ j = 2 ∨ j = 3 by omega) with rfl | rfl | rfl | rfl <;> omega
theorem digV_get (s : ByteArray) (a : Nat) (v : Int) (j : Nat) (h : a + j < s.size) : digV (bytesOf s) a v (j + 1) = 10 * digV (bytesOf s) a v j + ((s[a + j].toNat : Int) - 48) := by
  have h' : a + j < (bytesOf s).length := by rw [bytesOf_length]; exact h
  have e : (bytesOf s).getD (a + j) 48 = s[a + j] := by simp only [List.getD, List.getElem?_eq_getElem h', Option.getD_some]; rfl
  show 10 * digV (bytesOf s) a v j + ((((bytesOf s).getD (a + j) 48).toNat : Int) - 48) = _
  rw [e]; rfl
theorem dig_at (s : ByteArray) (a j : Nat) (h : j < rowN isDig (bytesOf s) a) : ∃ h' : a + j < s.size, 48 ≤ (s[a + j].toNat : Int) ∧ (s[a + j].toNat : Int) ≤ 57 := by
  obtain ⟨h1, h2⟩ := rowN_all h
  exact ⟨by rw [← bytesOf_length]; exact h1, of_decide_eq_true h2⟩
theorem u8_eq {c : UInt8} {n : Nat} (h : (c.toNat : Int) = n) (hn : n < 256) : c = UInt8.ofNat n := by
  apply UInt8.toNat_inj.1
  have : c.toNat = n := by omega
  simp [this]; omega
theorem byte_at (s : ByteArray) (i : Nat) (n : Nat) (hn : n < 256) : ((bytesOf s)[i]? = some (UInt8.ofNat n)) ↔ ∃ h : i < s.size, (s[i].toNat : Int) = n := by
  constructor
  · intro h
    obtain ⟨h1, h2⟩ := List.getElem?_eq_some_iff.1 h
    refine ⟨by rw [← bytesOf_length]; exact h1, ?_⟩
    have h3 : s[i]'(by rw [← bytesOf_length]; exact h1) = UInt8.ofNat n := h2
    rw [h3]
    simp
    omega
  · rintro ⟨h, e⟩
    have h1 : i < (bytesOf s).length := by rw [bytesOf_length]; exact h
    rw [List.getElem?_eq_getElem h1]
    exact congrArg some (u8_eq e hn)
theorem neg_le (l : List UInt8) : (negB l).toNat ≤ l.length := by
  cases l with
  | nil => simp [negB]
  | cons c r => have := Bool.toNat_le (negB (c :: r)); simp; omega
end Go.Proofs.YtbhdpfacfgldiaaGreatDoor
/- Lengths and whole numbers of texts, as the document has them. No program is named here. -/
namespace Go.Proofs.YtbhdpfacfgldiaaGreatDoor
set_option linter.unusedVariables false
set_option linter.unusedSimpArgs false
open Go Go.RowKit

def restIs (l : List UInt8) (r : Nat) (t : List UInt8) : Bool := l.drop r == t
def pixR (l : List UInt8) : Option Int := if l = [48] then some 0 else match numZ l 5 3 with
  | some (v, r) => if restIs l r [112, 120] = true then some (pxZ v) else none
  | none => none
def pctR (l : List UInt8) : Option Int := match numZ l 4 2 with
  | some (v, r) => if restIs l r [37] = true then some v else none
  | none => none
def lenR (l : List UInt8) : Option (Int × Int) := match pixR l with
  | some v => some (1, v)
  | none => match pctR l with
    | some v => some (2, v)
    | none => none
def wholeR (l : List UInt8) (lo hi : Int) : Option Int := match numZ l 4 0 with
  | some (v, r) => if restIs l r [] = true ∧ lo ≤ v ∧ v ≤ hi then some v else none
  | none => none
theorem eq_bytes (s : ByteArray) (t : List UInt8) : (s.toList == t) = (bytesOf s == t) := by rw [ByteArray.toList_eq]; rfl
theorem rest_bytes (s : ByteArray) (r : Nat) (t : List UInt8) : ((s.extract r s.size).toList == t) = restIs (bytesOf s) r t := by
  rw [ByteArray.toList_eq, Lib.extract_to_end]; rfl
theorem times_bd (v : Int) (j : Nat) (h0 : 0 ≤ v) (h1 : v ≤ 99999999) (h : j ≤ 3) : 0 ≤ v * 10 ^ j ∧ v * 10 ^ j ≤ 99999999000 := by
  rcases (show j = 0 ∨ j = 1 ∨ j = 2 ∨ j = 3 by omega) with rfl | rfl | rfl | rfl <;> omega
theorem sign_bd (ng : Bool) (v : Int) (h0 : 0 ≤ v) (h1 : v ≤ 99999999000) : -99999999000 ≤ signZ ng v ∧ signZ ng v ≤ 99999999000 := by
  cases ng <;> simp [signZ] <;> omega
theorem numZ_bd {l : List UInt8} {ah bh : Nat} {v : Int} {r : Nat} (ha : ah ≤ 5) (hb : bh ≤ 3) (h : numZ l ah bh = some (v, r)) : -99999999000 ≤ v ∧ v ≤ 99999999000 := by
  unfold numZ at h
  simp only at h
  split at h
  · cases h
  · rename_i h1
    have d := digV_first l (negB l).toNat (rowN isDig l (negB l).toNat) (by omega) (Nat.le_refl _)
    split at h
    · split at h
      · cases h
      · rename_i h2 h3
        injection h with h
        injection h with h4 h5
        have e := digV_next l ((negB l).toNat + rowN isDig l (negB l).toNat + 1) (rowN isDig l ((negB l).toNat + rowN isDig l (negB l).toNat + 1)) _ d.1 d.2 (by omega) (Nat.le_refl _)
        have t := times_bd _ (bh - rowN isDig l ((negB l).toNat + rowN isDig l (negB l).toNat + 1)) e.1 e.2 (by omega)
        rw [← h4]
        exact sign_bd _ _ t.1 t.2
    · injection h with h
      injection h with h4 h5
      have t := times_bd _ bh d.1 (by omega) hb
      rw [← h4]
      exact sign_bd _ _ t.1 t.2
end Go.Proofs.YtbhdpfacfgldiaaGreatDoor
/- The document's own answer for lengths in pixels (quoinref1), by contracts: the same numbers as package unit's. -/
namespace Go.Proofs.YtbhdpfacfgldiaaGreatDoor
open Go.RowKit
set_option linter.unusedVariables false
set_option linter.unusedSimpArgs false

theorem rhold_any (n : Int) (w : World) :
    Calls Tryz.prog 89 #[.int .i64 n] w fun e w' => e = .returned (.int .i64 (holdZ n)) ∧ w = w' := by
  go_enter Tryz.func89, Tryz.ntmps89
  go_wp2_with (go_at_call 91; refine (rheld_any _ _ _ _).mono ?_; rintro e w' ⟨rfl, rfl⟩)
  go_ret
  exact ⟨ret_int (by unfold holdZ; omega), rfl⟩
theorem rpx_any (t : Int) (w : World) :
    Calls Tryz.prog 81 #[.int .i64 t] w fun e w' => e = .returned (.int .i64 (pxZ t)) ∧ w = w' := by
  go_enter Tryz.func81, Tryz.ntmps81
  go_wp2_with (first
    | (go_at_call 91; refine (rheld_any _ _ _ _).mono ?_; rintro e w' ⟨rfl, rfl⟩)
    | (go_at_call 90; refine (down_any _ _ _ (by omega) (by omega) (by omega) (by omega)).mono ?_; rintro e w' ⟨rfl, rfl⟩)
    | (go_at_call 89; refine (rhold_any _ _).mono ?_; rintro e w' ⟨rfl, rfl⟩))
  go_ret
  exact ⟨ret_int (by unfold pxZ nearZ holdZ; omega), rfl⟩
end Go.Proofs.YtbhdpfacfgldiaaGreatDoor
/- How a text of declarations is read. No program is named here. -/
namespace Go.Proofs.YtbhdpfacfgldiaaGreatDoor
set_option linter.unusedVariables false
set_option linter.unusedSimpArgs false
open Go Go.RowKit

/-- The names, by Prop; none of 0. -/
def namesS : List ByteArray := [⟨#[]⟩,
  ⟨#[100, 105, 115, 112, 108, 97, 121]⟩,
  ⟨#[119, 105, 100, 116, 104]⟩,
  ⟨#[104, 101, 105, 103, 104, 116]⟩,
  ⟨#[109, 105, 110, 45, 119, 105, 100, 116, 104]⟩,
  ⟨#[109, 105, 110, 45, 104, 101, 105, 103, 104, 116]⟩,
  ⟨#[109, 97, 120, 45, 119, 105, 100, 116, 104]⟩,
  ⟨#[109, 97, 120, 45, 104, 101, 105, 103, 104, 116]⟩,
  ⟨#[109, 97, 114, 103, 105, 110, 45, 116, 111, 112]⟩,
  ⟨#[109, 97, 114, 103, 105, 110, 45, 114, 105, 103, 104, 116]⟩,
  ⟨#[109, 97, 114, 103, 105, 110, 45, 98, 111, 116, 116, 111, 109]⟩,
  ⟨#[109, 97, 114, 103, 105, 110, 45, 108, 101, 102, 116]⟩,
  ⟨#[112, 97, 100, 100, 105, 110, 103, 45, 116, 111, 112]⟩,
  ⟨#[112, 97, 100, 100, 105, 110, 103, 45, 114, 105, 103, 104, 116]⟩,
  ⟨#[112, 97, 100, 100, 105, 110, 103, 45, 98, 111, 116, 116, 111, 109]⟩,
  ⟨#[112, 97, 100, 100, 105, 110, 103, 45, 108, 101, 102, 116]⟩,
  ⟨#[98, 111, 114, 100, 101, 114, 45, 116, 111, 112]⟩,
  ⟨#[98, 111, 114, 100, 101, 114, 45, 114, 105, 103, 104, 116]⟩,
  ⟨#[98, 111, 114, 100, 101, 114, 45, 98, 111, 116, 116, 111, 109]⟩,
  ⟨#[98, 111, 114, 100, 101, 114, 45, 108, 101, 102, 116]⟩,
  ⟨#[102, 108, 101, 120, 45, 100, 105, 114, 101, 99, 116, 105, 111, 110]⟩,
  ⟨#[102, 108, 101, 120, 45, 119, 114, 97, 112]⟩,
  ⟨#[102, 108, 101, 120, 45, 98, 97, 115, 105, 115]⟩,
  ⟨#[102, 108, 101, 120, 45, 103, 114, 111, 119]⟩,
  ⟨#[102, 108, 101, 120, 45, 115, 104, 114, 105, 110, 107]⟩,
  ⟨#[111, 114, 100, 101, 114]⟩,
  ⟨#[106, 117, 115, 116, 105, 102, 121, 45, 99, 111, 110, 116, 101, 110, 116]⟩,
  ⟨#[97, 108, 105, 103, 110, 45, 105, 116, 101, 109, 115]⟩,
  ⟨#[97, 108, 105, 103, 110, 45, 115, 101, 108, 102]⟩,
  ⟨#[116, 101, 120, 116, 45, 97, 108, 105, 103, 110]⟩,
  ⟨#[119, 104, 105, 116, 101, 45, 115, 112, 97, 99, 101]⟩,
  ⟨#[108, 105, 110, 101, 45, 104, 101, 105, 103, 104, 116]⟩,
  ⟨#[111, 118, 101, 114, 102, 108, 111, 119]⟩]
theorem namesS_length : namesS.length = 33 := rfl
/-- The Prop of a name, among those below j; 0: none. -/
def propN (nm : List UInt8) : Nat → Nat
  | 0 => 0
  | j + 1 => if 1 ≤ j ∧ (bytesOf (namesS.getD j ⟨#[]⟩) == nm) = true then j else propN nm j
theorem propN_le (nm : List UInt8) : ∀ j, propN nm j ≤ j
  | 0 => Nat.le_refl _
  | j + 1 => by have := propN_le nm j; unfold propN; split <;> omega
theorem propN_lt (nm : List UInt8) : ∀ j, 0 < j → propN nm j < j
  | 0, h => by omega
  | j + 1, _ => by have := propN_le nm j; unfold propN; split <;> omega
def wordR (p : Int) (l : List UInt8) : Option Nat := ((wordsS p).map bytesOf).findIdx? (· == l)
def autoL (p : Int) : List UInt8 := if p = 6 ∨ p = 7 then [110, 111, 110, 101] else [97, 117, 116, 111]
/-- A Prop's Word, Kind and N of a value. -/
def valueR (p : Int) (l : List UInt8) : Option (Int × Int × Int) :=
  if 0 < wordsN p then (wordR p l).map fun i => ((i : Int), 0, 0)
  else if p = 23 ∨ p = 24 then (wholeR l 0 100).map fun v => (v, 0, 0)
  else if p = 25 then (wholeR l (-1000) 1000).map fun v => (v, 0, 0)
  else if (12 ≤ p ∧ p ≤ 19) ∨ p = 31 then (pixR l).bind fun z => if 0 ≤ z then some (0, 1, z) else none
  else if ¬ (p = 4 ∨ p = 5) ∧ (l == autoL p) = true then some (0, 0, 0)
  else (lenR l).bind fun x => if 0 ≤ x.2 ∨ (8 ≤ p ∧ p ≤ 11) then some (0, x.1, x.2) else none
def cutL (l : List UInt8) (a b : Nat) : List UInt8 := (l.drop a).take (b - a)
inductive StepR
  | bad (at_ : Nat) (e : Int)
  | next (d : Dc) (a : Nat)
/-- One declaration, from a place on. -/
def stepR (l : List UInt8) (a : Nat) : StepR :=
  let k := a + rowN nameB l a
  if k = a then .bad a 5 else
  let c := k + rowN blankB l k
  if ¬ l[c]? = some 58 then .bad c 5 else
  let v := c + 1 + rowN blankB l (c + 1)
  let e := v + rowN valB l v
  if e = v then .bad v 5 else
  let p := propN (cutL l a k) 33
  if p = 0 then .bad a 6 else
  match valueR p (cutL l v e) with
  | none => .bad v 7
  | some (w, kd, n) =>
    let b := e + rowN blankB l e
    if b < l.length ∧ ¬ l[b]? = some 59 then .bad b 5
    else .next ⟨p, w, kd, n⟩ (if b < l.length then b + 1 + rowN blankB l (b + 1) else b)
inductive PRes
  | bad (at_ : Nat) (e : Int)
  | ok (ds : List Dc)
def parseFrom (l : List UInt8) : Nat → Nat → List Dc → PRes
  | 0, _, out => .ok out
  | f + 1, a, out => if a < l.length then (match stepR l a with
    | .bad at_ e => .bad at_ e
    | .next d b => parseFrom l f b (out ++ [d])) else .ok out
def parseR (l : List UInt8) : PRes := if 2000 < l.length then .bad 0 4 else parseFrom l (l.length + 1) (rowN blankB l 0) []
end Go.Proofs.YtbhdpfacfgldiaaGreatDoor
/- What a text's declarations may be. No program is named here. -/
namespace Go.Proofs.YtbhdpfacfgldiaaGreatDoor
open Go Go.RowKit
set_option linter.unusedVariables false
set_option linter.unusedSimpArgs false

theorem num_tight {l : List UInt8} {ah bh : Nat} {M T : Int} (hM : ∀ j, j ≤ ah → (10 : Int) ^ j ≤ M) (hT : ∀ k, k ≤ bh → M * 10 ^ k * 10 ^ (bh - k) = T) {v : Int} {r : Nat} (h : numZ l ah bh = some (v, r)) : -T < v ∧ v < T := by
  have fin : ∀ (ng : Bool) (d X P : Int), 0 ≤ d → d < X → 0 < P → X * P = T → -T < signZ ng (d * P) ∧ signZ ng (d * P) < T := fun ng d X P h0 h1 hP e => by
    have h2 : d * P < X * P := Int.mul_lt_mul_of_pos_right h1 hP
    have h3 : 0 ≤ d * P := Int.mul_nonneg h0 (by omega)
    cases ng <;> simp [signZ] <;> omega
  have pos : ∀ j : Nat, (0 : Int) < 10 ^ j := fun j => Int.pow_pos (by decide)
  unfold numZ at h
  simp only at h
  split at h
  · cases h
  · rename_i h1
    have d0 := digV_bd l (negB l).toNat 0 1 (by omega) (by omega) (rowN isDig l (negB l).toNat) (Nat.le_refl _)
    have hm := hM (rowN isDig l (negB l).toNat) (by omega)
    split at h
    · split at h
      · cases h
      · rename_i h2 h3
        injection h with h
        injection h with h4 h5
        have e := digV_bd l ((negB l).toNat + rowN isDig l (negB l).toNat + 1) (digV l (negB l).toNat 0 (rowN isDig l (negB l).toNat)) M d0.1 (by omega) (rowN isDig l ((negB l).toNat + rowN isDig l (negB l).toNat + 1)) (Nat.le_refl _)
        rw [← h4]
        exact fin _ _ _ _ e.1 e.2 (pos _) (hT _ (by omega))
    · injection h with h
      injection h with h4 h5
      rw [← h4]
      have e := hT 0 (Nat.zero_le _)
      rw [Int.pow_zero, Int.mul_one, Nat.sub_zero] at e
      exact fin _ _ _ _ d0.1 (by omega) (pos _) e
theorem num53 {l : List UInt8} {v : Int} {r : Nat} (h : numZ l 5 3 = some (v, r)) : -100000000 < v ∧ v < 100000000 :=
  num_tight (M := 100000) (fun j hj => (pow5 j hj).2) (fun k hk => by rcases (show k = 0 ∨ k = 1 ∨ k = 2 ∨ k = 3 by omega) with rfl | rfl | rfl | rfl <;> decide) h
theorem num42 {l : List UInt8} {v : Int} {r : Nat} (h : numZ l 4 2 = some (v, r)) : -1000000 < v ∧ v < 1000000 :=
  num_tight (M := 10000) (fun j hj => by rcases (show j = 0 ∨ j = 1 ∨ j = 2 ∨ j = 3 ∨ j = 4 by omega) with rfl | rfl | rfl | rfl | rfl <;> decide) (fun k hk => by rcases (show k = 0 ∨ k = 1 ∨ k = 2 by omega) with rfl | rfl | rfl <;> decide) h
theorem pix_bd {l : List UInt8} {z : Int} (h : pixR l = some z) : -6400000 ≤ z ∧ z ≤ 6400000 := by
  unfold pixR at h
  split at h
  · injection h with h; omega
  · split at h
    · rename_i v r hn
      have b := num53 hn
      split at h
      · injection h with h
        rw [← h]
        unfold pxZ holdZ nearZ
        omega
      · cases h
    · cases h
theorem pct_bd {l : List UInt8} {z : Int} (h : pctR l = some z) : -999999 ≤ z ∧ z ≤ 999999 := by
  unfold pctR at h
  split at h
  · rename_i v r hn
    have b := num42 hn
    split at h
    · injection h with h; omega
    · cases h
  · cases h
theorem len_bd {l : List UInt8} {x : Int × Int} (h : lenR l = some x) : (x.1 = 1 ∧ -6400000 ≤ x.2 ∧ x.2 ≤ 6400000) ∨ (x.1 = 2 ∧ -999999 ≤ x.2 ∧ x.2 ≤ 999999) := by
  unfold lenR at h
  split at h
  · rename_i v hv
    injection h with h
    subst h
    exact .inl ⟨rfl, pix_bd hv⟩
  · split at h
    · rename_i v hv
      injection h with h
      subst h
      exact .inr ⟨rfl, pct_bd hv⟩
    · cases h
theorem words_len (p : Int) (hp : 0 < wordsN p) : ((wordsS p).length : Int) = wordsN p := by
  have h : p = 1 ∨ p = 20 ∨ p = 27 ∨ p = 21 ∨ p = 29 ∨ p = 30 ∨ p = 26 ∨ p = 28 ∨ p = 32 := by
    unfold wordsN at hp
    split at hp
    · omega
    · split at hp
      · omega
      · split at hp
        · omega
        · split at hp
          · omega
          · omega
  rcases h with rfl | rfl | rfl | rfl | rfl | rfl | rfl | rfl | rfl <;> decide
theorem value_may (p : Int) (h1 : 1 ≤ p) (h2 : p ≤ 32) (l : List UInt8) (w k n : Int) (h : valueR p l = some (w, k, n)) : mayZ p w k n = true := by
  unfold mayZ
  rw [decide_eq_true_eq]
  unfold mayP
  rw [if_neg (by omega)]
  unfold valueR at h
  by_cases hw : 0 < wordsN p
  · rw [if_pos hw] at h ⊢
    have hl := words_len p hw
    cases hq : wordR p l with
    | none => rw [hq] at h; cases h
    | some j =>
      rw [hq] at h
      have h3 : ((j : Int), (0 : Int), (0 : Int)) = (w, k, n) := by simpa using h
      injection h3 with e1 e2
      injection e2 with e2 e3
      unfold wordR at hq
      have := (List.findIdx?_eq_some_iff_findIdx_eq.1 hq).1
      rw [List.length_map] at this
      omega
  rw [if_neg hw] at h ⊢
  by_cases h23 : p = 23 ∨ p = 24
  · rw [if_pos h23] at h ⊢
    obtain ⟨i, hi, e⟩ := Option.map_eq_some_iff.1 h
    injection e with e1 e2
    injection e2 with e2 e3
    unfold wholeR at hi
    split at hi
    · split at hi
      · injection hi with hi; omega
      · cases hi
    · cases hi
  rw [if_neg h23] at h ⊢
  by_cases h25 : p = 25
  · rw [if_pos h25] at h ⊢
    obtain ⟨i, hi, e⟩ := Option.map_eq_some_iff.1 h
    injection e with e1 e2
    injection e2 with e2 e3
    unfold wholeR at hi
    split at hi
    · split at hi
      · injection hi with hi; omega
      · cases hi
    · cases hi
  rw [if_neg h25] at h ⊢
  by_cases h12 : (12 ≤ p ∧ p ≤ 19) ∨ p = 31
  · rw [if_pos h12] at h ⊢
    obtain ⟨z, hz, e⟩ := Option.bind_eq_some_iff.1 h
    have b := pix_bd hz
    split at e
    · injection e with e
      injection e with e1 e2
      injection e2 with e2 e3
      omega
    · cases e
  rw [if_neg h12] at h ⊢
  by_cases ha : ¬ (p = 4 ∨ p = 5) ∧ (l == autoL p) = true
  · rw [if_pos ha] at h
    injection h with h
    injection h with e1 e2
    injection e2 with e2 e3
    split
    · omega
    · split
      · omega
      · omega
  · rw [if_neg ha] at h
    obtain ⟨x, hx, e⟩ := Option.bind_eq_some_iff.1 h
    have b := len_bd hx
    split at e
    · injection e with e
      injection e with e1 e2
      injection e2 with e2 e3
      split
      · omega
      · split
        · omega
        · omega
    · cases e
theorem step_may (l : List UInt8) (a b : Nat) (d : Dc) (h : stepR l a = .next d b) : mayZ d.p d.w d.k d.n = true := by
  unfold stepR at h
  simp only at h
  generalize hp : propN (cutL l a (a + rowN nameB l a)) 33 = p at h
  have hp2 := propN_lt (cutL l a (a + rowN nameB l a)) 33 (by decide)
  rw [hp] at hp2
  by_cases hp0 : p = 0
  · subst hp0
    split at h
    · cases h
    split at h
    · cases h
    split at h
    · cases h
    rw [if_pos rfl] at h
    cases h
  split at h
  · cases h
  split at h
  · cases h
  split at h
  · cases h
  try rw [if_neg hp0] at h
  split at h
  · cases h
  rename_i w kd n hv
  split at h
  · cases h
  injection h with h1 h2
  subst h1
  exact value_may (p : Int) (by omega) (by omega) _ _ _ _ hv
theorem parseFrom_may (l : List UInt8) : ∀ (f a : Nat) (out ds : List Dc), (∀ d ∈ out, mayZ d.p d.w d.k d.n = true) → parseFrom l f a out = .ok ds → ∀ d ∈ ds, mayZ d.p d.w d.k d.n = true
  | 0, _, out, ds, ho, h => by rw [parseFrom] at h; injection h with h; subst h; exact ho
  | f + 1, a, out, ds, ho, h => by
    rw [parseFrom] at h
    split at h
    · split at h
      · cases h
      · rename_i d b hs
        refine parseFrom_may l f _ _ _ (fun x hx => ?_) h
        rcases List.mem_append.1 hx with hx | hx
        · exact ho x hx
        · have : x = d := by simpa using hx
          subst this
          exact step_may l a b x hs
    · injection h with h; subst h; exact ho
theorem parse_may (l : List UInt8) (ds : List Dc) (h : parseR l = .ok ds) : ∀ d ∈ ds, mayZ d.p d.w d.k d.n = true := by
  unfold parseR at h
  split at h
  · cases h
  · exact parseFrom_may l _ _ _ _ (fun d hd => by cases hd) h
end Go.Proofs.YtbhdpfacfgldiaaGreatDoor
/- quoinlaw6.awake answers true. -/
namespace Go.Proofs.YtbhdpfacfgldiaaGreatDoor
open Go Go.RowKit
set_option linter.unusedVariables false
set_option linter.unusedSimpArgs false
set_option maxRecDepth 20000
set_option maxHeartbeats 4000000

def awL : List Nd := [root0, ⟨5, 0, false, ⟨#[]⟩, []⟩, ⟨7, 5, true, ⟨#[97]⟩, []⟩, ⟨2, 0, false, ⟨#[]⟩, []⟩]
def awC : Array Value := #[.int .i64 0, .int .i64 (-1), .bool false, .string ⟨#[]⟩, .slice none 0 0, .int .i64 5, .int .i64 0, .bool false, .string ⟨#[]⟩, .slice none 0 0,
  .int .i64 7, .int .i64 5, .bool true, .string ⟨#[97]⟩, .slice none 0 0, .int .i64 2, .int .i64 0, .bool false, .string ⟨#[]⟩, .slice none 0 0]
theorem awC_row : plC awL = awC.toList := rfl
theorem aw_low (w : World) (g : Nat) (h : Whole w g 32 awC.toList) : NodesLow w w.heap.size (some ⟨g, 0, none⟩) awL (awL.map fun _ => noS) := by
  refine ⟨rfl, fun _ => ⟨_, rfl, h.size, fun i hi => ?_⟩, fun k hk => ?_, fun x hx => ?_, by decide⟩
  · rw [head_add, h.cell i, ← awC_row]; exact List.getElem?_eq_getElem hi
  · have : awL[k].sty = [] := (show ∀ x ∈ awL, x.sty = [] by intro x hx; simp [awL] at hx; rcases hx with rfl | rfl | rfl | rfl <;> rfl) _ (List.getElem_mem hk)
    rw [this, List.getElem_map]
    exact ⟨none, 0, rfl, Row.nil _ _ _, by decide, fun _ => rfl⟩
  · simp [awL] at hx
    unfold In64i
    rcases hx with rfl | rfl | rfl | rfl <;> simp [root0, ByteArray.size]
theorem aw_no : ∀ n ∈ awL, n.tx = false → ∀ d ∈ n.sty, UntoldOK d := by
  intro n hn _ d hd
  simp [awL] at hn
  rcases hn with rfl | rfl | rfl | rfl <;> simp [root0] at hd
theorem aw_of9 (A : Option Addr) (c : Nat) (w : World) (h : NodesLow w w.heap.size A awL (awL.map fun _ => noS)) (hc : 4 ≤ c) :
    Calls Tryz.prog 7 #[.int .i64 9, .slice A 4 c] w fun e w' => (∃ t, e = .returned (.tuple #[.pointer (some ⟨t, 0, none⟩), .bool true]) ∧ Tree w' w.heap.size t 9 awL) ∧ Below w.heap.size w w' := by
  refine (tof_any 9 A c awL _ w h hc aw_no).mono ?_
  rintro e w' ⟨h1, h2⟩
  unfold OfPost at h1
  rw [if_pos (by decide +kernel)] at h1
  exact ⟨h1, h2⟩
theorem aw_of3 (A : Option Addr) (c : Nat) (w : World) (h : NodesLow w w.heap.size A awL (awL.map fun _ => noS)) (hc : 4 ≤ c) :
    Calls Tryz.prog 7 #[.int .i64 3, .slice A 4 c] w fun e w' => e = .returned (.tuple #[.pointer none, .bool false]) ∧ Below w.heap.size w w' := by
  refine (tof_any 3 A c awL _ w h hc aw_no).mono ?_
  rintro e w' ⟨h1, h2⟩
  unfold OfPost at h1
  rw [if_neg (by decide +kernel)] at h1
  exact ⟨h1, h2⟩
theorem lawake6_any (W : World) : Calls Tryz.prog 13 #[] W fun e w' => e = .returned (.bool true) ∧ Below W.heap.size W w' := by
  have X1 := Lib.hid (Whole.mk W 32 awC)
  have B1 := Lib.hid ((Below.refl W.heap.size W).alloc (Nat.le_refl _) (.cells awC 32))
  go_enter Tryz.func13, Tryz.ntmps13
  go_upto_region 2 with fail
  have Z1 := X1.out.size
  unfold awC at X1 B1 Z1
  generalize W.alloc _ = w1 at *
  have X1 : Hid (Whole w1 W.heap.size 32 awC.toList) := X1
  go_wp2_with fail
  refine (aw_of9 _ 4 w1 (aw_low w1 _ X1.out) (by decide)).mono ?_
  rintro e w2 ⟨⟨t, rfl, hT⟩, hb⟩
  have X2 := Lib.hid (X1.out.under hb Z1)
  have Z2 := X2.out.size
  have B2 := Lib.hid (B1.out.trans (hb.mono (by omega)))
  have T2 := Lib.hid hT
  clear hb hT X1 Z1 B1
  go_wp2_with fail
  refine (aw_of3 _ 4 w2 (aw_low w2 _ X2.out) (by decide)).mono ?_
  rintro e w3 ⟨rfl, hb⟩
  have X3 := Lib.hid (X2.out.under hb Z2)
  have Z3 := X3.out.size
  have B3 := Lib.hid (B2.out.trans (hb.mono (by omega)))
  have T3 := Lib.hid (T2.out.behind hb)
  clear hb X2 Z2 B2 T2
  go_wp2_with fail
  refine (tkids_any T3.out (id := 0) (by unfold In64i; omega) (Int.le_refl _) (by decide)).mono ?_
  rw [show kidsZ awL 0 = [5, 2] by decide +kernel]
  rintro e w4 ⟨v, rfl, ⟨A, ck, rfl, ho, -⟩, hb⟩
  have X4 := Lib.hid (X3.out.under hb Z3)
  have Z4 := X4.out.size
  have B4 := Lib.hid (B3.out.trans (hb.mono (by omega)))
  have T4 := Lib.hid (T3.out.behind hb)
  obtain ⟨g, c', hv, -, -, -⟩ := owns_some ho (by decide)
  injection hv with e1 e2 e3
  subst e1 e3
  clear e2
  have K4 := Lib.hid (row_of_own ho)
  clear hb X3 Z3 B3 T3 ho
  have h7 : atZ awL 7 = some ⟨7, 5, true, ⟨#[97]⟩, []⟩ := rfl
  go_wp2_with fail
  refine (tnode_any T4.out (id := 7) (by unfold In64i; omega) h7).mono ?_
  rintro e w5 ⟨⟨A5, c5, rfl, -⟩, hb⟩
  have X5 := Lib.hid (X4.out.under hb Z4)
  have Z5 := X5.out.size
  have B5 := Lib.hid (B4.out.trans (hb.mono (by omega)))
  have T5 := Lib.hid (T4.out.behind hb)
  have K5 := Lib.hid ((K4.out.below hb).more hb.size)
  clear hb X4 Z4 B4 T4 K4 h7
  go_upto_region 8 with fail
  have hal : Below w5.heap.size w5 (w5.alloc (.cells #[.int .i64 7, .int .i64 5, .bool true, .string ⟨#[97]⟩, .slice A5 0 c5] 32)) := (Below.refl _ _).alloc (Nat.le_refl _) _
  have N6 := Lib.hid (Whole.mk w5 32 #[.int .i64 7, .int .i64 5, .bool true, .string ⟨#[97]⟩, .slice A5 0 c5])
  have X6 := Lib.hid (X5.out.under hal Z5)
  have B6 := Lib.hid (B5.out.trans (hal.mono (by omega)))
  have T6 := Lib.hid (T5.out.behind hal)
  have K6 := Lib.hid (K5.out.below hal)
  have sz : w5.heap.size < (w5.alloc (.cells #[.int .i64 7, .int .i64 5, .bool true, .string ⟨#[97]⟩, .slice A5 0 c5] 32)).heap.size := by simp
  clear hal X5 B5 T5 K5
  generalize w5.alloc _ = w6 at *
  generalize w5.heap.size = gn at *
  have Z6 := X6.out.size
  have n3 : w6.cell? ⟨gn, 3, none⟩ = some (.string ⟨#[97]⟩) := N6.out.cell 3
  obtain ⟨ad, e1, -, hc⟩ := K6.out (by decide)
  injection e1 with e1
  subst e1
  have k0 : w6.cell? ⟨g, 0, none⟩ = some (.int .i64 5) := by have := hc 0 (by decide); rw [head_add] at this; exact this
  have k1 : w6.cell? ⟨g, 1, none⟩ = some (.int .i64 2) := by have := hc 1 (by decide); rw [head_add] at this; exact this
  clear hc K6 N6
  go_wp2_with fail
  refine (tlen_any T6.out).mono ?_
  rintro e w' ⟨rfl, rfl⟩
  rw [show ((awL.length : Nat) : Int) = 4 from rfl]
  go_wp2_with fail
  refine (tparent_any T6.out (id := 7) (by unfold In64i; omega)).mono ?_
  rintro e w' ⟨rfl, rfl⟩
  rw [show parZ awL 7 = 5 by decide +kernel]
  go_wp2_with fail
  refine (tbelow_any T6.out (id := 7) (of_ := 0) (by unfold In64i; omega) (by unfold In64i; omega)).mono ?_
  rintro e w' ⟨rfl, rfl⟩
  rw [show belowZ awL 7 0 = true by decide +kernel]
  go_wp2_with fail
  refine (tbelow_any T6.out (id := 5) (of_ := 7) (by unfold In64i; omega) (by unfold In64i; omega)).mono ?_
  rintro e w' ⟨rfl, rfl⟩
  rw [show belowZ awL 5 7 = false by decide +kernel]
  go_wp2_with fail
  refine (tdeep_any T6.out (id := 7) (by unfold In64i; omega) (by decide)).mono ?_
  rintro e w' ⟨rfl, rfl⟩
  rw [show deepZ awL 7 = 2 by decide +kernel]
  go_wp2_with fail
  refine (tdeep_any T6.out (id := 9) (by unfold In64i; omega) (by decide)).mono ?_
  rintro e w' ⟨rfl, rfl⟩
  rw [show deepZ awL 9 = -1 by decide +kernel]
  obtain ⟨Tr, f1, f2, f3⟩ := of_tree 9 awL (by decide +kernel)
  go_wp2_with fail
  refine (tsay_any T6.out (by decide) f1 f2 f3).mono ?_
  rintro e w7 ⟨v, rfl, hN, -, hb⟩
  have X7 := Lib.hid (X6.out.under hb Z6)
  have B7 := Lib.hid (B6.out.trans (hb.mono (by omega)))
  have S7 := Lib.hid (hN.see (by decide))
  clear f1 f2 f3 hb hN n3 k0 k1 X6 B6 T6
  go_wp2_with fail
  refine (nsame_any awL v (.slice (some ⟨W.heap.size, 0, none⟩) 4 4) w7 S7.out ((aw_low w7 _ X7.out).see (c := 4) (Nat.le_refl _))).mono ?_
  rintro e w8 ⟨rfl, hb⟩
  have B8 := Lib.hid (B7.out.trans (hb.mono (by have := X7.out.size; omega)))
  clear hb
  go_wp2_with fail
  go_ret
  exact ⟨rfl, B8.out⟩
end Go.Proofs.YtbhdpfacfgldiaaGreatDoor
