import Derived.Test.YtfmcabgcckllcaaDeclHas
import Derived.Test.YtfmcabgcckllcaaDeclLay
/- decl.Style by its contract. -/
namespace Go.Proofs.Ytfmcabgcckllcaa
open Go Go.RowKit
set_option linter.unusedVariables false
set_option linter.unusedSimpArgs false
set_option maxRecDepth 20000
set_option maxHeartbeats 4000000

def emB (p : Int) : Bool := decide ((12 ≤ p ∧ p ≤ 19) ∨ p = 31 ∨ p = 4 ∨ p = 5)
theorem autoS_ways (p : Int) : (autoS p = ⟨#[]⟩ ∧ emB p = true) ∨ (autoS p = ⟨#[110, 111, 110, 101]⟩ ∧ emB p = false) ∨ (autoS p = ⟨#[97, 117, 116, 111]⟩ ∧ emB p = false) := by
  unfold autoS emB
  by_cases h : (12 ≤ p ∧ p ≤ 19) ∨ p = 31 ∨ p = 4 ∨ p = 5
  · exact .inl ⟨if_pos h, decide_eq_true h⟩
  · rw [if_neg h, decide_eq_false h]
    by_cases h6 : p = 6 ∨ p = 7
    · exact .inr (.inl ⟨if_pos h6, rfl⟩)
    · exact .inr (.inr ⟨if_neg h6, rfl⟩)
theorem may_lenB (p w k n : Int) (h : lenP p) : lenB (emB p) (pctF p) (minF p) w k n = mayZ p w k n := by
  unfold lenP at h
  rcases (show (((12 ≤ p ∧ p ≤ 19) ∨ p = 31) ∨ (8 ≤ p ∧ p ≤ 11) ∨ (p = 4 ∨ p = 5) ∨ (p = 2 ∨ p = 3 ∨ p = 6 ∨ p = 7 ∨ p = 22)) by omega) with h1 | h1 | h1 | h1
  · rw [may_px h1, Bool.eq_iff_iff]
    unfold lenB emB pctF minF holdsB pxB
    simp only [Bool.and_eq_true, decide_eq_true_iff, Bool.not_eq_true', decide_eq_false_iff_not]
    omega
  · rw [may_margin h1, Bool.eq_iff_iff]
    unfold lenB emB pctF minF holdsB pxB pctB autoB
    simp only [Bool.and_eq_true, Bool.or_eq_true, decide_eq_true_iff, Bool.not_eq_true', decide_eq_false_iff_not]
    omega
  · rw [may_min h1, Bool.eq_iff_iff]
    unfold lenB emB pctF minF holdsB pxB pctB
    simp only [Bool.and_eq_true, Bool.or_eq_true, decide_eq_true_iff, Bool.not_eq_true', decide_eq_false_iff_not]
    omega
  · rw [may_rest h1, Bool.eq_iff_iff]
    unfold lenB emB pctF minF holdsB pxB pctB autoB
    simp only [Bool.and_eq_true, Bool.or_eq_true, decide_eq_true_iff, Bool.not_eq_true', decide_eq_false_iff_not]
    omega
theorem wordsHas_val (A : Option Addr) (p w k n : Int) (h : p = 1 ∨ p = 20 ∨ p = 21 ∨ p = 26 ∨ p = 27 ∨ p = 28 ∨ p = 29 ∨ p = 30 ∨ p = 32) (b : Bool) (hb : mayZ p w k n = b) (W : World) : Calls Try.prog 58 #[.slice A (wordsS p).length (wordsS p).length, .agg #[.int .i64 p, .int .i64 w, .int .i64 k, .int .i64 n]] W fun e w' => e = .returned (.bool b) ∧ Below W.heap.size W w' := by
  have hw := wordsN_pos h
  rw [← wordsS_length] at hw
  have := wordsHas_any A (wordsS p).length p w k n (by omega) W
  have e : wordsB (wordsS p).length w k n = b := by rw [← hb, may_words h, ← wordsS_length]; rfl
  rwa [e] at this
theorem wholeHas_val (p w k n : Int) (h : p = 23 ∨ p = 24) (b : Bool) (hb : mayZ p w k n = b) (W : World) : Calls Try.prog 61 #[.agg #[.int .i64 0, .int .i64 100], .agg #[.int .i64 p, .int .i64 w, .int .i64 k, .int .i64 n]] W fun e w' => e = .returned (.bool b) ∧ Below W.heap.size W w' := by
  have := wholeHas_any 0 100 p w k n W
  have e : wholeB 0 100 w k n = b := by rw [← hb, may_whole h]; rfl
  rwa [e] at this
theorem orderHas_val (w k n : Int) (b : Bool) (hb : mayZ 25 w k n = b) (W : World) : Calls Try.prog 61 #[.agg #[.int .i64 (-1000), .int .i64 1000], .agg #[.int .i64 25, .int .i64 w, .int .i64 k, .int .i64 n]] W fun e w' => e = .returned (.bool b) ∧ Below W.heap.size W w' := by
  have := wholeHas_any (-1000) 1000 25 w k n W
  have e : wholeB (-1000) 1000 w k n = b := by rw [← hb, may_order rfl]; rfl
  rwa [e] at this
theorem lenHas_val (p w k n : Int) (h : lenP p) (b : Bool) (hb : mayZ p w k n = b) (W : World) : Calls Try.prog 64 #[.agg #[.string (autoS p), .bool (pctF p), .bool (minF p)], .agg #[.int .i64 p, .int .i64 w, .int .i64 k, .int .i64 n]] W fun e w' => e = .returned (.bool b) ∧ Below W.heap.size W w' := by
  have := lengthHas_any (autoS p) (emB p) (autoS_ways p) (pctF p) (minF p) p w k n W
  rw [may_lenB p w k n h, hb] at this
  exact this
theorem mayp_range {p w k n : Int} (h : mayZ p w k n = true) : 1 ≤ p ∧ p ≤ 32 := by
  refine Classical.byContradiction fun hc => ?_
  rw [may_out (by omega)] at h
  cases h
theorem style_any (zs : List Int) (hz : zs.length = 43) (ds : List Dc) (A : Option Addr) (c : Nat) (W : World) (hR : Row W W.heap.size A (i64s (dCells ds))) (hm : ds.length ≤ 4611686018427387904) :
    Calls Try.prog 17 #[.agg (i64s zs).toArray, .slice A ds.length c] W fun e w' => e = .returned (.agg (i64s (styleZ zs ds)).toArray) ∧ Below W.heap.size W w' := by
  have HZ := Lib.hid hz
  have HR := Lib.hid hR
  clear hz hR
  go_enter Try.func17, Try.ntmps17
  go_wp2
  go_loopw [10] (fun i wr => ∃ k : Nat, k ≤ ds.length ∧ i = .int .i64 k ∧ Whole wr W.heap.size 27 (i64s (styleZ zs (ds.take k))) ∧ Whole wr (W.heap.size + 1) 27 (i64s zeros43) ∧ Below W.heap.size W wr) (fun i _ => ds.length - (intOf i).toNat)
  case atStart =>
    refine ⟨0, Nat.zero_le _, rfl, ?_, ?_, ((Below.refl _ _).alloc (Nat.le_refl _) _).alloc (by simp) _⟩
    · have h := Whole.mk W 27 (i64s zs).toArray
      simpa [styleZ] using h.made _
    · have h := Whole.mk (W.alloc (.cells (i64s zs).toArray 27)) 27 (i64s zeros43).toArray
      simp only [World.size_alloc] at h
      exact h
  case round =>
    obtain ⟨k, hk, rfl, hS, hO, hB⟩ := hrel
    have HS := Lib.hid hS
    have HO := Lib.hid hO
    have HB := Lib.hid hB
    have hzl : (styleZ zs (ds.take k)).length = 43 := (styleZ_length _ _).trans HZ.out
    have HZL := Lib.hid hzl
    clear hS hO hB hzl
    by_cases hlt : k < ds.length
    · obtain ⟨ad, rfl, had, e0, e1, e2, e3⟩ := (HR.out.below HB.out).dec hlt
      have HT := Lib.hid (styleZ_take zs ds k hlt)
      have hsz := HS.out.size
      have hsz1 := HO.out.size
      generalize hp : ds[k].p = p at *
      generalize hw : ds[k].w = wd at *
      generalize hkk : ds[k].k = kd at *
      generalize hn : ds[k].n = nv at *
      clear hp hw hkk hn
      generalize styleZ zs (ds.take k) = cur at *
      go_wp2_with fail
      have E0 := Lib.hid (Whole.mk wr 34 #[.int .i64 p, .int .i64 wd, .int .i64 kd, .int .i64 nv])
      have HS0 := Lib.hid (HS.out.made (.cells #[.int .i64 p, .int .i64 wd, .int .i64 kd, .int .i64 nv] 34))
      have HO0 := Lib.hid (HO.out.made (.cells #[.int .i64 p, .int .i64 wd, .int .i64 kd, .int .i64 nv] 34))
      have HB0 := Lib.hid (HB.out.alloc (by have := HB.out.size; omega) (.cells #[.int .i64 p, .int .i64 wd, .int .i64 kd, .int .i64 nv] 34))
      have hz0 : wr.heap.size < (wr.alloc (.cells #[.int .i64 p, .int .i64 wd, .int .i64 kd, .int .i64 nv] 34)).heap.size := by simp
      have HN := Lib.hid (show W.heap.size ≤ wr.heap.size by omega)
      clear e0 e1 e2 e3
      rcases (show (p < 1 ∨ 32 < p) ∨ (p = 1 ∨ p = 20 ∨ p = 21 ∨ p = 26 ∨ p = 27 ∨ p = 28 ∨ p = 29 ∨ p = 30 ∨ p = 32) ∨ (p = 23 ∨ p = 24) ∨ p = 25 ∨ lenP p by unfold lenP; omega) with h | h | h | h | h
      · rw [may_out h, if_neg (by simp)] at HT
        refine (formOf_out p h _).mono ?_
        rintro e w1' ⟨rfl, rfl⟩
        have E1 := E0
        have HS1 := HS0
        have HO1 := HO0
        have HB1 := HB0
        generalize wr.alloc (.cells #[.int .i64 p, .int .i64 wd, .int .i64 kd, .int .i64 nv] 34) = w1 at *
        clear E0 HS0 HO0 HB0 hz0
        have z1 : wr.heap.size < w1.heap.size := E1.out.size
        have c0 : w1.cell? ⟨wr.heap.size, 0, none⟩ = some (.int .i64 p) := E1.out.cell 0
        have c1 : w1.cell? ⟨wr.heap.size, 1, none⟩ = some (.int .i64 wd) := E1.out.cell 1
        have c2 : w1.cell? ⟨wr.heap.size, 2, none⟩ = some (.int .i64 kd) := E1.out.cell 2
        have c3 : w1.cell? ⟨wr.heap.size, 3, none⟩ = some (.int .i64 nv) := E1.out.cell 3
        clear c0 c1 c2 c3 h
        go_wp2
        go_roundw
        case rel => exact ⟨k + 1, by omega, by go_num, by rw [HT.out]; exact HS1.out, HO1.out, HB1.out⟩
        case measure => simp [intOf]; omega
      · have H := Lib.hid h
        clear h
        refine (formOf_words p H.out _).mono ?_
        rintro e w1 ⟨A1, rfl, _, b1⟩
        have E1 := Lib.hid (E0.out.under b1 hz0)
        have HS1 := Lib.hid (HS0.out.under b1 HS0.out.size)
        have HO1 := Lib.hid (HO0.out.under b1 HO0.out.size)
        have HB1 := Lib.hid (HB0.out.trans (b1.mono HB0.out.size))
        clear b1 E0 HS0 HO0 HB0 hz0
        have z1 : wr.heap.size < w1.heap.size := E1.out.size
        have c0 : w1.cell? ⟨wr.heap.size, 0, none⟩ = some (.int .i64 p) := E1.out.cell 0
        have c1 : w1.cell? ⟨wr.heap.size, 1, none⟩ = some (.int .i64 wd) := E1.out.cell 1
        have c2 : w1.cell? ⟨wr.heap.size, 2, none⟩ = some (.int .i64 kd) := E1.out.cell 2
        have c3 : w1.cell? ⟨wr.heap.size, 3, none⟩ = some (.int .i64 nv) := E1.out.cell 3
        go_wp2_with fail
        cases hmay : mayZ p wd kd nv with
        | false =>
          rw [hmay, if_neg (by simp)] at HT
          refine (wordsHas_val _ p wd kd nv H.out false hmay _).mono ?_
          rintro e w2 ⟨rfl, b2⟩
          have HS2 := Lib.hid (HS1.out.under b2 HS1.out.size)
          have HO2 := Lib.hid (HO1.out.under b2 HO1.out.size)
          have HB2 := Lib.hid (HB1.out.trans (b2.mono HB1.out.size))
          clear b2 hmay c0 c1 c2 c3 E1 HS1 HO1 HB1
          go_wp2
          go_roundw
          case rel => exact ⟨k + 1, by omega, by go_num, by rw [HT.out]; exact HS2.out, HO2.out, HB2.out⟩
          case measure => simp [intOf]; omega
        | true =>
          rw [hmay, if_pos rfl] at HT
          have HP := Lib.hid (mayp_range hmay)
          refine (wordsHas_val _ p wd kd nv H.out true hmay _).mono ?_
          rintro e w2 ⟨rfl, b2⟩
          have E2 := Lib.hid (E1.out.under b2 E1.out.size)
          have HS2 := Lib.hid (HS1.out.under b2 HS1.out.size)
          have HO2 := Lib.hid (HO1.out.under b2 HO1.out.size)
          have HB2 := Lib.hid (HB1.out.trans (b2.mono HB1.out.size))
          clear b2 hmay c0 c1 c2 c3 E1 HS1 HO1 HB1
          have d0 : w2.cell? ⟨wr.heap.size, 0, none⟩ = some (.int .i64 p) := E2.out.cell 0
          have d1 : w2.cell? ⟨wr.heap.size, 1, none⟩ = some (.int .i64 wd) := E2.out.cell 1
          have d2 : w2.cell? ⟨wr.heap.size, 2, none⟩ = some (.int .i64 kd) := E2.out.cell 2
          have d3 : w2.cell? ⟨wr.heap.size, 3, none⟩ = some (.int .i64 nv) := E2.out.cell 3
          go_wp2_with fail
          refine (lay_any cur HZL.out W.heap.size _ HS2.out p wd kd nv HP.out.1 HP.out.2).mono ?_
          rintro e w3 ⟨rfl, h3, o3⟩
          have HS3 := Lib.hid h3
          have HO3 := Lib.hid (o3.whole HO2.out (by simp))
          have HB3 := Lib.hid (HB2.out.trans (o3.below (by simp) HB2.out.size))
          clear h3 o3 d0 d1 d2 d3 E2 HS2 HO2 HB2
          go_wp2
          go_roundw
          case rel => exact ⟨k + 1, by omega, by go_num, by rw [HT.out]; exact HS3.out, HO3.out, HB3.out⟩
          case measure => simp [intOf]; omega
      · have H := Lib.hid h
        clear h
        refine (formOf_whole p H.out _).mono ?_
        rintro e w1' ⟨rfl, rfl⟩
        have E1 := E0
        have HS1 := HS0
        have HO1 := HO0
        have HB1 := HB0
        generalize wr.alloc (.cells #[.int .i64 p, .int .i64 wd, .int .i64 kd, .int .i64 nv] 34) = w1 at *
        clear E0 HS0 HO0 HB0 hz0
        have z1 : wr.heap.size < w1.heap.size := E1.out.size
        have c0 : w1.cell? ⟨wr.heap.size, 0, none⟩ = some (.int .i64 p) := E1.out.cell 0
        have c1 : w1.cell? ⟨wr.heap.size, 1, none⟩ = some (.int .i64 wd) := E1.out.cell 1
        have c2 : w1.cell? ⟨wr.heap.size, 2, none⟩ = some (.int .i64 kd) := E1.out.cell 2
        have c3 : w1.cell? ⟨wr.heap.size, 3, none⟩ = some (.int .i64 nv) := E1.out.cell 3
        go_wp2_with fail
        cases hmay : mayZ p wd kd nv with
        | false =>
          rw [hmay, if_neg (by simp)] at HT
          refine (wholeHas_val p wd kd nv H.out false hmay _).mono ?_
          rintro e w2 ⟨rfl, b2⟩
          have HS2 := Lib.hid (HS1.out.under b2 HS1.out.size)
          have HO2 := Lib.hid (HO1.out.under b2 HO1.out.size)
          have HB2 := Lib.hid (HB1.out.trans (b2.mono HB1.out.size))
          clear b2 hmay c0 c1 c2 c3 E1 HS1 HO1 HB1
          go_wp2
          go_roundw
          case rel => exact ⟨k + 1, by omega, by go_num, by rw [HT.out]; exact HS2.out, HO2.out, HB2.out⟩
          case measure => simp [intOf]; omega
        | true =>
          rw [hmay, if_pos rfl] at HT
          have HP := Lib.hid (mayp_range hmay)
          refine (wholeHas_val p wd kd nv H.out true hmay _).mono ?_
          rintro e w2 ⟨rfl, b2⟩
          have E2 := Lib.hid (E1.out.under b2 E1.out.size)
          have HS2 := Lib.hid (HS1.out.under b2 HS1.out.size)
          have HO2 := Lib.hid (HO1.out.under b2 HO1.out.size)
          have HB2 := Lib.hid (HB1.out.trans (b2.mono HB1.out.size))
          clear b2 hmay c0 c1 c2 c3 E1 HS1 HO1 HB1
          have d0 : w2.cell? ⟨wr.heap.size, 0, none⟩ = some (.int .i64 p) := E2.out.cell 0
          have d1 : w2.cell? ⟨wr.heap.size, 1, none⟩ = some (.int .i64 wd) := E2.out.cell 1
          have d2 : w2.cell? ⟨wr.heap.size, 2, none⟩ = some (.int .i64 kd) := E2.out.cell 2
          have d3 : w2.cell? ⟨wr.heap.size, 3, none⟩ = some (.int .i64 nv) := E2.out.cell 3
          go_wp2_with fail
          refine (lay_any cur HZL.out W.heap.size _ HS2.out p wd kd nv HP.out.1 HP.out.2).mono ?_
          rintro e w3 ⟨rfl, h3, o3⟩
          have HS3 := Lib.hid h3
          have HO3 := Lib.hid (o3.whole HO2.out (by simp))
          have HB3 := Lib.hid (HB2.out.trans (o3.below (by simp) HB2.out.size))
          clear h3 o3 d0 d1 d2 d3 E2 HS2 HO2 HB2
          go_wp2
          go_roundw
          case rel => exact ⟨k + 1, by omega, by go_num, by rw [HT.out]; exact HS3.out, HO3.out, HB3.out⟩
          case measure => simp [intOf]; omega
      · subst h
        refine (formOf_order _).mono ?_
        rintro e w1' ⟨rfl, rfl⟩
        have E1 := E0
        have HS1 := HS0
        have HO1 := HO0
        have HB1 := HB0
        generalize wr.alloc (.cells #[.int .i64 25, .int .i64 wd, .int .i64 kd, .int .i64 nv] 34) = w1 at *
        clear E0 HS0 HO0 HB0 hz0
        have z1 : wr.heap.size < w1.heap.size := E1.out.size
        have c0 : w1.cell? ⟨wr.heap.size, 0, none⟩ = some (.int .i64 25) := E1.out.cell 0
        have c1 : w1.cell? ⟨wr.heap.size, 1, none⟩ = some (.int .i64 wd) := E1.out.cell 1
        have c2 : w1.cell? ⟨wr.heap.size, 2, none⟩ = some (.int .i64 kd) := E1.out.cell 2
        have c3 : w1.cell? ⟨wr.heap.size, 3, none⟩ = some (.int .i64 nv) := E1.out.cell 3
        go_wp2_with fail
        cases hmay : mayZ 25 wd kd nv with
        | false =>
          rw [hmay, if_neg (by simp)] at HT
          refine (orderHas_val wd kd nv false hmay _).mono ?_
          rintro e w2 ⟨rfl, b2⟩
          have HS2 := Lib.hid (HS1.out.under b2 HS1.out.size)
          have HO2 := Lib.hid (HO1.out.under b2 HO1.out.size)
          have HB2 := Lib.hid (HB1.out.trans (b2.mono HB1.out.size))
          clear b2 hmay c0 c1 c2 c3 E1 HS1 HO1 HB1
          go_wp2
          go_roundw
          case rel => exact ⟨k + 1, by omega, by go_num, by rw [HT.out]; exact HS2.out, HO2.out, HB2.out⟩
          case measure => simp [intOf]; omega
        | true =>
          rw [hmay, if_pos rfl] at HT
          have HP := Lib.hid (mayp_range hmay)
          refine (orderHas_val wd kd nv true hmay _).mono ?_
          rintro e w2 ⟨rfl, b2⟩
          have E2 := Lib.hid (E1.out.under b2 E1.out.size)
          have HS2 := Lib.hid (HS1.out.under b2 HS1.out.size)
          have HO2 := Lib.hid (HO1.out.under b2 HO1.out.size)
          have HB2 := Lib.hid (HB1.out.trans (b2.mono HB1.out.size))
          clear b2 hmay c0 c1 c2 c3 E1 HS1 HO1 HB1
          have d0 : w2.cell? ⟨wr.heap.size, 0, none⟩ = some (.int .i64 25) := E2.out.cell 0
          have d1 : w2.cell? ⟨wr.heap.size, 1, none⟩ = some (.int .i64 wd) := E2.out.cell 1
          have d2 : w2.cell? ⟨wr.heap.size, 2, none⟩ = some (.int .i64 kd) := E2.out.cell 2
          have d3 : w2.cell? ⟨wr.heap.size, 3, none⟩ = some (.int .i64 nv) := E2.out.cell 3
          go_wp2_with fail
          refine (lay_any cur HZL.out W.heap.size _ HS2.out 25 wd kd nv HP.out.1 HP.out.2).mono ?_
          rintro e w3 ⟨rfl, h3, o3⟩
          have HS3 := Lib.hid h3
          have HO3 := Lib.hid (o3.whole HO2.out (by simp))
          have HB3 := Lib.hid (HB2.out.trans (o3.below (by simp) HB2.out.size))
          clear h3 o3 d0 d1 d2 d3 E2 HS2 HO2 HB2
          go_wp2
          go_roundw
          case rel => exact ⟨k + 1, by omega, by go_num, by rw [HT.out]; exact HS3.out, HO3.out, HB3.out⟩
          case measure => simp [intOf]; omega
      · have H := Lib.hid h
        clear h
        refine (formOf_length p H.out _).mono ?_
        rintro e w1 ⟨rfl, b1⟩
        have E1 := Lib.hid (E0.out.under b1 hz0)
        have HS1 := Lib.hid (HS0.out.under b1 HS0.out.size)
        have HO1 := Lib.hid (HO0.out.under b1 HO0.out.size)
        have HB1 := Lib.hid (HB0.out.trans (b1.mono HB0.out.size))
        clear b1 E0 HS0 HO0 HB0 hz0
        have z1 : wr.heap.size < w1.heap.size := E1.out.size
        have c0 : w1.cell? ⟨wr.heap.size, 0, none⟩ = some (.int .i64 p) := E1.out.cell 0
        have c1 : w1.cell? ⟨wr.heap.size, 1, none⟩ = some (.int .i64 wd) := E1.out.cell 1
        have c2 : w1.cell? ⟨wr.heap.size, 2, none⟩ = some (.int .i64 kd) := E1.out.cell 2
        have c3 : w1.cell? ⟨wr.heap.size, 3, none⟩ = some (.int .i64 nv) := E1.out.cell 3
        go_wp2_with fail
        cases hmay : mayZ p wd kd nv with
        | false =>
          rw [hmay, if_neg (by simp)] at HT
          refine (lenHas_val p wd kd nv H.out false hmay _).mono ?_
          rintro e w2 ⟨rfl, b2⟩
          have HS2 := Lib.hid (HS1.out.under b2 HS1.out.size)
          have HO2 := Lib.hid (HO1.out.under b2 HO1.out.size)
          have HB2 := Lib.hid (HB1.out.trans (b2.mono HB1.out.size))
          clear b2 hmay c0 c1 c2 c3 E1 HS1 HO1 HB1
          go_wp2
          go_roundw
          case rel => exact ⟨k + 1, by omega, by go_num, by rw [HT.out]; exact HS2.out, HO2.out, HB2.out⟩
          case measure => simp [intOf]; omega
        | true =>
          rw [hmay, if_pos rfl] at HT
          have HP := Lib.hid (mayp_range hmay)
          refine (lenHas_val p wd kd nv H.out true hmay _).mono ?_
          rintro e w2 ⟨rfl, b2⟩
          have E2 := Lib.hid (E1.out.under b2 E1.out.size)
          have HS2 := Lib.hid (HS1.out.under b2 HS1.out.size)
          have HO2 := Lib.hid (HO1.out.under b2 HO1.out.size)
          have HB2 := Lib.hid (HB1.out.trans (b2.mono HB1.out.size))
          clear b2 hmay c0 c1 c2 c3 E1 HS1 HO1 HB1
          have d0 : w2.cell? ⟨wr.heap.size, 0, none⟩ = some (.int .i64 p) := E2.out.cell 0
          have d1 : w2.cell? ⟨wr.heap.size, 1, none⟩ = some (.int .i64 wd) := E2.out.cell 1
          have d2 : w2.cell? ⟨wr.heap.size, 2, none⟩ = some (.int .i64 kd) := E2.out.cell 2
          have d3 : w2.cell? ⟨wr.heap.size, 3, none⟩ = some (.int .i64 nv) := E2.out.cell 3
          go_wp2_with fail
          refine (lay_any cur HZL.out W.heap.size _ HS2.out p wd kd nv HP.out.1 HP.out.2).mono ?_
          rintro e w3 ⟨rfl, h3, o3⟩
          have HS3 := Lib.hid h3
          have HO3 := Lib.hid (o3.whole HO2.out (by simp))
          have HB3 := Lib.hid (HB2.out.trans (o3.below (by simp) HB2.out.size))
          clear h3 o3 d0 d1 d2 d3 E2 HS2 HO2 HB2
          go_wp2
          go_roundw
          case rel => exact ⟨k + 1, by omega, by go_num, by rw [HT.out]; exact HS3.out, HO3.out, HB3.out⟩
          case measure => simp [intOf]; omega
    · have : k = ds.length := by omega
      subst this
      rw [List.take_length] at HS HZL
      have hB := HB.out
      go_wp2_with (first
        | (refine style_load (.tmp 2) rfl rfl W.heap.size rfl (styleZ zs ds) HZL.out HS.out ?_)
        | (refine style_store (.tmp 4) (.tmp 27) rfl rfl (W.heap.size + 1) rfl (styleZ zs ds) HZL.out rfl zeros43 HO.out rfl ?_; intro w1 h1 o1; have H1 := Lib.hid h1; have O1 := Lib.hid o1; clear h1 o1))
      exact style_end rfl (W.heap.size + 1) rfl _ HZL.out H1.out rfl ⟨rfl, HB.out.trans (O1.out.below (by simp) HB.out.size)⟩
end Go.Proofs.Ytfmcabgcckllcaa
