import Derived.Test.YtjhmdflagkenbaaRefLaidQ
import Derived.Test.YtjhmdflagkenbaaZQ
/- The document's answer: a style with a row of declarations laid over. -/
namespace Go.Proofs.Ytjhmdflagkenbaa
open Go Go.RowKit
set_option linter.unusedVariables false
set_option linter.unusedSimpArgs false
set_option maxRecDepth 20000
set_option maxHeartbeats 4000000

theorem rmay_val (p w k n : Int) (b : Bool) (h : mayZ p w k n = b) (W : World) : Calls Try.prog 57 #[.agg #[.int .i64 p, .int .i64 w, .int .i64 k, .int .i64 n]] W fun e w' => e = .returned (.bool b) ∧ Below W.heap.size W w' :=
  h ▸ rmay_any p w k n W
theorem may_range {p w k n : Int} (h : mayZ p w k n = true) : 1 ≤ p ∧ p ≤ 32 := by
  refine Classical.byContradiction fun hc => ?_
  rw [may_out (by omega)] at h
  cases h
theorem rstyle_any (zs : List Int) (hz : zs.length = 43) (ds : List Dc) (A : Option Addr) (c : Nat) (W : World) (hR : Row W W.heap.size A (i64s (dCells ds))) (hm : ds.length ≤ 4611686018427387904) :
    Calls Try.prog 43 #[.agg (i64s zs).toArray, .slice A ds.length c] W fun e w' => e = .returned (.agg (i64s (styleZ zs ds)).toArray) ∧ Below W.heap.size W w' := by
  have HZ := Lib.hid hz
  have HR := Lib.hid hR
  clear hz hR
  go_enter Try.func43, Try.ntmps43
  go_wp2
  have S0 := Whole.mk (W.alloc (.cells (i64s zs).toArray 27)) 27 (i64s zeros43).toArray
  clear S0
  go_loopw [5] (fun i wr => ∃ k : Nat, k ≤ ds.length ∧ i = .int .i64 k ∧ Whole wr W.heap.size 27 (i64s (styleZ zs (ds.take k))) ∧ Whole wr (W.heap.size + 1) 27 (i64s zeros43) ∧ Below W.heap.size W wr) (fun i _ => ds.length - (intOf i).toNat)
  case atStart =>
    refine ⟨0, Nat.zero_le _, rfl, ?_, ?_, ((Below.refl _ _).alloc (Nat.le_refl _) _).alloc (by simp) _⟩
    · have h := Whole.mk W 27 (i64s zs).toArray
      simpa [styleZ] using h.made _
    · have h := Whole.mk (W.alloc (.cells (i64s zs).toArray 27)) 27 (i64s zeros43).toArray
      simp only [World.size_alloc] at h
      exact h
  case round =>
    obtain ⟨k, hk, rfl, hS, hO, hB⟩ := hrel
    have HS := Lib.hid hS
    have HO := Lib.hid hO
    have HB := Lib.hid hB
    have hzl : (styleZ zs (ds.take k)).length = 43 := (styleZ_length _ _).trans HZ.out
    have HZL := Lib.hid hzl
    clear hS hO hB hzl
    by_cases hlt : k < ds.length
    · obtain ⟨ad, rfl, had, e0, e1, e2, e3⟩ := (HR.out.below HB.out).dec hlt
      have HT := Lib.hid (styleZ_take zs ds k hlt)
      have hsz := HS.out.size
      have hsz1 := HO.out.size
      generalize hp : ds[k].p = p at *
      generalize hw : ds[k].w = wd at *
      generalize hkk : ds[k].k = kd at *
      generalize hn : ds[k].n = nv at *
      clear hp hw hkk hn
      generalize styleZ zs (ds.take k) = cur at *
      go_wp2_with fail
      cases hmay : mayZ p wd kd nv with
      | false =>
        rw [hmay, if_neg (by simp)] at HT
        refine (rmay_val _ _ _ _ false hmay _).mono ?_
        rintro e w1 ⟨rfl, b1⟩
        have HS1 := Lib.hid (HS.out.under b1 hsz)
        have HO1 := Lib.hid (HO.out.under b1 hsz1)
        have HB1 := Lib.hid (HB.out.trans (b1.mono HB.out.size))
        clear b1 hmay
        go_wp2
        go_roundw
        case rel => exact ⟨k + 1, by omega, by go_num, by rw [HT.out]; exact HS1.out, HO1.out, HB1.out⟩
        case measure => simp [intOf]; omega
      | true =>
        rw [hmay, if_pos rfl] at HT
        have hpr := may_range hmay
        refine (rmay_val _ _ _ _ true hmay _).mono ?_
        rintro e w1 ⟨rfl, b1⟩
        have HS1 := Lib.hid (HS.out.under b1 hsz)
        have HO1 := Lib.hid (HO.out.under b1 hsz1)
        have HB1 := Lib.hid (HB.out.trans (b1.mono HB.out.size))
        have had1 : ad.block < W.heap.size := had
        have hzw : W.heap.size < w1.heap.size := HS1.out.size
        have hza : (ad.add (k * 4)).block < w1.heap.size := by rw [add_block]; omega
        have hzb : (ad.add (k * 4)).block < wr.heap.size := by rw [add_block]; omega
        have K0 : ∀ s : Later w1.heap.size w1, s.w.cell? (ad.add (k * 4)) = some (.int .i64 p) := fun s => (s.h.cell hza).trans ((b1.cell hzb).trans e0)
        have K1 : ∀ s : Later w1.heap.size w1, s.w.cell? ⟨(ad.add (k * 4)).block, (ad.add (k * 4)).off + 1, none⟩ = some (.int .i64 wd) := fun s => (s.h.cell (p := ⟨(ad.add (k * 4)).block, (ad.add (k * 4)).off + 1, none⟩) hza).trans ((b1.cell (p := ⟨(ad.add (k * 4)).block, (ad.add (k * 4)).off + 1, none⟩) hzb).trans e1)
        have K2 : ∀ s : Later w1.heap.size w1, s.w.cell? ⟨(ad.add (k * 4)).block, (ad.add (k * 4)).off + 2, none⟩ = some (.int .i64 kd) := fun s => (s.h.cell (p := ⟨(ad.add (k * 4)).block, (ad.add (k * 4)).off + 2, none⟩) hza).trans ((b1.cell (p := ⟨(ad.add (k * 4)).block, (ad.add (k * 4)).off + 2, none⟩) hzb).trans e2)
        have K3 : ∀ s : Later w1.heap.size w1, s.w.cell? ⟨(ad.add (k * 4)).block, (ad.add (k * 4)).off + 3, none⟩ = some (.int .i64 nv) := fun s => (s.h.cell (p := ⟨(ad.add (k * 4)).block, (ad.add (k * 4)).off + 3, none⟩) hza).trans ((b1.cell (p := ⟨(ad.add (k * 4)).block, (ad.add (k * 4)).off + 3, none⟩) hzb).trans e3)
        clear b1 hmay e0 e1 e2 e3
        have HP := Lib.hid hpr
        have HLL := Lib.hid ((laidZ_length cur p wd kd nv).trans HZL.out)
        clear hpr
        go_wp2
        refine region_lane [1, 2] [0, 3, 4, 5] [6] (by kernel_rfl) (by kernel_rfl) (fun _ _ _ _ _ h => h) ?_
        simp only [pick, List.map_cons, List.map_nil, List.getD_cons_zero, List.getD_cons_succ, List.drop_succ_cons, List.drop_zero]
        repeat (go_big_quiet_step (fail))
        refine wpQuiet_nil ?_
        refine ⟨rfl, ?_⟩
        refine laneO_fixed (v := .agg (i64s cur).toArray) (by kernel_rfl) (fun w hw => .inl ⟨by rfl, gives_style (.tmp 2) rfl W.heap.size rfl cur HZL.out (HS1.out.under hw hzw)⟩) ?_
        simp only [Act.put, List.setIfInBounds_toArray, List.set_cons_zero, List.set_cons_succ]
        refine laneO_run 2 (by kernel_rfl) ?_
        simp only [List.take_succ_cons, List.take_zero, List.drop_succ_cons, List.drop_zero]
        repeat (go_big_quiet_step (fail))
        refine wpQuiet_nil ?_
        refine laneO_call (v := .agg (i64s (laidZ cur p wd kd nv)).toArray) (by kernel_rfl) (by rfl) (fun C hC h0 => ?_) ?_
        focus (go_big_quiet_op; exact ⟨_, fun w hw => (rlaid_any cur HZL.out p wd kd nv HP.out.1 HP.out.2 w).mono fun e w' ⟨he, hb⟩ => ⟨he, hC _ _ hw hb⟩, rfl⟩)
        simp only [Act.put, List.setIfInBounds_toArray, List.set_cons_zero, List.set_cons_succ]
        refine laneO_end0 rfl rfl fun w2 hb0 => ?_
        have hb2 : Below w1.heap.size w1 w2 := hb0
        have HS2 := Lib.hid (HS1.out.under hb2 hzw)
        have HO2 := Lib.hid (HO1.out.under hb2 HO1.out.size)
        have HB2 := Lib.hid (HB1.out.trans (hb2.mono HB1.out.size))
        clear hb0 hb2 K0 K1 K2 K3 HS1 HO1 HB1
        refine style_store (.tmp 2) (.tmp 22) rfl rfl W.heap.size rfl (laidZ cur p wd kd nv) HLL.out rfl cur HS2.out HZL.out ?_
        intro w3 h3 o3
        have HS3 := Lib.hid h3
        have HO3 := Lib.hid (o3.whole HO2.out (by simp))
        have HB3 := Lib.hid (HB2.out.trans (o3.below (by simp) HB2.out.size))
        clear h3 o3
        go_wp2
        go_roundw
        case rel => exact ⟨k + 1, by omega, by go_num, by rw [HT.out]; exact HS3.out, HO3.out, HB3.out⟩
        case measure => simp [intOf]; omega
    · have : k = ds.length := by omega
      subst this
      rw [List.take_length] at HS HZL
      have hB := HB.out
      go_wp2_with (first
        | (refine style_load (.tmp 2) rfl rfl W.heap.size rfl (styleZ zs ds) HZL.out HS.out ?_)
        | (refine style_store (.tmp 4) (.tmp 23) rfl rfl (W.heap.size + 1) rfl (styleZ zs ds) HZL.out rfl zeros43 HO.out rfl ?_; intro w1 h1 o1; have H1 := Lib.hid h1; have O1 := Lib.hid o1; clear h1 o1))
      exact style_end rfl (W.heap.size + 1) rfl _ HZL.out H1.out rfl ⟨rfl, HB.out.trans (O1.out.below (by simp) HB.out.size)⟩
end Go.Proofs.Ytjhmdflagkenbaa
