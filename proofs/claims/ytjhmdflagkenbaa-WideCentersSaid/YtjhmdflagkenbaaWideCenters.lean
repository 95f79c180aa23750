import Derived.Test.YtjhmdflagkenbaaWdAwake
/- WideCenters answers true. -/
namespace Go.Proofs.Ytjhmdflagkenbaa
open Go Go.RowKit
set_option linter.unusedVariables false
set_option linter.unusedSimpArgs false
set_option maxRecDepth 20000
set_option maxHeartbeats 4000000

def stC (w pad lk rk : Int) : List Int := [0, 0, 0, 0, 0, 0, 0, 0, 0,  1, w, 0, 0, 1, 0, 0, 0, 0, 0, 0, 0, 0, 0,  1, 0, rk, 0, 1, 0, lk, 0,  0, pad, 0, pad,  0, 0, 0, 0,  0, 0, 0,  0]
def wantC (free : Int) (left right : Bool) : Int := if 0 < free ∧ left = true then (if right = true then free / 2 else free) else 0
def kOf (b : Bool) : Int := if b = true then 0 else 1
theorem stC_in (w pad lk rk : Int) (h1 : 0 ≤ w ∧ w < 65536) (h2 : 0 ≤ pad ∧ pad < 256) (h3 : 0 ≤ lk ∧ lk ≤ 1) (h4 : 0 ≤ rk ∧ rk ≤ 1) : ∀ z ∈ stC w pad lk rk, I64 z := by
  intro z hz
  simp only [stC, List.mem_cons, List.not_mem_nil, or_false] at hz
  unfold I64
  omega
theorem centers_num (w pad base : Int) (left right : Bool) (h1 : 0 ≤ w ∧ w < 65536) (h2 : 0 ≤ pad ∧ pad < 256) (h3 : 0 ≤ base ∧ base < 65536) :
    wleftZ (stC w pad (kOf left) (kOf right)) base = wantC (base - w - 2 * pad) left right ∧ wwZ (stC w pad (kOf left) (kOf right)) base = w ∧ wrightZ (stC w pad (kOf left) (kOf right)) base = base - w - 2 * pad - wantC (base - w - 2 * pad) left right := by
  have hb : befZ (stC w pad (kOf left) (kOf right)) base = 0 := by cases left <;> rfl
  have ha : aftZ (stC w pad (kOf left) (kOf right)) base = 0 := by cases right <;> rfl
  have h3' : edgZ (stC w pad (kOf left) (kOf right)) 3 = pad := (show heldT (pad + 0) = pad by rw [Int.add_zero]; exact heldT_in ⟨by omega, by omega⟩)
  have h1' : edgZ (stC w pad (kOf left) (kOf right)) 1 = pad := (show heldT (pad + 0) = pad by rw [Int.add_zero]; exact heldT_in ⟨by omega, by omega⟩)
  have hg : wgetsZ (stC w pad (kOf left) (kOf right)) (base - (0 + pad + pad + 0) - w) = wantC (base - w - 2 * pad) left right := by
    have e : base - (0 + pad + pad + 0) - w = base - w - 2 * pad := by omega
    rw [e]
    show (if base - w - 2 * pad < 0 ∨ kOf left ≠ 0 then 0 else if kOf right = 0 then (base - w - 2 * pad) / 2 else base - w - 2 * pad) = _
    unfold wantC
    cases left <;> cases right <;> simp [kOf] <;> (try split) <;> (try split) <;> omega
  obtain ⟨r1, r2, r3⟩ := width_is (stC w pad (kOf left) (kOf right)) base 0 0 pad pad 0 (-1) w w _ hb ha h3' h1' rfl rfl rfl (by unfold clampZ; rw [if_neg (by decide)]; omega) hg
  have hw : 0 ≤ wantC (base - w - 2 * pad) left right ∧ wantC (base - w - 2 * pad) left right ≤ 65536 := by unfold wantC; split <;> (try split) <;> omega
  refine ⟨by rw [r1, Int.add_zero]; exact heldT_in ⟨by omega, by omega⟩, r2, ?_⟩
  rw [r3]
  rw [show base - (0 + pad + pad + 0) - w - wantC (base - w - 2 * pad) left right + 0 = base - w - 2 * pad - wantC (base - w - 2 * pad) left right by omega]
  exact heldT_in ⟨by omega, by omega⟩
theorem wideCenters_any (w0 pad0 base0 : Int) (left right : Bool) (W : World) : Calls Try.prog 3 #[.int .i64 w0, .int .i64 pad0, .int .i64 base0, .bool left, .bool right] W fun e w' => e = .returned (.bool true) ∧ Below W.heap.size W w' := by
  obtain ⟨w, hw, lw⟩ : ∃ k : Int, bits .and .i64 w0 65535 = k ∧ 0 ≤ k ∧ k < 65536 := ⟨w0 % 65536, and_mask_i64 w0 16 (by decide), by omega, by omega⟩
  obtain ⟨pad, hp, lp⟩ : ∃ k : Int, bits .and .i64 pad0 255 = k ∧ 0 ≤ k ∧ k < 256 := ⟨pad0 % 256, and_mask_i64 pad0 8 (by decide), by omega, by omega⟩
  obtain ⟨base, hbs, lb⟩ : ∃ k : Int, bits .and .i64 base0 65535 = k ∧ 0 ≤ k ∧ k < 65536 := ⟨base0 % 65536, and_mask_i64 base0 16 (by decide), by omega, by omega⟩
  obtain ⟨n1, n2, n3⟩ := centers_num w pad base left right lw lp lb
  have HW := Lib.hid (fun w' => width_any (stC w pad (kOf left) (kOf right)) rfl (stC_in w pad _ _ lw lp (by unfold kOf; split <;> omega) (by unfold kOf; split <;> omega)) base (by unfold I64; omega) w')
  rw [n1, n2, n3] at HW
  clear n1 n2 n3
  have L1 : ∀ b : Bool, 0 ≤ kOf b ∧ kOf b ≤ 1 := fun b => by cases b <;> decide
  have B0 := Lib.hid (((Below.refl W.heap.size W).alloc (Nat.le_refl _) (.cells #[.int .i64 1, .int .i64 0] 23)).alloc (by simp) (.cells (i64s zeros43).toArray 27))
  have Z0 : Hid (Whole ((W.alloc (.cells #[.int .i64 1, .int .i64 0] 23)).alloc (.cells (i64s zeros43).toArray 27)) (W.heap.size + 1) 27 (i64s zeros43)) := Lib.hid (by have h := Whole.mk (W.alloc (.cells #[.int .i64 1, .int .i64 0] 23)) 27 (i64s zeros43).toArray; simp only [World.size_alloc] at h; exact h)
  go_enter Try.func3, Try.ntmps3
  go_upto_region 4 with (first
    | (refine cells_build 27 _ rfl rfl (i64s (stC w pad 1 1)) (by kernel_rfl) ?_)
    | (refine style_store (.tmp 12) (.tmp 34) rfl rfl (W.heap.size + 1) rfl (stC w pad 1 1) rfl rfl zeros43 ?_ rfl ?_; (focus (exact Z0.out)); intro w4 h4 o4; have S4 := Lib.hid h4; have B4 := Lib.hid (B0.out.trans (o4.below (by intro x hx; simp at hx; omega) B0.out.size)); clear h4 o4))
  clear Z0 B0
  go_upto_if 35 with fail
  go_cut [] from 35 to 39 (fun wx => Whole wx (W.heap.size + 1) 27 (i64s (stC w pad (kOf left) 1)) ∧ Below W.heap.size W wx)
  case first =>
    cases left
    · go_wp2_with fail
      go_meet
      exact ⟨S4.out, B4.out⟩
    · have c0 : w4.cell? ⟨W.heap.size + 1, 29, none⟩ = some (.int .i64 1) := S4.out.cell 29
      have c1 : w4.cell? ⟨W.heap.size + 1, 30, none⟩ = some (.int .i64 0) := S4.out.cell 30
      have f0 := S4.out.free 29
      have f1 := S4.out.free 30
      have S5 : Hid (Whole ((w4.setCell ⟨W.heap.size + 1, 29, none⟩ (.int .i64 0)).setCell ⟨W.heap.size + 1, 30, none⟩ (.int .i64 0)) (W.heap.size + 1) 27 (i64s (stC w pad 0 1))) := Lib.hid ((S4.out.putNum 29 0).putNum 30 0)
      have B5 := Lib.hid ((B4.out.setCell (p := ⟨W.heap.size + 1, 29, none⟩) (by simp) (.int .i64 0)).setCell (p := ⟨W.heap.size + 1, 30, none⟩) (by simp) (.int .i64 0))
      go_wp2_with fail
      go_meet
      exact ⟨S5.out, B5.out⟩
  case rest =>
    have S5 := Lib.hid hcut.1
    have B5 := Lib.hid hcut.2
    clear hcut S4 B4
    go_upto_if 39 with fail
    go_cut [] from 39 to 43 (fun wx => Whole wx (W.heap.size + 1) 27 (i64s (stC w pad (kOf left) (kOf right))) ∧ Below W.heap.size W wx)
    case first =>
      cases right
      · go_wp2_with fail
        go_meet
        exact ⟨S5.out, B5.out⟩
      · have c0 : wc.cell? ⟨W.heap.size + 1, 25, none⟩ = some (.int .i64 1) := S5.out.cell 25
        have c1 : wc.cell? ⟨W.heap.size + 1, 26, none⟩ = some (.int .i64 0) := S5.out.cell 26
        have f0 := S5.out.free 25
        have f1 := S5.out.free 26
        have S6 : Hid (Whole ((wc.setCell ⟨W.heap.size + 1, 25, none⟩ (.int .i64 0)).setCell ⟨W.heap.size + 1, 26, none⟩ (.int .i64 0)) (W.heap.size + 1) 27 (i64s (stC w pad (kOf left) 0))) := Lib.hid ((S5.out.putNum 25 0).putNum 26 0)
        have B6 := Lib.hid ((B5.out.setCell (p := ⟨W.heap.size + 1, 25, none⟩) (by simp) (.int .i64 0)).setCell (p := ⟨W.heap.size + 1, 26, none⟩) (by simp) (.int .i64 0))
        go_wp2_with fail
        go_meet
        exact ⟨S6.out, B6.out⟩
    case rest =>
      have S6 := Lib.hid hcut.1
      have B6 := Lib.hid hcut.2
      clear hcut S5 B5
      go_wp2_with (refine style_load (.tmp 12) rfl rfl (W.heap.size + 1) rfl (stC w pad (kOf left) (kOf right)) rfl ?_ ?_; (focus (exact S6.out)))
      refine (HW.out _).mono ?_
      rintro e w8 ⟨rfl, hb⟩
      have B8 := Lib.hid (B6.out.trans (hb.mono B6.out.size))
      clear hb HW S6 B6
      have bw : 0 ≤ wantC (base - w - 2 * pad) left right ∧ wantC (base - w - 2 * pad) left right ≤ 65536 := by unfold wantC; split <;> (try split) <;> omega
      have WD := Lib.hid (fun (h : 0 < base - w - 2 * pad) (h2 : left = true) (h3 : right = true) => show wantC (base - w - 2 * pad) left right = (base - w - 2 * pad) / 2 by unfold wantC; rw [if_pos ⟨h, h2⟩, if_pos h3])
      have WF := Lib.hid (fun (h : 0 < base - w - 2 * pad) (h2 : left = true) (h3 : right = false) => show wantC (base - w - 2 * pad) left right = base - w - 2 * pad by unfold wantC; rw [if_pos ⟨h, h2⟩, if_neg (by rw [h3]; decide)])
      have WZ := Lib.hid (fun (h : ¬ (0 < base - w - 2 * pad ∧ left = true)) => show wantC (base - w - 2 * pad) left right = 0 by unfold wantC; rw [if_neg h])
      have bf : -131072 ≤ base - w - 2 * pad ∧ base - w - 2 * pad ≤ 65536 := by omega
      generalize hfr : base - w - 2 * pad = free at *
      generalize wantC free left right = want at *
      by_cases hf : 0 < free
      · have hd : decide (0 < free) = true := by rw [decide_eq_true_eq]; exact hf
        cases left
        · have e := WZ.out (fun h => by cases h.2)
          clear WZ WD WF
          subst e
          have B9 := Lib.hid (B8.out.alloc B8.out.size (.cells #[.int .i64 (0), .int .i64 w, .int .i64 (free)] 29))
          have R9 := Lib.hid (Whole.mk w8 29 #[.int .i64 (0), .int .i64 w, .int .i64 (free)])
          go_upto_region 15 with fail
          generalize w8.alloc _ = w9 at *
          generalize w8.heap.size = q at *
          have c0 : w9.cell? ⟨q, 0, none⟩ = some (.int .i64 (0)) := R9.out.cell 0
          have c1 : w9.cell? ⟨q, 1, none⟩ = some (.int .i64 w) := R9.out.cell 1
          have c2 : w9.cell? ⟨q, 2, none⟩ = some (.int .i64 (free)) := R9.out.cell 2
          go_wp2_with fail
          refine (wawake_any _).mono ?_
          rintro e w10 ⟨rfl, hb⟩
          have B10 := Lib.hid (B9.out.trans (hb.mono B9.out.size))
          go_wp2_with fail
          go_ret
          exact ⟨rfl, B10.out⟩
        · cases right
          · have e := WF.out hf rfl rfl
            clear WZ WD WF
            subst e
            have B9 := Lib.hid (B8.out.alloc B8.out.size (.cells #[.int .i64 (want), .int .i64 w, .int .i64 (0)] 29))
            have R9 := Lib.hid (Whole.mk w8 29 #[.int .i64 (want), .int .i64 w, .int .i64 (0)])
            go_upto_region 15 with fail
            generalize w8.alloc _ = w9 at *
            generalize w8.heap.size = q at *
            have c0 : w9.cell? ⟨q, 0, none⟩ = some (.int .i64 (want)) := R9.out.cell 0
            have c1 : w9.cell? ⟨q, 1, none⟩ = some (.int .i64 w) := R9.out.cell 1
            have c2 : w9.cell? ⟨q, 2, none⟩ = some (.int .i64 (0)) := R9.out.cell 2
            go_wp2_with fail
            refine (wawake_any _).mono ?_
            rintro e w10 ⟨rfl, hb⟩
            have B10 := Lib.hid (B9.out.trans (hb.mono B9.out.size))
            go_wp2_with fail
            go_ret
            exact ⟨rfl, B10.out⟩
          · have e := WD.out hf rfl rfl
            have e2 : free.tdiv 2 = free / 2 := Int.tdiv_eq_ediv_of_nonneg (by omega)
            rw [← e2] at e
            clear WZ WD WF e2
            subst e
            have B9 := Lib.hid (B8.out.alloc B8.out.size (.cells #[.int .i64 (free.tdiv 2), .int .i64 w, .int .i64 (free - free.tdiv 2)] 29))
            have R9 := Lib.hid (Whole.mk w8 29 #[.int .i64 (free.tdiv 2), .int .i64 w, .int .i64 (free - free.tdiv 2)])
            go_upto_region 15 with fail
            generalize w8.alloc _ = w9 at *
            generalize w8.heap.size = q at *
            have c0 : w9.cell? ⟨q, 0, none⟩ = some (.int .i64 (free.tdiv 2)) := R9.out.cell 0
            have c1 : w9.cell? ⟨q, 1, none⟩ = some (.int .i64 w) := R9.out.cell 1
            have c2 : w9.cell? ⟨q, 2, none⟩ = some (.int .i64 (free - free.tdiv 2)) := R9.out.cell 2
            go_wp2_with fail
            refine (wawake_any _).mono ?_
            rintro e w10 ⟨rfl, hb⟩
            have B10 := Lib.hid (B9.out.trans (hb.mono B9.out.size))
            go_wp2_with fail
            go_ret
            exact ⟨rfl, B10.out⟩
      · have hd : decide (0 < free) = false := by rw [decide_eq_false_iff_not]; exact hf
        have e := WZ.out (fun h => hf h.1)
        clear WZ WD WF
        subst e
        have B9 := Lib.hid (B8.out.alloc B8.out.size (.cells #[.int .i64 (0), .int .i64 w, .int .i64 (free)] 29))
        have R9 := Lib.hid (Whole.mk w8 29 #[.int .i64 (0), .int .i64 w, .int .i64 (free)])
        go_upto_region 15 with fail
        generalize w8.alloc _ = w9 at *
        generalize w8.heap.size = q at *
        have c0 : w9.cell? ⟨q, 0, none⟩ = some (.int .i64 (0)) := R9.out.cell 0
        have c1 : w9.cell? ⟨q, 1, none⟩ = some (.int .i64 w) := R9.out.cell 1
        have c2 : w9.cell? ⟨q, 2, none⟩ = some (.int .i64 (free)) := R9.out.cell 2
        go_wp2_with fail
        refine (wawake_any _).mono ?_
        rintro e w10 ⟨rfl, hb⟩
        have B10 := Lib.hid (B9.out.trans (hb.mono B9.out.size))
        go_wp2_with fail
        go_ret
        exact ⟨rfl, B10.out⟩
end Go.Proofs.Ytjhmdflagkenbaa
