import Derived.Test.YtmlnpphblicghaaBrkSame
import Derived.Test.YtmlnpphblicghaaBrkTame
import Derived.Test.YtmlnpphblicghaaBrkWide
import Derived.Test.YtmlnpphblicghaaKeepNum
import Derived.Test.YtmlnpphblicghaaPush
import Derived.Lib.MinMax
/- BrkWhole answers true. -/
namespace Go.Proofs.Ytmlnpphblicghaa
open Go Go.RowKit
set_option linter.unusedVariables false
set_option linter.unusedSimpArgs false
set_option maxRecDepth 20000
set_option maxHeartbeats 2000000

/-- Two rows of the call's own, and a block of two sums. -/
structure TwoR (W w : World) (b2 gs : Nat) (A1 : Option Addr) (n1 c1 : Nat) (L1 : List Gl) (A2 : Option Addr) (n2 c2 : Nat) (L2 : List Gl) (s0 s1 : Int) : Prop where
  ra : w.ownsRow W.heap.size 24 4 (.slice A1 n1 c1) n1 (i64s (gCells L1))
  rb : w.ownsRow b2 24 4 (.slice A2 n2 c2) n2 (i64s (gCells L2))
  fa : ∀ g, (Value.slice A1 n1 c1).ownBlock = some g → g < b2
  fs : ∀ g, (Value.slice A2 n2 c2).ownBlock = some g → g < gs
  hb : W.heap.size ≤ b2
  hs : b2 ≤ gs
  sm : Whole w gs 33 [.int .i64 s0, .int .i64 s1]
  low : Below W.heap.size W w
section
variable {W w w' : World} {b2 gs : Nat} {A1 A2 : Option Addr} {n1 c1 n2 c2 : Nat} {L1 L2 : List Gl} {s0 s1 : Int}
theorem TwoR.behind (h : TwoR W w b2 gs A1 n1 c1 L1 A2 n2 c2 L2 s0 s1) (hb : Below w.heap.size w w') : TwoR W w' b2 gs A1 n1 c1 L1 A2 n2 c2 L2 s0 s1 :=
  ⟨own_below h.ra hb (Nat.le_refl _), own_below h.rb hb (Nat.le_refl _), h.fa, h.fs, h.hb, h.hs, h.sm.under hb h.sm.size, h.low.trans (hb.mono h.low.size)⟩
theorem TwoR.put0 (h : TwoR W w b2 gs A1 n1 c1 L1 A2 n2 c2 L2 s0 s1) (s : Int) : TwoR W (w.setCell ⟨gs, 0, none⟩ (.int .i64 s)) b2 gs A1 n1 c1 L1 A2 n2 c2 L2 s s1 :=
  ⟨ownsRow_setCell_other h.ra (a := ⟨gs, 0, none⟩) (fun e => by have := h.fa gs e; have := h.hs; omega) _, ownsRow_setCell_other h.rb (a := ⟨gs, 0, none⟩) (fun e => by have := h.fs gs e; omega) _, h.fa, h.fs, h.hb, h.hs, h.sm.put 0 _, h.low.setCell (p := ⟨gs, 0, none⟩) (by have := h.hb; have := h.hs; show W.heap.size ≤ gs; omega) _⟩
theorem TwoR.put1 (h : TwoR W w b2 gs A1 n1 c1 L1 A2 n2 c2 L2 s0 s1) (s : Int) : TwoR W (w.setCell ⟨gs, 1, none⟩ (.int .i64 s)) b2 gs A1 n1 c1 L1 A2 n2 c2 L2 s0 s :=
  ⟨ownsRow_setCell_other h.ra (a := ⟨gs, 1, none⟩) (fun e => by have := h.fa gs e; have := h.hs; omega) _, ownsRow_setCell_other h.rb (a := ⟨gs, 1, none⟩) (fun e => by have := h.fs gs e; omega) _, h.fa, h.fs, h.hb, h.hs, h.sm.put 1 _, h.low.setCell (p := ⟨gs, 1, none⟩) (by have := h.hb; have := h.hs; show W.heap.size ≤ gs; omega) _⟩
theorem TwoR.kindA {g : Nat} {l : List Gl} {v : Int} (k : Nat) (hk : k < l.length) (h : TwoR W w b2 gs (some ⟨g, 0, none⟩) n1 c1 (midK v l k) A2 n2 c2 L2 s0 s1) : TwoR W (w.setCell ⟨g, k * 4, none⟩ (.int .i64 v)) b2 gs (some ⟨g, 0, none⟩) n1 c1 (midK v l (k + 1)) A2 n2 c2 L2 s0 s1 := by
  have h1 := (h.ra.stored (k * 4) (.int .i64 v)).1
  rw [midK_put v l k hk] at h1
  have hg : g < b2 := h.fa g rfl
  exact ⟨h1, ownsRow_setCell_other h.rb (a := ⟨g, k * 4, none⟩) (fun e => by have := (h.rb.lt g e).1; omega) _, h.fa, h.fs, h.hb, h.hs, h.sm.other (p := ⟨g, k * 4, none⟩) (by have := h.hs; show gs ≠ g; omega) _, h.low.setCell (p := ⟨g, k * 4, none⟩) (h.ra.lt g rfl).1 _⟩
theorem TwoR.kindB {g : Nat} {l : List Gl} {v : Int} (k : Nat) (hk : k < l.length) (h : TwoR W w b2 gs A1 n1 c1 L1 (some ⟨g, 0, none⟩) n2 c2 (midK v l k) s0 s1) : TwoR W (w.setCell ⟨g, k * 4, none⟩ (.int .i64 v)) b2 gs A1 n1 c1 L1 (some ⟨g, 0, none⟩) n2 c2 (midK v l (k + 1)) s0 s1 := by
  have h1 := (h.rb.stored (k * 4) (.int .i64 v)).1
  rw [midK_put v l k hk] at h1
  have hg : g < gs := h.fs g rfl
  have hg2 := (h.rb.lt g rfl).1
  exact ⟨ownsRow_setCell_other h.ra (a := ⟨g, k * 4, none⟩) (fun e => by have := h.fa g e; omega) _, h1, h.fa, h.fs, h.hb, h.hs, h.sm.other (p := ⟨g, k * 4, none⟩) (by show gs ≠ g; omega) _, h.low.setCell (p := ⟨g, k * 4, none⟩) (by have := h.hb; show W.heap.size ≤ g; omega) _⟩
theorem TwoR.cellsA {g : Nat} {l : List Gl} {v : Int} {k : Nat} (h : TwoR W w b2 gs (some ⟨g, 0, none⟩) n1 c1 (midK v l k) A2 n2 c2 L2 s0 s1) (hn : n1 = l.length) (hk : k < l.length) :
    w.cell? ⟨g, k * 4, none⟩ = some (.int .i64 l[k].kind) ∧ w.frozen? ⟨g, k * 4, none⟩ = false := by
  refine ⟨(h.ra.cellAt _ (by omega)).trans ?_, h.ra.frozenAt _⟩
  have := (gCells_get (midK v l k) k (by rw [midK_length]; exact hk)).1
  rw [midK_get v l k hk] at this
  exact i64s_at this
theorem midK_got (v : Int) (l : List Gl) (k : Nat) (h : k < l.length) : (midK v l (k + 1))[k]'(by rw [midK_length]; exact h) = setK v l[k] := by
  simp only [midK_succ v l k h, List.getElem_set_self]
theorem TwoR.advA {g : Nat} {l : List Gl} {v : Int} {k : Nat} (h : TwoR W w b2 gs (some ⟨g, 0, none⟩) n1 c1 (midK v l (k + 1)) A2 n2 c2 L2 s0 s1) (hn : n1 = l.length) (hk : k < l.length) :
    w.cell? ⟨g, k * 4 + 3, none⟩ = some (.int .i64 l[k].adv) := by
  refine (h.ra.cellAt _ (by omega)).trans ?_
  have := (gCells_get (midK v l (k + 1)) k (by rw [midK_length]; exact hk)).2.2.2
  rw [midK_got v l k hk] at this
  exact i64s_at this
theorem TwoR.cellsB {g : Nat} {l : List Gl} {v : Int} {k : Nat} (h : TwoR W w b2 gs A1 n1 c1 L1 (some ⟨g, 0, none⟩) n2 c2 (midK v l k) s0 s1) (hn : n2 = l.length) (hk : k < l.length) :
    w.cell? ⟨g, k * 4, none⟩ = some (.int .i64 l[k].kind) ∧ w.frozen? ⟨g, k * 4, none⟩ = false := by
  refine ⟨(h.rb.cellAt _ (by omega)).trans ?_, h.rb.frozenAt _⟩
  have := (gCells_get (midK v l k) k (by rw [midK_length]; exact hk)).1
  rw [midK_get v l k hk] at this
  exact i64s_at this
theorem TwoR.advB {g : Nat} {l : List Gl} {v : Int} {k : Nat} (h : TwoR W w b2 gs A1 n1 c1 L1 (some ⟨g, 0, none⟩) n2 c2 (midK v l (k + 1)) s0 s1) (hn : n2 = l.length) (hk : k < l.length) :
    w.cell? ⟨g, k * 4 + 3, none⟩ = some (.int .i64 l[k].adv) := by
  refine (h.rb.cellAt _ (by omega)).trans ?_
  have := (gCells_get (midK v l (k + 1)) k (by rw [midK_length]; exact hk)).2.2.2
  rw [midK_got v l k hk] at this
  exact i64s_at this
end
theorem empty_row (w : World) : (w.alloc (.cells #[] 24)).ownsRow w.heap.size 24 4 (.slice (some ⟨w.heap.size, 0, none⟩) 0 0) 0 [] :=
  ⟨rfl, .inr ⟨w.heap.size, 0, #[], rfl, Nat.le_refl _, Whole.mk w 24 #[], Nat.le_refl _, by decide, rfl, rfl⟩⟩
theorem own_cells {w : World} {b e size g n c : Nat} {xs : List Value} (h : w.ownsRow b e size (.slice (some ⟨g, 0, none⟩) n c) n xs) : ∀ j u, xs[j]? = some u → w.cell? ((⟨g, 0, none⟩ : Addr).add j) = some u := fun j u hu => by
  obtain ⟨hj, hv⟩ := List.getElem?_eq_some_iff.1 hu
  obtain ⟨ad, e1, -, hc⟩ := (row_of_own h).get hj
  injection e1 with e1
  rw [e1, hc, hv]
theorem row_both (x y : List Gl) : (i64s (gCells x) ++ (#[.int .i64 4, .int .i64 0, .int .i64 0, .int .i64 0] : Array Value).toList) ++ i64s (gCells y) = i64s (gCells (bothL x y)) := by
  unfold bothL
  rw [gCells_append, gCells_append, i64s_append, i64s_append]; rfl
theorem fine_setK (v : Int) {l : List Gl} (h : FineG l) : FineG (l.map (setK v)) := ⟨by rw [List.length_map]; exact h.1, fun x hx => by obtain ⟨y, hy, rfl⟩ := List.mem_map.1 hx; exact h.2 y hy⟩
theorem adv_setK (v : Int) {l : List Gl} (h : Adv0 l) : Adv0 (l.map (setK v)) := fun x hx => by obtain ⟨y, hy, rfl⟩ := List.mem_map.1 hx; exact h y hy
theorem fine_both {x y : List Gl} (hx : FineG x) (hy : FineG y) (hl : x.length + y.length ≤ 1000) : FineG (bothL x y) := ⟨by rw [bothL_len]; omega, fun z hz => by
  unfold bothL at hz
  simp only [List.mem_append, List.mem_singleton] at hz
  rcases hz with (hz | rfl) | hz
  · exact hx.2 z hz
  · decide
  · exact hy.2 z hz⟩
theorem adv_both {x y : List Gl} (hx : Adv0 x) (hy : Adv0 y) : Adv0 (bothL x y) := fun z hz => by
  unfold bothL at hz
  simp only [List.mem_append, List.mem_singleton] at hz
  rcases hz with (hz | rfl) | hz
  · exact hx z hz
  · decide
  · exact hy z hz
theorem brkWhole_any (gs : List Gl) (A : Option Addr) (c : Nat) (hs : List Gl) (B : Option Addr) (d : Nat) (a : Int) (W : World) (hR : Row W W.heap.size A (i64s (gCells gs))) (hR' : Row W W.heap.size B (i64s (gCells hs))) :
    Calls Try.prog 4 #[.slice A gs.length c, .slice B hs.length d, .int .i64 a] W fun e w' => e = .returned (.bool true) ∧ Below W.heap.size W w' := by
  have TG := Lib.hid (tameGlyphs_any gs A c W hR)
  have TH := Lib.hid (fun w (hR : Row w w.heap.size B (i64s (gCells hs))) => tameGlyphs_any hs B d w hR)
  have RB := Lib.hid hR'
  have NG := Lib.hid (tameG_fine gs)
  have NH := Lib.hid (tameG_fine hs)
  have NA : Hid (Adv0 (tameG gs)) := Lib.hid (fun x hx => (tameG_mem hx).2.1)
  have NB : Hid (Adv0 (tameG hs)) := Lib.hid (fun x hx => (tameG_mem hx).2.1)
  have HT : I64 (a.tmod 1099511627776) := by
    have h1 := Int.tmod_lt_of_pos a (b := 1099511627776) (by decide)
    have h2 := Int.lt_tmod_of_pos a (b := 1099511627776) (by decide)
    unfold I64; omega
  have HT := Lib.hid HT
  clear hR hR'
  have hgl : (tameG gs).length ≤ 200 ∧ (tameG hs).length ≤ 200 := by rw [tameG_len, tameG_len]; omega
  generalize tameG gs = g at *
  generalize tameG hs = h at *
  go_enter Try.func4, Try.ntmps4
  go_upto_region 2 with fail
  generalize a.tmod 1099511627776 = b at *
  go_wp2_with fail
  refine TG.out.mono ?_
  rintro e w1 ⟨A1, c1, rfl, ho1, hb1⟩
  have B1 := Lib.hid hb1
  have O1 := Lib.hid ho1
  have R1 := Lib.hid ((RB.out.below hb1).more hb1.size)
  clear ho1 hb1 TG RB
  go_wp2_with fail
  refine (TH.out _ R1.out).mono ?_
  rintro e w2 ⟨A2, c2, rfl, ho2, hb2⟩
  have B2 := Lib.hid (B1.out.trans (hb2.mono B1.out.size))
  have O1' := Lib.hid (own_below O1.out hb2 (Nat.le_refl _))
  have O2 := Lib.hid ho2
  have z1 := B1.out.size
  have FA : Hid (∀ x, (Value.slice A1 g.length c1).ownBlock = some x → x < w1.heap.size) := Lib.hid (fun x hx => (O1.out.lt x hx).2)
  have z12 := hb2.size
  clear ho2 hb2 TH R1 B1 O1
  go_upto_region 4 with fail
  have S0 : Hid (TwoR W (w2.alloc (.cells #[.int .i64 0, .int .i64 0] 33)) w1.heap.size w2.heap.size A1 g.length c1 (midK 1 g 0) A2 h.length c2 h 0 0) := Lib.hid (by
    have hb3 : Below w2.heap.size w2 (w2.alloc (.cells #[.int .i64 0, .int .i64 0] 33)) := (Below.refl _ w2).alloc (Nat.le_refl _) _
    rw [midK_zero]
    exact ⟨own_below O1'.out hb3 (Nat.le_refl _), own_below O2.out hb3 (Nat.le_refl _), FA.out, fun x hx => (O2.out.lt x hx).2, z1, z12, Whole.mk w2 33 #[.int .i64 0, .int .i64 0], B2.out.trans (hb3.mono B2.out.size)⟩)
  clear B2 O1' O2 FA z1 z12
  generalize w2.alloc _ = w3 at *
  generalize w2.heap.size = gx at *
  generalize w1.heap.size = b2 at *
  go_wp2
  go_loopw [8] (fun v8 wr => ∃ k : Nat, v8 = .int .i64 k ∧ k ≤ g.length ∧ Hid (TwoR W wr b2 gx A1 g.length c1 (midK 1 g k) A2 h.length c2 h (sumT g 0 k) 0)) (fun v8 _ => g.length - (intOf v8).toNat)
  case atStart => exact ⟨0, rfl, Nat.zero_le _, Lib.hid (by rw [sumT_self]; exact S0.out)⟩
  case round =>
    clear S0
    obtain ⟨k, rfl, hk, HS⟩ := hrel
    by_cases hlt : k < g.length
    · have hli : (k : Int) < g.length := by omega
      have hA : ∃ ga, A1 = some ⟨ga, 0, none⟩ := by
        obtain ⟨ga, cc, hv, -, -, -⟩ := owns_some HS.out.ra (by omega)
        injection hv with h1 h2 h3
        exact ⟨ga, h1⟩
      obtain ⟨ga, rfl⟩ := hA
      obtain ⟨x0, f0⟩ := HS.out.cellsA rfl hlt
      go_upto_region 8 with fail
      have S4 := Lib.hid (HS.out.kindA k hlt)
      clear x0 f0 HS
      generalize wr.setCell ⟨ga, k * 4, none⟩ (.int .i64 1) = w4 at *
      have hadv := S4.out.advA rfl hlt
      have z4 := S4.out.low.size
      have e1 := Lib.hid (sumT_succ g 0 k (by omega) hlt)
      have hbd := sumT_bd NG.out 0 (k + 1) (by omega) (by omega)
      rw [e1.out] at hbd
      have YV := Lib.hid (fun t : Later w4.heap.size w4 => (S4.out.behind t.h).advA rfl hlt)
      generalize g[k].adv = xv at *
      have hw0 : -9223372036854775808 ≤ sumT g 0 k + xv ∧ sumT g 0 k + xv < 9223372036854775808 := by obtain ⟨q1, q2⟩ := hbd; omega
      clear hbd hadv
      have Y := Lib.hid (fun t : Later w4.heap.size w4 => S4.out.behind t.h)
      have y1 : ∀ t : Later w4.heap.size w4, t.w.cell? ⟨gx, 0, none⟩ = some (.int .i64 (sumT g 0 k)) := fun t => (Y.out t).sm.cell 0
      have y2 : ∀ t : Later w4.heap.size w4, t.w.cell? ⟨ga, k * 4 + 3, none⟩ = some (.int .i64 xv) := fun t => YV.out t
      refine region_lane [] [0, 1, 2, 3, 4, 5, 6, 7, 8] [9] (by kernel_rfl) (by kernel_rfl) (fun _ _ _ _ _ h => h) ?_
      simp only [pick, List.map_nil]
      refine wpQuiet_nil ⟨rfl, ?_⟩
      simp only [List.map_cons, List.map_nil, List.getD_cons_zero, List.getD_cons_succ, List.drop_succ_cons, List.drop_zero]
      refine laneO_run 9 (by kernel_rfl) ?_
      simp only [List.take_succ_cons, List.take_zero, List.drop_succ_cons, List.drop_zero]
      repeat (go_big_quiet_step (fail))
      refine wpQuiet_nil ?_
      refine laneO_end0 rfl rfl fun w5 hb0 => ?_
      have S5 := Lib.hid (S4.out.behind hb0)
      clear hb0 y1 y2 Y YV S4
      have d0 := S5.out.sm.cell 0
      have f0 := S5.out.sm.free 0
      go_wp2
      have S6 := Lib.hid (S5.out.put0 (sumT g 0 k + xv))
      rw [← e1.out] at S6
      go_roundw
      case rel => exact ⟨k + 1, by go_num, by omega, by rw [e1.out] at S6; first | exact S6 | (rw [e1.out]; exact S6)⟩
      case measure => simp [intOf]; omega
    · have hli : ¬ (k : Int) < g.length := by omega
      have hke : k = g.length := by omega
      subst hke
      have HQ := HS.out
      rw [midK_all, sumT_full] at HQ
      have S0 : Hid (TwoR W wr b2 gx A1 g.length c1 (g.map (setK 1)) A2 h.length c2 (midK 3 h 0) (sumA g) 0) := Lib.hid (by rw [midK_zero]; exact HQ)
      clear HQ HS
      go_wp2
      go_loopw [9] (fun v9 wr => ∃ k : Nat, v9 = .int .i64 k ∧ k ≤ h.length ∧ Hid (TwoR W wr b2 gx A1 g.length c1 (g.map (setK 1)) A2 h.length c2 (midK 3 h k) (sumA g) (sumT h 0 k))) (fun v9 _ => h.length - (intOf v9).toNat)
      case atStart => exact ⟨0, rfl, Nat.zero_le _, Lib.hid (by rw [sumT_self]; exact S0.out)⟩
      case round =>
        clear S0
        obtain ⟨k, rfl, hk, HS⟩ := hrel
        by_cases hlt : k < h.length
        · have hli : (k : Int) < h.length := by omega
          have hA : ∃ ga, A2 = some ⟨ga, 0, none⟩ := by
            obtain ⟨ga, cc, hv, -, -, -⟩ := owns_some HS.out.rb (by omega)
            injection hv with h1 h2 h3
            exact ⟨ga, h1⟩
          obtain ⟨ga, rfl⟩ := hA
          obtain ⟨x0, f0⟩ := HS.out.cellsB rfl hlt
          go_upto_region 13 with fail
          have S4 := Lib.hid (HS.out.kindB k hlt)
          clear x0 f0 HS
          generalize wr.setCell ⟨ga, k * 4, none⟩ (.int .i64 3) = w4 at *
          have hadv := S4.out.advB rfl hlt
          have z4 := S4.out.low.size
          have e1 := Lib.hid (sumT_succ h 0 k (by omega) hlt)
          have hbd := sumT_bd NH.out 0 (k + 1) (by omega) (by omega)
          rw [e1.out] at hbd
          have YV := Lib.hid (fun t : Later w4.heap.size w4 => (S4.out.behind t.h).advB rfl hlt)
          generalize h[k].adv = xv at *
          have hw0 : -9223372036854775808 ≤ sumT h 0 k + xv ∧ sumT h 0 k + xv < 9223372036854775808 := by obtain ⟨q1, q2⟩ := hbd; omega
          clear hbd hadv
          have Y := Lib.hid (fun t : Later w4.heap.size w4 => S4.out.behind t.h)
          have y1 : ∀ t : Later w4.heap.size w4, t.w.cell? ⟨gx, 1, none⟩ = some (.int .i64 (sumT h 0 k)) := fun t => (Y.out t).sm.cell 1
          have y2 : ∀ t : Later w4.heap.size w4, t.w.cell? ⟨ga, k * 4 + 3, none⟩ = some (.int .i64 xv) := fun t => YV.out t
          refine region_lane [] [0, 1, 2, 3, 4, 5, 6, 7, 8] [9] (by kernel_rfl) (by kernel_rfl) (fun _ _ _ _ _ h => h) ?_
          simp only [pick, List.map_nil]
          refine wpQuiet_nil ⟨rfl, ?_⟩
          simp only [List.map_cons, List.map_nil, List.getD_cons_zero, List.getD_cons_succ, List.drop_succ_cons, List.drop_zero]
          refine laneO_run 9 (by kernel_rfl) ?_
          simp only [List.take_succ_cons, List.take_zero, List.drop_succ_cons, List.drop_zero]
          repeat (go_big_quiet_step (fail))
          refine wpQuiet_nil ?_
          refine laneO_end0 rfl rfl fun w5 hb0 => ?_
          have S5 := Lib.hid (S4.out.behind hb0)
          clear hb0 y1 y2 Y YV S4
          have d0 := S5.out.sm.cell 1
          have f0 := S5.out.sm.free 1
          go_wp2
          have S6 := Lib.hid (S5.out.put1 (sumT h 0 k + xv))
          rw [← e1.out] at S6
          go_roundw
          case rel => exact ⟨k + 1, by go_num, by omega, by rw [e1.out] at S6; first | exact S6 | (rw [e1.out]; exact S6)⟩
          case measure => simp [intOf]; omega
        · have hli : ¬ (k : Int) < h.length := by omega
          have hke : k = h.length := by omega
          subst hke
          have HQ := HS.out
          rw [midK_all, sumT_full] at HQ
          have SE := Lib.hid HQ
          clear HQ HS
          by_cases hg0 : g.length = 0
          · have hm : ((g.length : Int) == 0) = true := by rw [hg0]; rfl
            clear hg0
            go_wp2_with fail
            refine (bawake_any _).mono ?_
            rintro o w4 ⟨rfl, hb4⟩
            have B4 := Lib.hid (SE.out.low.trans (hb4.mono SE.out.low.size))
            clear hb4
            go_wp2
            go_ret
            exact ⟨rfl, B4.out⟩
          by_cases hh0 : h.length = 0
          · have hm : ((g.length : Int) == 0) = false := by rw [beq_eq_false_iff_ne]; omega
            have hn : ((h.length : Int) == 0) = true := by rw [hh0]; rfl
            clear hh0
            go_wp2_with fail
            refine (bawake_any _).mono ?_
            rintro o w4 ⟨rfl, hb4⟩
            have B4 := Lib.hid (SE.out.low.trans (hb4.mono SE.out.low.size))
            clear hb4
            go_wp2
            go_ret
            exact ⟨rfl, B4.out⟩
          have hm : ((g.length : Int) == 0) = false := by rw [beq_eq_false_iff_ne]; omega
          have hn : ((h.length : Int) == 0) = false := by rw [beq_eq_false_iff_ne]; omega
          have hgp : 0 < g.length := by omega
          have hhp : 0 < h.length := by omega
          clear hg0 hh0
          go_upto_region 16 with fail
          obtain ⟨ga, hA⟩ : ∃ ga, A1 = some ⟨ga, 0, none⟩ := by
            obtain ⟨x, cc, hv, -, -, -⟩ := owns_some SE.out.ra hgp
            injection hv with h1 h2 h3
            exact ⟨x, h1⟩
          subst hA
          obtain ⟨gb, hB⟩ : ∃ gb, A2 = some ⟨gb, 0, none⟩ := by
            obtain ⟨x, cc, hv, -, -, -⟩ := owns_some SE.out.rb hhp
            injection hv with h1 h2 h3
            exact ⟨x, h1⟩
          subst hB
          have zE := SE.out.low.size
          have E0 := Lib.hid (empty_row wr)
          have LGA : Hid ((i64s (gCells (g.map (setK 1)))).length = g.length * 4) := Lib.hid (by rw [i64s_length, gCells_length, List.length_map])
          have LGB : Hid ((i64s (gCells (h.map (setK 3)))).length = h.length * 4) := Lib.hid (by rw [i64s_length, gCells_length, List.length_map])
          have hbA := Lib.hid ((Below.refl wr.heap.size wr).alloc (Nat.le_refl _) (.cells #[] 24))
          have zA := hbA.out.size
          have CA := Lib.hid (own_cells (own_below SE.out.ra hbA.out (Nat.le_refl _)))
          go_wp2_with (first
            | (at_builtin; refine wpList_pushB (by rfl) (.tmp 67) (.tmp 68) _ rfl wr.heap.size 24 4 32 (.agg #[.int .i64 0, .int .i64 0, .int .i64 0, .int .i64 0]) Try.underlying22 gl_info rfl (by decide) 0 (.slice (some ⟨wr.heap.size, 0, none⟩) 0 0) [] rfl E0.out zA ⟨ga, 0, none⟩ g.length c1 (i64s (gCells (g.map (setK 1)))) rfl LGA.out hgp CA.out (i64s_one _) (by unfold maxLen; omega) (by omega) ?_; rw [Nat.zero_add]; intro A3 c3 w4 h4 ho4 hk4; rw [List.nil_append] at h4; have O4 := Lib.hid h4; have B4 := Lib.hid (hbA.out.trans (ho4.below (B := wr.heap.size) (by simp [Value.ownBlock]) zA)); have z4 := B4.out.size; clear h4 ho4 hk4 hbA CA E0)
            | (at_builtin; refine wpList_new rfl (.tmp 69) (.tmp 71) _ rfl wr.heap.size 24 4 32 (.agg #[.int .i64 0, .int .i64 0, .int .i64 0, .int .i64 0]) Try.underlying22 gl_info rfl (by decide) _ _ _ _ rfl O4.out rfl ⟨by omega, by unfold maxLen; omega, z4⟩ rfl (by simp [Value.oneCell']) ?_; intro A5 c5 w5 own5 hb5; have O5 := Lib.hid own5; have B5 := Lib.hid (B4.out.trans hb5); have z5 := B5.out.size; have CB := Lib.hid (own_cells (SE.out.behind B5.out).rb); clear own5 hb5 O4 B4)
            | (at_builtin; refine wpList_pushB (by rfl) (.tmp 72) (.tmp 73) _ rfl wr.heap.size 24 4 32 (.agg #[.int .i64 0, .int .i64 0, .int .i64 0, .int .i64 0]) Try.underlying22 gl_info rfl (by decide) (g.length + 1) (.slice A5 (g.length + 1) c5) _ rfl O5.out z5 ⟨gb, 0, none⟩ h.length c2 (i64s (gCells (h.map (setK 3)))) rfl LGB.out hhp CB.out (i64s_one _) (by unfold maxLen; omega) (by omega) ?_; intro A6 c6 w6 h6 ho6 hk6; have O6 := Lib.hid h6; have B6 := Lib.hid (B5.out.trans (ho6.below (B := wr.heap.size) (fun x hx => own_low O5.out x (by simpa using hx)) z5)); clear h6 ho6 hk6 O5 B5 CB z5 z4))
          clear LGA LGB zA
          have S6 := Lib.hid (SE.out.behind B6.out)
          have hz6 := B6.out.size
          have zW := SE.out.low.size
          rw [row_both] at O6
          have FG := Lib.hid (fine_setK 1 NG.out)
          have FH := Lib.hid (fine_setK 3 NH.out)
          have AG := Lib.hid (adv_setK 1 NA.out)
          have AH := Lib.hid (adv_setK 3 NB.out)
          have KG : Hid (∀ j, j < (g.map (setK 1)).length → kd (g.map (setK 1)) j ≠ 2 ∧ kd (g.map (setK 1)) j ≠ 4) := Lib.hid (fun j hj => by rw [kd_setK 1 g j (by rw [List.length_map] at hj; exact hj)]; decide)
          have KH : Hid (∀ j, j < (h.map (setK 3)).length → kd (h.map (setK 3)) j ≠ 2 ∧ kd (h.map (setK 3)) j ≠ 4) := Lib.hid (fun j hj => by rw [kd_setK 3 h j (by rw [List.length_map] at hj; exact hj)]; decide)
          have hl1 := lines_one (a := b) (g := g.map (setK 1)) (by rw [List.length_map]; exact hgp) KG.out
          have hl2 := lines_two (a := b) (x := g.map (setK 1)) (y := h.map (setK 3)) (by rw [List.length_map]; exact hhp) KG.out KH.out
          have hm2 := most_two (x := g.map (setK 1)) (y := h.map (setK 3)) AG.out AH.out (fun z hz => by obtain ⟨x, -, rfl⟩ := List.mem_map.1 hz; show (1 : Int) ≠ 4; decide) (fun z hz => by obtain ⟨x, -, rfl⟩ := List.mem_map.1 hz; show (3 : Int) ≠ 4; decide)
          rw [sumA_setK, List.length_map] at hl1
          rw [sumA_setK, sumA_setK, List.length_map, List.length_map] at hl2
          rw [sumA_setK, sumA_setK] at hm2
          have FB := Lib.hid (fine_both FG.out FH.out (by rw [List.length_map, List.length_map]; omega))
          have AB := Lib.hid (adv_both AG.out AH.out)
          have hlb := bothL_len (g.map (setK 1)) (h.map (setK 3))
          rw [List.length_map, List.length_map] at hlb
          have LA := Lib.hid (fun (w : World) (hR : Row w w.heap.size (some ⟨ga, 0, none⟩) (i64s (gCells (g.map (setK 1))))) => lines_any (g.map (setK 1)) FG.out (some ⟨ga, 0, none⟩) c1 b HT.out w hR)
          have LB := Lib.hid (fun (w : World) (hR : Row w w.heap.size A6 (i64s (gCells (bothL (g.map (setK 1)) (h.map (setK 3)))))) => lines_any (bothL (g.map (setK 1)) (h.map (setK 3))) FB.out A6 c6 b HT.out w hR)
          have LM := Lib.hid (fun (w : World) (hR : Row w w.heap.size A6 (i64s (gCells (bothL (g.map (setK 1)) (h.map (setK 3)))))) => most_any (bothL (g.map (setK 1)) (h.map (setK 3))) FB.out A6 c6 w hR)
          unfold LinePost at LA LB
          rw [hl1, List.length_map] at LA
          rw [hl2, hlb] at LB
          rw [widZ_most _ AB.out, hm2, hlb] at LM
          simp only [List.length_singleton, List.length_cons, List.length_nil, Nat.zero_add, Nat.reduceAdd] at LA LB
          have OB := Lib.hid O6.out
          generalize bothL (g.map (setK 1)) (h.map (setK 3)) = bo at *
          generalize g.map (setK 1) = G1 at *
          generalize h.map (setK 3) = H1 at *
          generalize sumA g = S1 at *
          generalize sumA h = S2 at *
          clear hl1 hl2 hm2 hlb FG FH AG AH KG KH FB AB NG NH NA NB O6 SE B6 HT
          refine (LA.out _ ((row_of_own S6.out.ra).more (Nat.le_refl _))).mono ?_
          rintro o w7 ⟨A7, c7, rfl, ho7, hb7⟩
          have S7 := Lib.hid (S6.out.behind hb7)
          have OX := Lib.hid ho7
          have OB7 := Lib.hid (own_below OB.out hb7 (Nat.le_refl _))
          clear ho7 hb7 S6 OB LA
          go_wp2_with fail
          refine (LB.out _ (row_of_own OB7.out)).mono ?_
          rintro o w8 ⟨A8, c8, rfl, ho8, hb8⟩
          have S8 := Lib.hid (S7.out.behind hb8)
          have OX8 := Lib.hid (own_below OX.out hb8 (Nat.le_refl _))
          have OY := Lib.hid ho8
          have OB8 := Lib.hid (own_below OB7.out hb8 (Nat.le_refl _))
          clear ho8 hb8 S7 OB7 OX LB
          obtain ⟨gx7, hA7⟩ : ∃ x, A7 = some ⟨x, 0, none⟩ := by
            obtain ⟨x, cc, hv, -, -, -⟩ := owns_some OX8.out (by simp)
            injection hv with h1 h2 h3
            exact ⟨x, h1⟩
          subst hA7
          obtain ⟨gy, hA8⟩ : ∃ x, A8 = some ⟨x, 0, none⟩ := by
            obtain ⟨x, cc, hv, -, -, -⟩ := owns_some OY.out (by simp)
            injection hv with h1 h2 h3
            exact ⟨x, h1⟩
          subst hA8
          go_upto_region 18 with fail
          have z8 := S8.out.low.size
          have y0 : ∀ t : Later w8.heap.size w8, t.w.cell? ⟨gx7, 0, none⟩ = some (.int .i64 0) := fun t => (own_below OX8.out t.h (Nat.le_refl _)).cellAt 0 (by simp)
          have y1 : ∀ t : Later w8.heap.size w8, t.w.cell? ⟨gx7, 1, none⟩ = some (.int .i64 g.length) := fun t => (own_below OX8.out t.h (Nat.le_refl _)).cellAt 1 (by simp)
          have y2 : ∀ t : Later w8.heap.size w8, t.w.cell? ⟨gx7, 2, none⟩ = some (.int .i64 S1) := fun t => (own_below OX8.out t.h (Nat.le_refl _)).cellAt 2 (by simp)
          have u0 : ∀ t : Later w8.heap.size w8, t.w.cell? ⟨gy, 0, none⟩ = some (.int .i64 0) := fun t => (own_below OY.out t.h (Nat.le_refl _)).cellAt 0 (by simp)
          have u1 : ∀ t : Later w8.heap.size w8, t.w.cell? ⟨gy, 1, none⟩ = some (.int .i64 g.length) := fun t => (own_below OY.out t.h (Nat.le_refl _)).cellAt 1 (by simp)
          have u2 : ∀ t : Later w8.heap.size w8, t.w.cell? ⟨gy, 2, none⟩ = some (.int .i64 S1) := fun t => (own_below OY.out t.h (Nat.le_refl _)).cellAt 2 (by simp)
          have u3 : ∀ t : Later w8.heap.size w8, t.w.cell? ⟨gy, 3, none⟩ = some (.int .i64 ((g.length : Int) + 1)) := fun t => (own_below OY.out t.h (Nat.le_refl _)).cellAt 3 (by simp)
          have u4 : ∀ t : Later w8.heap.size w8, t.w.cell? ⟨gy, 4, none⟩ = some (.int .i64 ((g.length : Int) + 1 + h.length)) := fun t => (own_below OY.out t.h (Nat.le_refl _)).cellAt 4 (by simp)
          have u5 : ∀ t : Later w8.heap.size w8, t.w.cell? ⟨gy, 5, none⟩ = some (.int .i64 S2) := fun t => (own_below OY.out t.h (Nat.le_refl _)).cellAt 5 (by simp)
          have q0 : ∀ t : Later w8.heap.size w8, t.w.cell? ⟨gx, 0, none⟩ = some (.int .i64 S1) := fun t => (S8.out.behind t.h).sm.cell 0
          have q1 : ∀ t : Later w8.heap.size w8, t.w.cell? ⟨gx, 1, none⟩ = some (.int .i64 S2) := fun t => (S8.out.behind t.h).sm.cell 1
          have MC := Lib.hid (fun (w : World) (hb : Below w8.heap.size w8 w) => LM.out w (row_of_own (own_below OB8.out hb (Nat.le_refl _))))
          clear OX8 OY OB8 LM
          refine region_lane [] (List.range 55) [55] (by kernel_rfl) (by kernel_rfl) (fun _ _ _ _ _ h => h) ?_
          simp only [pick, List.map_nil]
          refine wpQuiet_nil ⟨rfl, ?_⟩
          rw [show List.range 55 = [0, 1, 2, 3, 4, 5, 6, 7, 8, 9, 10, 11, 12, 13, 14, 15, 16, 17, 18, 19, 20, 21, 22, 23, 24, 25, 26, 27, 28, 29, 30, 31, 32, 33, 34, 35, 36, 37, 38, 39, 40, 41, 42, 43, 44, 45, 46, 47, 48, 49, 50, 51, 52, 53, 54] from rfl]
          simp only [List.map_cons, List.map_nil, List.getD_cons_zero, List.getD_cons_succ, List.drop_succ_cons, List.drop_zero]
          refine laneO_run 1 (by kernel_rfl) ?_
          simp only [List.take_succ_cons, List.take_zero, List.drop_succ_cons, List.drop_zero]
          repeat (go_big_quiet_step (fail))
          refine wpQuiet_nil ?_
          refine laneO_fixed (v := .int .i64 1) (by kernel_rfl) (fun w hw => .inl ⟨by rfl, ?_⟩) ?_
          focus (unfold gives; simp [go_sem]; exact Behind.refl w)
          simp only [Act.put, List.setIfInBounds_toArray, List.set_cons_zero, List.set_cons_succ]
          refine laneO_run 6 (by kernel_rfl) ?_
          simp only [List.take_succ_cons, List.take_zero, List.drop_succ_cons, List.drop_zero]
          repeat (go_big_quiet_step (fail))
          refine wpQuiet_nil ?_
          refine laneO_fixed (v := .int .i64 g.length) (by kernel_rfl) (fun w hw => .inl ⟨by rfl, ?_⟩) ?_
          focus (unfold gives; simp [go_sem]; exact Behind.refl w)
          simp only [Act.put, List.setIfInBounds_toArray, List.set_cons_zero, List.set_cons_succ]
          refine laneO_run 2 (by kernel_rfl) ?_
          simp only [List.take_succ_cons, List.take_zero, List.drop_succ_cons, List.drop_zero]
          repeat (go_big_quiet_step (fail))
          refine wpQuiet_nil ?_
          refine laneO_fixed (v := .agg #[.int .i64 0, .int .i64 g.length, .int .i64 S1]) (by kernel_rfl) (fun w hw => .inl ⟨by rfl, ?_⟩) ?_
          focus (unfold gives; simp [go_sem]; exact Behind.refl w)
          simp only [Act.put, List.setIfInBounds_toArray, List.set_cons_zero, List.set_cons_succ]
          refine laneO_run 4 (by kernel_rfl) ?_
          simp only [List.take_succ_cons, List.take_zero, List.drop_succ_cons, List.drop_zero]
          repeat (go_big_quiet_step (fail))
          refine wpQuiet_nil ?_
          refine laneO_fixed (v := .int .i64 2) (by kernel_rfl) (fun w hw => .inl ⟨by rfl, ?_⟩) ?_
          focus (unfold gives; simp [go_sem]; exact Behind.refl w)
          simp only [Act.put, List.setIfInBounds_toArray, List.set_cons_zero, List.set_cons_succ]
          refine laneO_run 16 (by kernel_rfl) ?_
          simp only [List.take_succ_cons, List.take_zero, List.drop_succ_cons, List.drop_zero]
          repeat (go_big_quiet_step (fail))
          refine wpQuiet_nil ?_
          refine laneO_fixed (v := .int .i64 g.length) (by kernel_rfl) (fun w hw => .inl ⟨by rfl, ?_⟩) ?_
          focus (unfold gives; simp [go_sem]; exact Behind.refl w)
          simp only [Act.put, List.setIfInBounds_toArray, List.set_cons_zero, List.set_cons_succ]
          refine laneO_run 2 (by kernel_rfl) ?_
          simp only [List.take_succ_cons, List.take_zero, List.drop_succ_cons, List.drop_zero]
          repeat (go_big_quiet_step (fail))
          refine wpQuiet_nil ?_
          refine laneO_fixed (v := .int .i64 ((g.length : Int) + 1 + h.length)) (by kernel_rfl) (fun w hw => .inl ⟨by rfl, ?_⟩) ?_
          focus (unfold gives; simp [go_sem]; exact Behind.refl w)
          simp only [Act.put, List.setIfInBounds_toArray, List.set_cons_zero, List.set_cons_succ]
          refine laneO_run 2 (by kernel_rfl) ?_
          simp only [List.take_succ_cons, List.take_zero, List.drop_succ_cons, List.drop_zero]
          repeat (go_big_quiet_step (fail))
          refine wpQuiet_nil ?_
          refine laneO_fixed (v := .agg #[.int .i64 ((g.length : Int) + 1), .int .i64 ((g.length : Int) + 1 + h.length), .int .i64 S2]) (by kernel_rfl) (fun w hw => .inl ⟨by rfl, ?_⟩) ?_
          focus (unfold gives; simp [go_sem]; exact Behind.refl w)
          simp only [Act.put, List.setIfInBounds_toArray, List.set_cons_zero, List.set_cons_succ]
          refine laneO_run 4 (by kernel_rfl) ?_
          simp only [List.take_succ_cons, List.take_zero, List.drop_succ_cons, List.drop_zero]
          repeat (go_big_quiet_step (fail))
          refine wpQuiet_nil ?_
          refine laneO_call (v := .int .i64 (max S1 S2)) (by kernel_rfl) (by rfl) (fun C hC h0 => ?_) ?_
          focus (go_big_quiet_op; exact ⟨_, fun w hw => (MC.out w (h0 w hw)).mono fun e w' ⟨he, hb⟩ => ⟨he, hC _ _ hw hb⟩, rfl⟩)
          simp only [Act.put, List.setIfInBounds_toArray, List.set_cons_zero, List.set_cons_succ]
          refine laneO_run 4 (by kernel_rfl) ?_
          simp only [List.take_succ_cons, List.take_zero, List.drop_succ_cons, List.drop_zero]
          repeat (go_big_quiet_step (fail))
          refine wpQuiet_nil ?_
          refine laneO_fixed (v := .int .i64 (max S1 S2)) (by kernel_rfl) (fun w hw => .inl ⟨by rfl, ?_⟩) ?_
          focus (unfold gives; simp [go_sem]; exact Behind.refl w)
          simp only [Act.put, List.setIfInBounds_toArray, List.set_cons_zero, List.set_cons_succ]
          refine laneO_run 3 (by kernel_rfl) ?_
          simp only [List.take_succ_cons, List.take_zero, List.drop_succ_cons, List.drop_zero]
          repeat (go_big_quiet_step (fail))
          refine wpQuiet_nil ?_
          refine laneO_call (v := .bool true) (by kernel_rfl) (by rfl) (fun C hC h0 => ?_) ?_
          focus (go_big_quiet_op; exact ⟨_, fun w hw => (bawake_any w).mono fun e w' ⟨he, hb⟩ => ⟨he, hC _ _ hw hb⟩, rfl⟩)
          simp only [Act.put, List.setIfInBounds_toArray, List.set_cons_zero, List.set_cons_succ]
          refine laneO_run 1 (by kernel_rfl) ?_
          simp only [List.take_succ_cons, List.take_zero, List.drop_succ_cons, List.drop_zero]
          repeat (go_big_quiet_step (fail))
          refine wpQuiet_nil ?_
          refine laneO_end0 rfl rfl fun w9 hb0 => ?_
          have B9 := Lib.hid (S8.out.low.trans (Below.mono hb0 z8))
          clear hb0
          go_wp2
          go_ret
          exact ⟨rfl, B9.out⟩
end Go.Proofs.Ytmlnpphblicghaa
