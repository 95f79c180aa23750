import Derived.Test.YtncaichachipkaaSizeBoxMQ
import Derived.Test.YtncaichachipkaaNestNumQ
/- SizeNested answers true. -/
namespace Go.Proofs.Ytncaichachipkaa
open Go Go.RowKit
set_option linter.unusedVariables false
set_option linter.unusedSimpArgs false
set_option maxRecDepth 20000
set_option maxHeartbeats 8000000

theorem nLit_is (k p h : Int) (A1 : Option Addr) (n c1 : Nat) (R1 : Option Addr) (m cr1 : Nat) : boxC k 0 (nSt p h) A1 n c1 R1 m cr1 = ([.int .i64 k, .int .i64 0, .int .i64 1, .int .i64 0, .int .i64 0, .int .i64 0, .int .i64 3, .int .i64 0, .int .i64 0, .int .i64 0, .int .i64 0, .int .i64 0, .int .i64 0, .int .i64 0, .int .i64 0, .int .i64 1, .int .i64 0, .int .i64 1, .int .i64 0, .int .i64 0, .int .i64 0, .int .i64 0, .int .i64 0, .int .i64 0, .int .i64 0, .int .i64 1, .int .i64 0, .int .i64 1, .int .i64 0, .int .i64 1, .int .i64 0, .int .i64 1, .int .i64 h, .int .i64 0, .int .i64 p, .int .i64 0, .int .i64 0, .int .i64 0, .int .i64 0, .int .i64 0, .int .i64 0, .int .i64 0, .int .i64 1, .int .i64 0, .int .i64 1280, .slice A1 n c1, .slice R1 m cr1] : List Value) := rfl
structure NeSt (W w : World) (mz : List Int) (gb : Nat) (k : Int) (st : List Int) (kids : List Bx) (rs : List Rn) (A : Option Addr) (c : Nat) (R : Option Addr) (cr : Nat) : Prop where
  met : Whole w W.heap.size 25 (i64s mz)
  box : Whole w gb 38 (boxC k 0 st A kids.length c R rs.length cr)
  runs : RowS w (fun g => g < w.heap.size ∧ g ≠ gb) R (rCells rs)
  kin : BoxesAt w (fun g => g < w.heap.size ∧ g ≠ gb) kids A
  sty : st.length = 43 ∧ ∀ z ∈ st, I64 z
  low : Below W.heap.size W w
  far : W.heap.size < gb
section
variable {W w w' : World} {mz : List Int} {gb : Nat} {k : Int} {st st' : List Int} {kids : List Bx} {rs : List Rn} {A R : Option Addr} {c cr : Nat}
theorem NeSt.behind (h : NeSt W w mz gb k st kids rs A c R cr) (hb : Below w.heap.size w w') : NeSt W w' mz gb k st kids rs A c R cr := by
  have hS : ∀ g, (g < w.heap.size ∧ g ≠ gb) → (g < w'.heap.size ∧ g ≠ gb) ∧ w'.heap[g]? = w.heap[g]? := fun g hg => ⟨⟨by have := hb.size; omega, hg.2⟩, hb.block g hg.1⟩
  exact ⟨h.met.under hb h.met.size, h.box.under hb h.box.size, h.runs.keep hS, BoxesAt.keep hS kids h.kin, h.sty, h.low.trans (hb.mono h.low.size), h.far⟩
/-- The box written (only its own block turns). -/
theorem NeSt.wrote (h : NeSt W w mz gb k st kids rs A c R cr) (ho : Only [gb] w w') (hx : Whole w' gb 38 (boxC k 0 st' A kids.length c R rs.length cr)) (hs : st'.length = 43 ∧ ∀ z ∈ st', I64 z) : NeSt W w' mz gb k st' kids rs A c R cr := by
  have hf := h.far
  have hS : ∀ g, (g < w.heap.size ∧ g ≠ gb) → (g < w'.heap.size ∧ g ≠ gb) ∧ w'.heap[g]? = w.heap[g]? := fun g hg => ⟨⟨by have := ho.size; omega, hg.2⟩, ho.block g hg.1 (by simpa using hg.2)⟩
  exact ⟨ho.whole h.met (by simp; omega), hx, h.runs.keep hS, BoxesAt.keep hS kids h.kin, hs, h.low.trans (ho.below (by simp; omega) h.low.size), hf⟩
theorem NeSt.vb (h : NeSt W w mz gb k st kids rs A c R cr) : BoxV w (· < w.heap.size) (.mk k 0 st kids rs) (boxC k 0 st A kids.length c R rs.length cr) := by
  rw [BoxV]
  exact ⟨A, c, R, cr, rfl, h.sty.1, h.sty.2, h.runs.keep fun g hg => ⟨hg.1, rfl⟩, BoxesAt.keep (fun g hg => ⟨hg.1, rfl⟩) kids h.kin⟩
/-- A block about the box. -/
theorem NeSt.wrapped (h : NeSt W w mz gb k st kids rs A c R cr) (gk : Nat) (hne : gk ≠ gb) (hk : Whole w gk 38 (boxC k 0 st A kids.length c R rs.length cr)) (ho : Only [gb] w w') (hx : Whole w' gb 38 (boxC 1 0 initZ (some ⟨gk, 0, none⟩) 1 1 none 0 0)) :
    NeSt W w' mz gb 1 initZ [.mk k 0 st kids rs] [] (some ⟨gk, 0, none⟩) 1 none 0 := by
  have hf := h.far
  have hS : ∀ g, (g < w.heap.size ∧ g ≠ gb) → (g < w'.heap.size ∧ g ≠ gb) ∧ w'.heap[g]? = w.heap[g]? := fun g hg => ⟨⟨by have := ho.size; omega, hg.2⟩, ho.block g hg.1 (by simpa using hg.2)⟩
  have hk' : Whole w' gk 38 (boxC k 0 st A kids.length c R rs.length cr) := ho.whole hk (by simpa using hne)
  refine ⟨ho.whole h.met (by simp; omega), hx, fun e => absurd rfl e, ?_, ⟨rfl, by unfold I64; decide⟩, h.low.trans (ho.below (by simp; omega) h.low.size), hf⟩
  rw [BoxesAt]
  refine ⟨gk, 0, boxC k 0 st A kids.length c R rs.length cr, rfl, ⟨hk'.size, hne⟩, fun j v hv => by rw [Nat.zero_add, hk'.cell j]; exact hv, ?_, by rw [BoxesAt]; trivial⟩
  rw [BoxV]
  exact ⟨A, c, R, cr, rfl, h.sty.1, h.sty.2, h.runs.keep hS, BoxesAt.keep hS kids h.kin⟩
end
theorem sizeNested_any (zs : List Int) (hz : zs.length = 256) (l pads : List Int) (A : Option Addr) (c : Nat) (A2 : Option Addr) (c2 : Nat) (W : World) (hR : Row W W.heap.size A (i64s l)) (hl : l.length ≤ 9223372036854775807) (hP : Row W W.heap.size A2 (i64s pads)) (hp : pads.length ≤ 9223372036854775807) :
    Calls Try.prog 4 #[.agg (i64s zs).toArray, .slice A l.length c, .slice A2 pads.length c2] W fun e w' => e = .returned (.bool true) ∧ Below W.heap.size W w' := by
  have HR := Lib.hid hR
  have HP := Lib.hid hP
  have HZ := Lib.hid hz
  have TM := Lib.hid (fun w => tame_any zs hz true w)
  have HT := Lib.hid (tameM_length zs true hz)
  have a255 : ∀ x : Int, bits .and .i64 x 255 = x % 256 := fun x => and_mask_i64 x 8 (by decide)
  have M0 := Lib.hid (Whole.mk W 25 (i64s zs).toArray)
  have B0 := Lib.hid ((Below.refl W.heap.size W).alloc (Nat.le_refl _) (.cells (i64s zs).toArray 25))
  have RI := Lib.hid rinit_lit
  have HL := Lib.hid hl
  clear hR hz hP hl
  generalize tameM zs true = mz at *
  go_enter Try.func4, Try.ntmps4
  go_upto_region 1 with fail
  generalize W.alloc _ = w1 at *
  go_wp2_with (refine flat_loadW met_flat (.tmp 3) rfl rfl W.heap.size rfl zs HZ.out 25 M0.out ?_)
  refine (TM.out _).mono ?_
  rintro e w2 ⟨rfl, hb⟩
  have M1 := Lib.hid (M0.out.under hb M0.out.size)
  have B1 := Lib.hid (B0.out.trans (hb.mono B0.out.size))
  clear hb M0 B0 TM
  go_upto_region 2 with (refine flat_store met_flat (.tmp 3) (.tmp 13) rfl rfl W.heap.size rfl mz HT.out rfl 25 zs M1.out HZ.out ?_; intro w3 h3 o3; have M3 := Lib.hid h3; have B3 := Lib.hid (B1.out.trans (o3.below (by simp) (B1.out.size))); clear h3 o3)
  simp only [Act.put]
  clear M1 B1 HZ
  go_wp2_with fail
  refine (RI.out _).mono ?_
  rintro e w4 ⟨rfl, hb⟩
  have M4 := Lib.hid (M3.out.under hb M3.out.size)
  have B4 := Lib.hid (B3.out.trans (hb.mono B3.out.size))
  clear hb M3 B3
  have RU := Lib.hid (runs_any l A c w4 ((HR.out.below B4.out).more B4.out.size) HL.out)
  go_wp2_with fail
  refine RU.out.mono ?_
  rintro e w5 ⟨R1, cr1, rfl, ho, hb⟩
  obtain ⟨hrl, hrs⟩ := runsL_size l
  have M5 := Lib.hid (M4.out.under hb M4.out.size)
  have B5 := Lib.hid (B4.out.trans (hb.mono B4.out.size))
  have O5 := Lib.hid ho
  clear hb ho M4 B4 RU HR HL
  generalize runsL l = rs at *
  have X0 := Lib.hid (Whole.mk w5 38 boxZ0.toArray)
  have z5 := M5.out.size
  go_upto_region 3 with (refine cells_store box_flat (.tmp 7) (.tmp 17) rfl rfl w5.heap.size rfl (boxC 2 0 initZ none 0 0 R1 rs.length cr1) rfl ?_ rfl 38 boxZ0 X0.out rfl ?_; (focus (simp [boxC, i64s, initZ, Value.oneCell'])); intro w6 h6 o6; have S6 : Hid (NeSt W w6 mz w5.heap.size 2 initZ [] rs none 0 R1 cr1) := Lib.hid ⟨o6.whole (M5.out.made _) (by simp; omega), h6, (fun hx => by
      obtain ⟨g, c9, hv, -, -, hg⟩ := owns_some O5.out (Nat.pos_of_ne_zero fun e => hx (by rw [List.eq_nil_of_length_eq_zero e]; rfl))
      injection hv with e1 _ _
      subst e1
      have hlt : g < w6.heap.size := by have := o6.size; simp at this; omega
      refine ⟨g, 0, rfl, ⟨hlt, by omega⟩, fun j v hv => ?_⟩
      have hb6 : w6.heap[g]? = w5.heap[g]? := (o6.block g (by simp; omega) (by simp; omega)).trans (Below.heap_alloc _ _ _ hg)
      rw [Nat.zero_add, World.cell?_of_block (w := w5) (a := ⟨g, j, none⟩) hb6]
      have := O5.out.cells (g := g) rfl j v hv
      rwa [head_add] at this), by rw [BoxesAt]; trivial, ⟨rfl, by unfold I64; decide⟩, (B5.out.alloc B5.out.size _).trans (o6.below (by simp; omega) (by have := B5.out.size; simp; omega)), by omega⟩; clear h6 o6)
  simp only [Act.put]
  have hfar := S6.out.far
  clear M5 B5 O5 X0 z5
  generalize w5.heap.size = gb at *
  have HN : Hid (Nest mz (linesZ mz true rs) (linesZ mz false rs) (.mk 2 0 initZ [] rs)) := Lib.hid (.text rs (by omega) (by omega) initZ rfl rfl)
  obtain ⟨l1, l2, l3⟩ := lines_bd mz rs (by omega)
  have HLE := Lib.hid (fun w (S : NeSt W w mz gb 2 initZ [] rs none 0 R1 cr1) => sleast_any mz HT.out (.mk 2 0 initZ [] rs) _ w S.vb HN.out.fine (by have := HN.out.few; omega))
  have HMO := Lib.hid (fun w (S : NeSt W w mz gb 2 initZ [] rs none 0 R1 cr1) => smost_any mz HT.out (.mk 2 0 initZ [] rs) _ w S.vb HN.out.fine (by have := HN.out.few; omega))
  rw [HN.out.vals.1] at HLE
  rw [HN.out.vals.2] at HMO
  have HC : Hid ((Bx.mk 2 0 initZ [] rs).cnt ≤ 1 + 0) := Lib.hid (by rw [Bx.cnt]; simp)
  generalize linesZ mz true rs = lo0 at *
  generalize linesZ mz false rs = hi0 at *
  refine region_lane [] [0, 1, 2, 3, 4, 5] [6, 7] (by kernel_rfl) (by kernel_rfl) (fun _ _ _ _ _ h => h) ?_
  simp only [pick, List.map_nil]
  refine wpQuiet_nil ⟨rfl, ?_⟩
  simp only [List.map_cons, List.map_nil, List.getD_cons_zero, List.getD_cons_succ, List.drop_succ_cons, List.drop_zero]
  refine laneO_fixed (v := .agg (i64s mz).toArray) (by kernel_rfl) (fun w hw => .inl ⟨by rfl, flat_gives met_flat (.tmp 3) rfl W.heap.size rfl mz HT.out 25 ((S6.out.behind hw).met)⟩) ?_
  simp only [Act.put, List.setIfInBounds_toArray, List.set_cons_zero, List.set_cons_succ]
  refine laneO_fixed (v := .agg (boxC 2 0 initZ none 0 0 R1 rs.length cr1).toArray) (by kernel_rfl) (fun w hw => .inl ⟨by rfl, cells_gives box_flat (.tmp 7) rfl gb rfl _ rfl 38 (S6.out.behind hw).box⟩) ?_
  simp only [Act.put, List.setIfInBounds_toArray, List.set_cons_zero, List.set_cons_succ]
  refine laneO_call (v := .int .i64 lo0) (by kernel_rfl) (by rfl) (fun C hC h0 => ?_) ?_
  focus (go_big_quiet_op; exact ⟨_, fun w hw => (HLE.out w (S6.out.behind (h0 w hw))).mono fun e w' ⟨he, hb⟩ => ⟨he, hC _ _ hw hb⟩, rfl⟩)
  simp only [Act.put, List.setIfInBounds_toArray, List.set_cons_zero, List.set_cons_succ]
  refine laneO_fixed (v := .agg (i64s mz).toArray) (by kernel_rfl) (fun w hw => .inl ⟨by rfl, flat_gives met_flat (.tmp 3) rfl W.heap.size rfl mz HT.out 25 ((S6.out.behind hw).met)⟩) ?_
  simp only [Act.put, List.setIfInBounds_toArray, List.set_cons_zero, List.set_cons_succ]
  refine laneO_fixed (v := .agg (boxC 2 0 initZ none 0 0 R1 rs.length cr1).toArray) (by kernel_rfl) (fun w hw => .inl ⟨by rfl, cells_gives box_flat (.tmp 7) rfl gb rfl _ rfl 38 (S6.out.behind hw).box⟩) ?_
  simp only [Act.put, List.setIfInBounds_toArray, List.set_cons_zero, List.set_cons_succ]
  refine laneO_call (v := .int .i64 hi0) (by kernel_rfl) (by rfl) (fun C hC h0 => ?_) ?_
  focus (go_big_quiet_op; exact ⟨_, fun w hw => (HMO.out w (S6.out.behind (h0 w hw))).mono fun e w' ⟨he, hb⟩ => ⟨he, hC _ _ hw hb⟩, rfl⟩)
  simp only [Act.put, List.setIfInBounds_toArray, List.set_cons_zero, List.set_cons_succ]
  refine laneO_end0 rfl rfl fun w7 hb0 => ?_
  have S7 := Lib.hid (S6.out.behind hb0)
  clear hb0 S6 HLE HMO
  go_upto_region 5 with fail
  obtain ⟨k0, kids0, rs0, A0, c0, R0, q0, HN0, HC0, S8⟩ : ∃ (k : Int) (kids : List Bx) (rs : List Rn) (A : Option Addr) (c : Nat) (R : Option Addr) (cr : Nat), Hid (Nest mz lo0 hi0 (.mk k 0 initZ kids rs)) ∧ Hid ((Bx.mk k 0 initZ kids rs).cnt ≤ 1 + 0) ∧ Hid (NeSt W w7 mz gb k initZ kids rs A c R cr) := ⟨_, _, _, _, _, _, _, HN, HC, S7⟩
  clear HN HC S7 hrl hrs
  go_loopw [8, 9, 10] (fun v8 v9 v10 wx => ∃ (i : Nat) (k lo hi : Int) (kids : List Bx) (rs : List Rn) (A : Option Addr) (c : Nat) (R : Option Addr) (cr : Nat), v8 = .int .i64 lo ∧ v9 = .int .i64 hi ∧ v10 = .int .i64 i ∧ i ≤ 8 ∧ i ≤ pads.length ∧ 0 ≤ lo ∧ lo ≤ hi ∧ hi ≤ 8000000000000000000 + 600 * (i : Int) ∧ Hid (Nest mz lo hi (.mk k 0 initZ kids rs)) ∧ Hid ((Bx.mk k 0 initZ kids rs).cnt ≤ 1 + i) ∧ Hid (NeSt W wx mz gb k initZ kids rs A c R cr)) (fun _ _ v10 _ => 8 - (intOf v10).toNat)
  case atStart => exact ⟨0, k0, lo0, hi0, kids0, rs0, A0, c0, R0, q0, rfl, rfl, rfl, by omega, by omega, l1, l2, by omega, HN0, HC0, S8⟩
  case round =>
    clear S8 HN0 HC0 l1 l2 l3
    obtain ⟨i, k, lo, hi, kids, rs, A1, c1, R1, cr1, rfl, rfl, rfl, hi8, hil, h0, h1, h2, HN, HC, S⟩ := hrel
    by_cases hlt : i < pads.length ∧ i < 8
    · obtain ⟨hlt, hlt2⟩ := hlt
      have g1 : (i : Int) < pads.length := by omega
      have g2 : (i : Int) < 8 := by omega
      obtain ⟨ad, rfl, hab, hc⟩ := (HP.out.below S.out.low).int hlt
      generalize pads[i] = x at *
      have hpb : 0 ≤ x % 256 ∧ x % 256 ≤ 255 := by omega
      go_upto_region 8 with fail
      generalize x % 256 = p at *
      clear hc
      have hq : p.tdiv 2 = p / 2 := Int.tdiv_eq_ediv_of_nonneg (by omega)
      have hhb : 0 ≤ p / 2 ∧ p / 2 ≤ 255 := by omega
      have c34 := S.out.box.cell 34
      have c31 := S.out.box.cell 31
      have c32 := S.out.box.cell 32
      have f34 := S.out.box.free 34
      have f31 := S.out.box.free 31
      have f32 := S.out.box.free 32
      simp only [boxC, initZ, i64s, List.map_cons, List.map_nil, List.cons_append, List.nil_append, List.getElem?_cons_succ, List.getElem?_cons_zero] at c34 c31 c32
      have S9 : Hid (NeSt W (((_ : World).setCell ⟨gb, 34, none⟩ (.int .i64 p)).setCell ⟨gb, 31, none⟩ (.int .i64 1) |>.setCell ⟨gb, 32, none⟩ (.int .i64 (p / 2))) mz gb k (nSt p (p / 2)) kids rs A1 c1 R1 cr1) := Lib.hid (S.out.wrote ((((Only.refl [gb] _).setCell ⟨gb, 34, none⟩ (.inl (by simp)) _).setCell ⟨gb, 31, none⟩ (.inl (by simp)) _).setCell ⟨gb, 32, none⟩ (.inl (by simp)) _) (((S.out.box.put 34 (.int .i64 p)).put 31 (.int .i64 1)).put 32 (.int .i64 (p / 2))) ⟨rfl, nSt_in p (p / 2) (by unfold I64; omega) (by unfold I64; omega)⟩)
      go_upto_region 9 with fail
      clear c34 c31 c32 f34 f31 f32 S
      generalize World.setCell _ ⟨gb, 32, none⟩ (.int .i64 (p / 2)) = w9 at *
      generalize p / 2 = h at *
      obtain ⟨HX, HO1, HO2⟩ := HN.out.next (b2 := .mk k 0 (nSt p h) kids rs) p h rfl ⟨k, 0, initZ, kids, rs, rfl, rfl⟩ hpb hhb h0 h1 (by omega) (by have := HC.out; omega) initZ
      have HN2 := Lib.hid HX
      have HC2 : Hid ((Bx.mk 1 0 initZ [.mk k 0 (nSt p h) kids rs] []).cnt ≤ 1 + (i + 1)) := Lib.hid (by rw [nest_cnt k 0 initZ (nSt p h) initZ]; have := HC.out; omega)
      have HF2 : Hid (FineB mz (.mk k 0 (nSt p h) kids rs) ∧ (Bx.mk k 0 (nSt p h) kids rs).cnt ≤ 100) := Lib.hid ⟨HX.fine.kds _ (by show _ ∈ kdsZ 1 _; rw [kdsZ, if_pos (.inl rfl)]; exact List.mem_singleton.2 rfl), by have := HC.out; rw [Bx.cnt] at this ⊢; omega⟩
      have OU1 := Lib.hid (fun w (S : NeSt W w mz gb k (nSt p h) kids rs A1 c1 R1 cr1) => by
        have := souter_any mz HT.out _ true _ w S.vb HF2.out.1 (by have := HF2.out.2; omega)
        rwa [HO1] at this)
      have OU2 := Lib.hid (fun w (S : NeSt W w mz gb k (nSt p h) kids rs A1 c1 R1 cr1) => by
        have := souter_any mz HT.out _ false _ w S.vb HF2.out.1 (by have := HF2.out.2; omega)
        rwa [HO2] at this)
      have LM1 := Lib.hid (fun w gk (S : NeSt W w mz gb 1 initZ [.mk k 0 (nSt p h) kids rs] [] (some ⟨gk, 0, none⟩) 1 none 0) => by
        have := sleast_any mz HT.out _ _ w S.vb HN2.out.fine (by have := HN2.out.few; omega)
        rwa [HN2.out.vals.1] at this)
      have LM2 := Lib.hid (fun w gk (S : NeSt W w mz gb 1 initZ [.mk k 0 (nSt p h) kids rs] [] (some ⟨gk, 0, none⟩) 1 none 0) => by
        have := smost_any mz HT.out _ _ w S.vb HN2.out.fine (by have := HN2.out.few; omega)
        rwa [HN2.out.vals.2] at this)
      clear HX HO1 HO2 HF2 HN HC
      go_upto_region 10 with fail
      obtain ⟨lo2, hlo2⟩ : ∃ z, lo + p + h = z := ⟨_, rfl⟩
      obtain ⟨hi2, hhi2⟩ : ∃ z, hi + p + h = z := ⟨_, rfl⟩
      have b0 : 0 ≤ lo2 := by omega
      have b1 : lo2 ≤ hi2 := by omega
      have b2 : hi2 ≤ 8000000000000000000 + 600 * (((i + 1 : Nat)) : Int) := by omega
      rw [hlo2] at OU1 LM1
      rw [hhi2] at OU2 LM2
      rw [hlo2, hhi2] at HN2
      simp only [hlo2, hhi2]
      clear hlo2 hhi2
      go_wp2_with (first
        | (refine flat_loadV (t := 25) (x := .tmp 3) rfl met_flat rfl W.heap.size rfl mz HT.out 25 S9.out.met ?_)
        | (refine cells_loadV (t := 38) (x := .tmp 7) rfl box_flat rfl gb rfl (boxC k 0 (nSt p h) A1 kids.length c1 R1 rs.length cr1) rfl 38 S9.out.box ?_))
      refine (OU1.out _ S9.out).mono ?_
      rintro e w10 ⟨rfl, hb⟩
      have S10 := Lib.hid (S9.out.behind hb)
      clear hb S9 OU1
      go_wp2_with (first
        | (refine flat_loadV (t := 25) (x := .tmp 3) rfl met_flat rfl W.heap.size rfl mz HT.out 25 S10.out.met ?_)
        | (refine cells_loadV (t := 38) (x := .tmp 7) rfl box_flat rfl gb rfl (boxC k 0 (nSt p h) A1 kids.length c1 R1 rs.length cr1) rfl 38 S10.out.box ?_))
      refine (OU2.out _ S10.out).mono ?_
      rintro e w11 ⟨rfl, hb⟩
      have S11 := Lib.hid (S10.out.behind hb)
      clear hb S10 OU2
      go_upto_region 12 with fail
      refine region_lane [] [0, 1, 2] [3, 4] (by kernel_rfl) (by kernel_rfl) (fun _ _ _ _ _ h => h) ?_
      simp only [pick, List.map_nil]
      refine wpQuiet_nil ⟨rfl, ?_⟩
      simp only [List.map_cons, List.map_nil, List.getD_cons_zero, List.getD_cons_succ, List.drop_succ_cons, List.drop_zero]
      refine laneO_call (v := (.agg #[.int .i64 1, .int .i64 0, .int .i64 0, .int .i64 0, .int .i64 3, .int .i64 0, .int .i64 0, .int .i64 0, .int .i64 0, .int .i64 0, .int .i64 0, .int .i64 0, .int .i64 0, .int .i64 1, .int .i64 0, .int .i64 1, .int .i64 0, .int .i64 0, .int .i64 0, .int .i64 0, .int .i64 0, .int .i64 0, .int .i64 0, .int .i64 1, .int .i64 0, .int .i64 1, .int .i64 0, .int .i64 1, .int .i64 0, .int .i64 1, .int .i64 0, .int .i64 0, .int .i64 0, .int .i64 0, .int .i64 0, .int .i64 0, .int .i64 0, .int .i64 0, .int .i64 0, .int .i64 0, .int .i64 1, .int .i64 0, .int .i64 1280])) (by kernel_rfl) (by rfl) (fun C hC h0 => ?_) ?_
      focus (go_big_quiet_op; exact ⟨_, fun w hw => (RI.out w).mono fun e w' ⟨he, hb⟩ => ⟨he, hC _ _ hw hb⟩, rfl⟩)
      simp only [Act.put, List.setIfInBounds_toArray, List.set_cons_zero, List.set_cons_succ]
      refine laneO_fixed (v := .agg ([.int .i64 k, .int .i64 0, .int .i64 1, .int .i64 0, .int .i64 0, .int .i64 0, .int .i64 3, .int .i64 0, .int .i64 0, .int .i64 0, .int .i64 0, .int .i64 0, .int .i64 0, .int .i64 0, .int .i64 0, .int .i64 1, .int .i64 0, .int .i64 1, .int .i64 0, .int .i64 0, .int .i64 0, .int .i64 0, .int .i64 0, .int .i64 0, .int .i64 0, .int .i64 1, .int .i64 0, .int .i64 1, .int .i64 0, .int .i64 1, .int .i64 0, .int .i64 1, .int .i64 h, .int .i64 0, .int .i64 p, .int .i64 0, .int .i64 0, .int .i64 0, .int .i64 0, .int .i64 0, .int .i64 0, .int .i64 0, .int .i64 1, .int .i64 0, .int .i64 1280, .slice A1 kids.length c1, .slice R1 rs.length cr1] : List Value).toArray) (by kernel_rfl) (fun w hw => .inl ⟨by rfl, cells_gives box_flat (.tmp 7) rfl gb rfl ([.int .i64 k, .int .i64 0, .int .i64 1, .int .i64 0, .int .i64 0, .int .i64 0, .int .i64 3, .int .i64 0, .int .i64 0, .int .i64 0, .int .i64 0, .int .i64 0, .int .i64 0, .int .i64 0, .int .i64 0, .int .i64 1, .int .i64 0, .int .i64 1, .int .i64 0, .int .i64 0, .int .i64 0, .int .i64 0, .int .i64 0, .int .i64 0, .int .i64 0, .int .i64 1, .int .i64 0, .int .i64 1, .int .i64 0, .int .i64 1, .int .i64 0, .int .i64 1, .int .i64 h, .int .i64 0, .int .i64 p, .int .i64 0, .int .i64 0, .int .i64 0, .int .i64 0, .int .i64 0, .int .i64 0, .int .i64 0, .int .i64 1, .int .i64 0, .int .i64 1280, .slice A1 kids.length c1, .slice R1 rs.length cr1] : List Value) rfl 38 (nLit_is k p h A1 kids.length c1 R1 rs.length cr1 ▸ (S11.out.behind hw).box)⟩) ?_
      simp only [Act.put, List.setIfInBounds_toArray, List.set_cons_zero, List.set_cons_succ]
      refine laneO_told (rowT (gb + 1) 1 38 [.int .i64 k, .int .i64 0, .int .i64 1, .int .i64 0, .int .i64 0, .int .i64 0, .int .i64 3, .int .i64 0, .int .i64 0, .int .i64 0, .int .i64 0, .int .i64 0, .int .i64 0, .int .i64 0, .int .i64 0, .int .i64 1, .int .i64 0, .int .i64 1, .int .i64 0, .int .i64 0, .int .i64 0, .int .i64 0, .int .i64 0, .int .i64 0, .int .i64 0, .int .i64 1, .int .i64 0, .int .i64 1, .int .i64 0, .int .i64 1, .int .i64 0, .int .i64 1, .int .i64 h, .int .i64 0, .int .i64 p, .int .i64 0, .int .i64 0, .int .i64 0, .int .i64 0, .int .i64 0, .int .i64 0, .int .i64 0, .int .i64 1, .int .i64 0, .int .i64 1280, .slice A1 kids.length c1, .slice R1 rs.length cr1]) (rowT_steady _ _ _ _) (by kernel_rfl) rfl (fun w hw => .inl ⟨by rfl, ?_⟩) ?_
      focus (unfold gives; simp [go_sem]; exact rowT_new (gb + 1) 1 38 ([.int .i64 k, .int .i64 0, .int .i64 1, .int .i64 0, .int .i64 0, .int .i64 0, .int .i64 3, .int .i64 0, .int .i64 0, .int .i64 0, .int .i64 0, .int .i64 0, .int .i64 0, .int .i64 0, .int .i64 0, .int .i64 1, .int .i64 0, .int .i64 1, .int .i64 0, .int .i64 0, .int .i64 0, .int .i64 0, .int .i64 0, .int .i64 0, .int .i64 0, .int .i64 1, .int .i64 0, .int .i64 1, .int .i64 0, .int .i64 1, .int .i64 0, .int .i64 1, .int .i64 h, .int .i64 0, .int .i64 p, .int .i64 0, .int .i64 0, .int .i64 0, .int .i64 0, .int .i64 0, .int .i64 0, .int .i64 0, .int .i64 1, .int .i64 0, .int .i64 1280, .slice A1 kids.length c1, .slice R1 rs.length cr1] : List Value).toArray w (by have := hw.size; have := S11.out.box.size; omega))
      refine laneO_end (by simp) rfl rfl rfl fun w12 hb0 => ?_
      rintro v ⟨gk, rfl, hgk, hK⟩
      simp only [Act.put, List.setIfInBounds_toArray, List.set_cons_zero, List.set_cons_succ, fillAll]
      have HK : Hid (Whole w12 gk 38 (boxC k 0 (nSt p h) A1 kids.length c1 R1 rs.length cr1)) := Lib.hid hK
      have S12 := Lib.hid (S11.out.behind hb0)
      clear hK hb0 S11
      go_upto_region 13 with (refine cells_store box_flat (.tmp 7) (.tmp 76) rfl rfl gb rfl (boxC 1 0 initZ (some ⟨gk, 0, none⟩) 1 1 none 0 0) rfl ?_ rfl 38 (boxC k 0 (nSt p h) A1 kids.length c1 R1 rs.length cr1) S12.out.box rfl ?_; (focus (simp [boxC, i64s, initZ, Value.oneCell'])); intro w13 h13 o13; have S13 := Lib.hid (S12.out.wrapped gk (by omega) HK.out o13 h13); clear h13 o13)
      simp only [Act.put]
      clear S12 HK
      go_wp2_with (first
        | (refine flat_loadV (t := 25) (x := .tmp 3) rfl met_flat rfl W.heap.size rfl mz HT.out 25 S13.out.met ?_)
        | (refine cells_loadV (t := 38) (x := .tmp 7) rfl box_flat rfl gb rfl (boxC 1 0 initZ (some ⟨gk, 0, none⟩) 1 1 none 0 0) rfl 38 S13.out.box ?_))
      refine (LM1.out _ gk S13.out).mono ?_
      rintro e w14 ⟨rfl, hb⟩
      have S14 := Lib.hid (S13.out.behind hb)
      clear hb S13 LM1
      go_wp2_with (first
        | (refine flat_loadV (t := 25) (x := .tmp 3) rfl met_flat rfl W.heap.size rfl mz HT.out 25 S14.out.met ?_)
        | (refine cells_loadV (t := 38) (x := .tmp 7) rfl box_flat rfl gb rfl (boxC 1 0 initZ (some ⟨gk, 0, none⟩) 1 1 none 0 0) rfl 38 S14.out.box ?_))
      refine (LM2.out _ gk S14.out).mono ?_
      rintro e w15 ⟨rfl, hb⟩
      have S15 := Lib.hid (S14.out.behind hb)
      clear hb S14 LM2
      go_wp2_with fail
      go_roundw
      case rel => exact ⟨i + 1, 1, lo2, hi2, [.mk k 0 (nSt p h) kids rs], [], some ⟨gk, 0, none⟩, 1, none, 0, rfl, rfl, by go_num, by omega, by omega, b0, b1, b2, HN2, HC2, S15⟩
      case measure => simp [intOf]; omega
    · have AW := Lib.hid sawake_any
      clear HN HC HP RI
      go_upto_region 5 with fail
      go_cut [31] from 24 to 31 (fun v31 wx => v31 = .bool false ∧ wr = wx)
      case first =>
        by_cases h : i < pads.length
        · have h1 : (i : Int) < pads.length := by omega
          have h2 : ¬ (i : Int) < 8 := by omega
          go_wp2
          go_meet
          exact ⟨rfl, rfl⟩
        · have h1 : ¬ (i : Int) < pads.length := by omega
          go_wp2
          go_meet
          exact ⟨rfl, rfl⟩
      case rest =>
        obtain ⟨rfl, rfl⟩ := hcut
        clear hlt
        go_wp2_with fail
        refine (AW.out _).mono ?_
        rintro e w7 ⟨rfl, hb⟩
        have S7 := Lib.hid (S.out.behind hb)
        clear hb S AW
        go_wp2
        go_ret
        exact ⟨rfl, S7.out.low⟩
end Go.Proofs.Ytncaichachipkaa
