import Derived.Test.YtmlnpphblicghaaRowSetQ
import Derived.Test.YtmlnpphblicghaaAppIQ
import Derived.Test.YtmlnpphblicghaaZQ
/- row.appendPieces. -/
namespace Go.Proofs.Ytmlnpphblicghaa
open Go Go.RowKit
set_option linter.unusedVariables false
set_option linter.unusedSimpArgs false
set_option maxRecDepth 20000
set_option maxHeartbeats 4000000

theorem hRun_atC (rs : List Rn) (r : Nat) (h : r < rs.length) : hRun rs (r : Int) = lineZ rs[r].line := by simp [hRun, h]
theorem nRun_atC (rs : List Rn) (r : Nat) (h : r < rs.length) : nRun rs (r : Int) = rs[r].node := by simp [nRun, h]
/-- Rows of the call's own (a fixed block once there are any) beside others. -/
structure PSt (W w : World) (B0 : Nat) (V : List Nat) (A : Option Addr) (m c : Nat) (L : List Pc) : Prop where
  own : w.ownsRow B0 56 8 (.slice A m c) m (L.flatMap pcC)
  only : Only V W w
  near : ∀ k, (Value.slice A m c).ownBlock = some k → k ∈ V ∨ W.heap.size ≤ k
  old : ∀ x ∈ V, x < W.heap.size ∧ B0 ≤ x
section
variable {W w w' : World} {B0 : Nat} {V : List Nat} {A A' : Option Addr} {m c c' : Nat} {L : List Pc}
theorem PSt.size (h : PSt W w B0 V A m c L) : W.heap.size ≤ w.heap.size := h.only.size
theorem PSt.behind (h : PSt W w B0 V A m c L) (hb : Below w.heap.size w w') : PSt W w' B0 V A m c L :=
  ⟨own_below h.own hb (Nat.le_refl _), h.only.then (Only.of_below hb), h.near, h.old⟩
theorem PSt.pushed (h : PSt W w B0 V A m c L) (x : Pc) (ho : w'.ownsRow B0 56 8 (.slice A' (m + 1) c') (m + 1) (L.flatMap pcC ++ pcC x)) (hn : Only (Value.slice A m c).ownBlock.toList w w')
    (hk : ∀ g, (Value.slice A' (m + 1) c').ownBlock = some g → (Value.slice A m c).ownBlock = some g ∨ w.heap.size ≤ g) : PSt W w' B0 V A' (m + 1) c' (L ++ [x]) := by
  refine ⟨by simpa [List.flatMap_append] using ho, h.only.trans hn fun y hy => h.near y (by simpa using hy), fun k e => ?_, h.old⟩
  rcases hk k e with h1 | h1
  · exact h.near k h1
  · have := h.size; exact .inr (by omega)
theorem PSt.put {g : Nat} (h : PSt W w B0 V (some ⟨g, 0, none⟩) m c L) {i j : Nat} (hi : i < L.length) (hj : j < 8) {p : Addr} (hp : p = ⟨g, i * 8 + j, none⟩) (v : Value) (x : Pc) (hx : pcC x = (pcC L[i]).set j v) :
    PSt W (w.setCell p v) B0 V (some ⟨g, 0, none⟩) m c (L.set i x) := by
  obtain ⟨h1, h2⟩ := own_putPc h.own hi hj hp v x hx
  exact ⟨h1, h.only.trans h2 (fun y hy => h.near y (by rw [List.mem_singleton] at hy; subst hy; rfl)), h.near, h.old⟩
theorem PSt.cells {g : Nat} (h : PSt W w B0 V (some ⟨g, 0, none⟩) m c L) {i j : Nat} (hi : i < L.length) (hj : j < 8) (v : Value) (hv : (pcC L[i])[j]? = some v) : w.cell? ⟨g, i * 8 + j, none⟩ = some v ∧ w.frozen? ⟨g, i * 8 + j, none⟩ = false := by
  refine ⟨?_, h.own.frozenAt _⟩
  have h1 : i * 8 + j < m * 8 := by
    have := h.own.1
    rw [rec_len pcC_len] at this
    omega
  rw [h.own.cellAt _ h1, rec_get pcC_len L i hi j hj]
  exact hv
end
def AppPost (rs : List Rn) (p : List Gl) (L0 : List Pc) (B0 : Nat) (V : List Nat) (W : World) (e : Ending) (w' : World) : Prop := ∃ (A' : Option Addr) (m' c' : Nat),
  e = .returned (.slice A' m' c') ∧ m' = (L0 ++ rawL rs p).length ∧ PSt W w' B0 V A' m' c' (L0 ++ rawL rs p)
theorem appPc_any (rs : List Rn) (p : List Gl) (hp : FineG p) (hr : ∀ k (h : k < p.length), ∃ r : Nat, r < rs.length ∧ p[k].run = r) (hat : ∀ k (h : k < p.length), 0 ≤ p[k].at_ ∧ p[k].at_ ≤ 100000)
    (L0 : List Pc) (B0 : Nat) (A0 : Option Addr) (n0 c0 : Nat) (A : Option Addr) (cg : Nat) (Ar : Option Addr) (cr : Nat) (W : World) (hn0 : n0 = L0.length) (hB0 : B0 ≤ W.heap.size) (hL0 : n0 ≤ 200000)
    (hG : Row W B0 A (i64s (gCells p))) (hR : Row W B0 Ar (rCells rs)) (hO : W.ownsRow B0 56 8 (.slice A0 n0 c0) n0 (L0.flatMap pcC)) :
    Calls Try.prog 40 #[.slice A0 n0 c0, .slice A p.length cg, .slice Ar rs.length cr] W (AppPost rs p L0 B0 (Value.slice A0 n0 c0).ownBlock.toList W) := by
  have FG := Lib.hid hp
  have GR := Lib.hid hr
  have GA := Lib.hid hat
  have hpl := hp.1
  have P0 : Hid (PSt W W B0 (Value.slice A0 n0 c0).ownBlock.toList A0 n0 c0 (L0 ++ [])) := Lib.hid ⟨by rw [List.append_nil]; exact hO, Only.refl _ _, fun k e => .inl (by simp [e]), fun x hx => by have := hO.lt x (by simpa using hx); omega⟩
  have RG := Lib.hid (fun w (ho : Only (Value.slice A0 n0 c0).ownBlock.toList W w) => (ho.row hG hB0 fun x hx => (hO.lt x (by simpa using hx)).1 : Row w B0 A (i64s (gCells p))))
  have RR := Lib.hid (fun w (ho : Only (Value.slice A0 n0 c0).ownBlock.toList W w) => (ho.row hR hB0 fun x hx => (hO.lt x (by simpa using hx)).1 : Row w B0 Ar (rCells rs)))
  have HN0 := Lib.hid hn0
  clear hG hR hO hp hr hat hn0
  generalize (Value.slice A0 n0 c0).ownBlock.toList = V at *
  go_enter Try.func40, Try.ntmps40
  go_wp2
  go_loopw [0, 7, 14] (fun v0 v7 v14 wr => ∃ (A1 : Option Addr) (m c k : Nat) (cur : List Pc), v0 = .slice A1 m c ∧ v7 = .int .i64 (sumT p 0 k) ∧ v14 = .int .i64 k ∧ k ≤ p.length ∧ m ≤ n0 + k ∧ Hid (m = (L0 ++ cur).length) ∧ Hid (AppI rs p k cur) ∧ Hid (PSt W wr B0 V A1 m c (L0 ++ cur))) (fun _ _ v14 _ => p.length - (intOf v14).toNat)
  case atStart => exact ⟨A0, n0, c0, 0, [], rfl, by rw [sumT_self], rfl, Nat.zero_le _, by omega, Lib.hid (by rw [List.append_nil]; exact HN0.out), Lib.hid (.inl ⟨rfl, rfl⟩), P0⟩
  case round =>
    clear P0
    obtain ⟨A1, m, c, k, cur, rfl, rfl, rfl, hk, hm, HM, HI, HS⟩ := hrel
    by_cases hlt : k < p.length
    · have hki : (k : Int) < p.length := by omega
      obtain ⟨ad, hA, hab, r0, r1, r2, r3⟩ := (RG.out wr HS.out.only).gl hlt
      subst hA
      obtain ⟨r, hr, her⟩ := GR.out k hlt
      have hgt := GA.out k hlt
      have HNEW := Lib.hid (HI.out.new hlt)
      have HSAME := Lib.hid (HI.out.same hlt)
      rw [her] at r1
      simp only [her] at HNEW HSAME
      have hadv := sumT_bd FG.out 0 (k + 1) (by omega) (by omega)
      have HSI := Lib.hid (fun i (hi : i ≤ k) => (⟨sumT_succ p i k hi hlt, sumT_bd FG.out i (k + 1) (by omega) (by omega)⟩ : _ ∧ _))
      clear hadv
      generalize p[k].kind = xk at *
      generalize p[k].at_ = xa at *
      generalize p[k].adv = xv at *
      go_upto_region 5 with fail
      have X1 := Lib.hid (Whole.mk wr 24 #[.int .i64 xk, .int .i64 r, .int .i64 xa, .int .i64 xv])
      have S1 := Lib.hid (HS.out.behind ((Below.refl _ wr).alloc (Nat.le_refl _) (.cells #[.int .i64 xk, .int .i64 r, .int .i64 xa, .int .i64 xv] 24)))
      have hne : Hid ((Value.slice A1 m c).ownBlock ≠ some wr.heap.size ∧ W.heap.size ≤ wr.heap.size) := Lib.hid ⟨fun e => by have := owns_lt HS.out.own e; omega, HS.out.size⟩
      clear HS r0 r1 r2 r3
      generalize wr.alloc _ = w1 at *
      generalize wr.heap.size = ge at *
      have hnw : ∃ nw : Bool, (nw = true ∧ (k = 0 ∨ rnG p k ≠ rnG p (k - 1))) ∨ (nw = false ∧ 0 < k ∧ rnG p k = rnG p (k - 1)) := by
        by_cases h0 : k = 0 ∨ rnG p k ≠ rnG p (k - 1)
        · exact ⟨true, .inl ⟨rfl, h0⟩⟩
        · exact ⟨false, .inr ⟨rfl, by omega, by
            rcases Nat.eq_zero_or_pos k with h | h
            · exact absurd (.inl h) h0
            · exact Decidable.byContradiction fun h1 => h0 (.inr h1)⟩⟩
      obtain ⟨nw, hnw⟩ := hnw
      have HNW := Lib.hid hnw
      clear hnw
      go_cut [31] from 19 to 31 (fun v wx => v = .bool nw ∧ Below w1.heap.size w1 wx)
      case first =>
        have x1 := X1.out.cell 1
        rcases Nat.eq_zero_or_pos k with h0 | h0
        · have hnw : nw = true := by
            rcases HNW.out with ⟨h, _⟩ | ⟨_, h, _⟩
            · exact h
            · omega
          subst h0 hnw
          go_quiet (fail)
          go_wp2
          go_meet
          exact ⟨rfl, Below.drewN' (Below.refl _ _) nq⟩
        · have hk1 : k - 1 < p.length := by omega
          obtain ⟨ad', hA', -, -, k1, -, -⟩ := (RG.out w1 S1.out.only).gl hk1
          injection hA' with hA'
          subst hA'
          have hr1 : rnG p k = r := by rw [rnG_at p k hlt, her]
          have hr2 := rnG_at p (k - 1) hk1
          have hw := HNW.out
          rw [hr1, hr2] at hw
          generalize p[k - 1].run = rq at *
          have he1 : (k : Int) - 1 = ((k - 1 : Nat) : Int) := by omega
          have he3 : ((k - 1 : Nat) : Int) < p.length := by omega
          have hz : ((k : Int) == 0) = false := by rw [beq_eq_false_iff_ne]; omega
          rcases hw with ⟨h1, h2⟩ | ⟨h1, h2, h3⟩
          · have h4 : (r : Int) ≠ rq := by
              rcases h2 with h2 | h2
              · omega
              · exact h2
            have b1 : ((r : Int) == rq) = false := by rw [beq_eq_false_iff_ne]; exact h4
            have b2 : ((r : Int) != rq) = true := by rw [bne, b1]; rfl
            clear h2 hr1 hr2
            subst h1
            go_quiet (fail)
            go_wp2
            go_meet
            exact ⟨rfl, Below.drewN' (Below.refl _ _) nq⟩
          · subst h1
            subst h3
            clear hr1 hr2
            have b1 : ((r : Int) == r) = true := by simp
            have b2 : ((r : Int) != r) = false := by simp
            go_quiet (fail)
            go_wp2
            go_meet
            exact ⟨rfl, Below.drewN' (Below.refl _ _) nq⟩
      case rest =>
        obtain ⟨rfl, hBc⟩ := hcut
        have S2 := Lib.hid (S1.out.behind hBc)
        have X2 := Lib.hid (X1.out.under hBc X1.out.size)
        clear hBc S1 X1
        go_upto_if 31 with fail
        go_cut [0, 10] from 32 to 49 (fun v0 v10 wx => ∃ (g2 m2 c2 : Nat) (init : List Pc) (q : Pc) (i : Nat), v0 = .slice (some ⟨g2, 0, none⟩) (m2 + 1) c2 ∧ m2 ≤ n0 + k ∧ i ≤ k ∧ g2 ≠ ge ∧ Hid (m2 = (L0 ++ init).length) ∧ Hid (q.w = sumT p i k) ∧
          Hid (AppI rs p (k + 1) (init ++ [grown q xa xv])) ∧ Hid (PSt W wx B0 V (some ⟨g2, 0, none⟩) (m2 + 1) c2 (L0 ++ init ++ [q])) ∧ Hid (Whole wx ge 24 [.int .i64 xk, .int .i64 r, .int .i64 xa, .int .i64 xv]))
        case first =>
          rcases HNW.out with ⟨h1, h2⟩ | ⟨h1, h2, h3⟩
          · have HN := Lib.hid (HNEW.out h2)
            clear h2 HNEW HSAME HNW
            subst h1
            obtain ⟨adr, hA, hbr, q0, q1, q2, q3⟩ := (RR.out wc S2.out.only).rn hr
            subst hA
            have HND := Lib.hid (nRun_atC rs r hr)
            have HHR := Lib.hid (hRun_atC rs r hr)
            have LZ := Lib.hid (fun w => cline_any rs[r].line w)
            generalize rs[r].node = nd at *
            generalize rs[r].text = tx at *
            generalize rs[r].white = wh at *
            generalize rs[r].line = ln at *
            generalize lineZ ln = hz at *
            have x1 := X2.out.cell 1
            go_upto_region 7 with fail
            have X3 := Lib.hid (X2.out.made (.cells #[.int .i64 nd, .string tx, .int .i64 wh, .int .i64 ln] 49))
            have R3 := Lib.hid (Whole.mk wc 49 #[.int .i64 nd, .string tx, .int .i64 wh, .int .i64 ln])
            have S3 := Lib.hid (S2.out.behind ((Below.refl _ wc).alloc (Nat.le_refl _) (.cells #[.int .i64 nd, .string tx, .int .i64 wh, .int .i64 ln] 49)))
            clear x1 q0 q1 q2 q3 S2 X2
            generalize wc.alloc _ = w3 at *
            generalize wc.heap.size = gr at *
            have zX := X3.out.size
            have zR := R3.out.size
            have y0 : ∀ t : Later w3.heap.size w3, t.w.cell? ⟨gr, 0, none⟩ = some (.int .i64 nd) := fun t => (R3.out.under t.h zR).cell 0
            have y1 : ∀ t : Later w3.heap.size w3, t.w.cell? ⟨gr, 3, none⟩ = some (.int .i64 ln) := fun t => (R3.out.under t.h zR).cell 3
            have y2 : ∀ t : Later w3.heap.size w3, t.w.cell? ⟨ge, 2, none⟩ = some (.int .i64 xa) := fun t => (X3.out.under t.h zX).cell 2
            refine region_lane [] [0, 1, 2, 3, 4, 5, 6, 7, 8, 9, 10, 11] [12, 13] (by kernel_rfl) (by kernel_rfl) (fun _ _ _ _ _ h => h) ?_
            simp only [pick, List.map_nil]
            refine wpQuiet_nil ⟨rfl, ?_⟩
            simp only [List.map_cons, List.map_nil, List.getD_cons_zero, List.getD_cons_succ, List.drop_succ_cons, List.drop_zero]
            refine laneO_run 6 (by kernel_rfl) ?_
            simp only [List.take_succ_cons, List.take_zero, List.drop_succ_cons, List.drop_zero]
            repeat (go_big_quiet_step (fail))
            refine wpQuiet_nil ?_
            refine laneO_call (v := .int .i64 hz) (by kernel_rfl) (by rfl) (fun C hC h0 => ?_) ?_
            focus (go_big_quiet_op; exact ⟨_, fun w hw => (LZ.out w).mono fun e w' ⟨he, hb⟩ => ⟨he, hb ▸ hw⟩, rfl⟩)
            simp only [Act.put, List.setIfInBounds_toArray, List.set_cons_zero, List.set_cons_succ]
            refine laneO_fixed (v := .agg #[.int .i64 (sumT p 0 k), .int .i64 0, .int .i64 0, .int .i64 hz]) (by kernel_rfl) (fun w hw => .inl ⟨by rfl, ?_⟩) ?_
            focus (unfold gives; simp [go_sem]; exact Behind.refl w)
            simp only [Act.put, List.setIfInBounds_toArray, List.set_cons_zero, List.set_cons_succ]
            refine laneO_run 2 (by kernel_rfl) ?_
            simp only [List.take_succ_cons, List.take_zero, List.drop_succ_cons, List.drop_zero]
            repeat (go_big_quiet_step (fail))
            refine wpQuiet_nil ?_
            refine laneO_fixed (v := .agg #[.int .i64 nd, .int .i64 (sumT p 0 k), .int .i64 0, .int .i64 0, .int .i64 hz, .int .i64 xa, .int .i64 0, .int .i64 0]) (by kernel_rfl) (fun w hw => .inl ⟨by rfl, ?_⟩) ?_
            focus (unfold gives; simp [go_sem]; exact Behind.refl w)
            simp only [Act.put, List.setIfInBounds_toArray, List.set_cons_zero, List.set_cons_succ]
            refine laneO_told (madeT 1 56 [.int .i64 nd, .int .i64 (sumT p 0 k), .int .i64 0, .int .i64 0, .int .i64 hz, .int .i64 xa, .int .i64 0, .int .i64 0]) (madeT_steady _ _ _) (by kernel_rfl) rfl (fun w hw => .inl ⟨by rfl, ?_⟩) ?_
            focus (unfold gives; simp [go_sem]; exact madeT_new 1 56 #[.int .i64 nd, .int .i64 (sumT p 0 k), .int .i64 0, .int .i64 0, .int .i64 hz, .int .i64 xa, .int .i64 0, .int .i64 0] w)
            refine laneO_end (by simp) rfl rfl rfl fun w4 hb0 => ?_
            rintro v ⟨g1, rfl, hg1⟩
            simp only [Act.put, List.setIfInBounds_toArray, List.set_cons_zero, List.set_cons_succ, fillAll]
            clear y0 y1 y2 LZ
            have S4 := Lib.hid (S3.out.behind hb0)
            have X4 := Lib.hid (X3.out.under hb0 zX)
            clear hb0 S3 X3 R3 zX zR
            have hb4 : B0 ≤ w4.heap.size := by have := S4.out.size; omega
            refine wpList_pushOne (by rfl) (.tmp 37) (.tmp 48) _ rfl B0 56 8 64 pcV0 Try.underlying50 pc_info rfl (by decide) m (.slice A1 m c) _ rfl S4.out.own hb4 g1 [.int .i64 nd, .int .i64 (sumT p 0 k), .int .i64 0, .int .i64 0, .int .i64 hz, .int .i64 xa, .int .i64 0, .int .i64 0] rfl hg1 rfl (by simp [Value.oneCell']) (by unfold maxLen; omega) (by omega) ?_
            intro A5 c5 w5 h5 ho5 hk5
            have S5 := Lib.hid (S4.out.pushed ⟨nd, sumT p 0 k, 0, 0, hz, xa, 0, 0⟩ h5 ho5 hk5)
            have X5 := Lib.hid (ho5.whole X4.out fun e => hne.out.1 (by simpa using e))
            have HG5 : Hid (∀ g, (Value.slice A5 (m + 1) c5).ownBlock = some g → g ≠ ge) := Lib.hid fun g hg e => by
              rcases hk5 g hg with h | h
              · exact hne.out.1 (by rw [← e]; exact h)
              · have := X4.out.size; omega
            clear h5 ho5 hk5 S4 X4 hg1
            obtain ⟨g2, c2, hv, -, -, -⟩ := owns_some S5.out.own (by omega)
            injection hv with e1 e2 e3
            subst e1 e3
            clear e2
            have hg2 : g2 ≠ ge := HG5.out g2 rfl
            clear HG5
            rw [HND.out, HHR.out] at HN
            go_wp2
            go_meet
            exact ⟨g2, m, c5, cur, _, k, rfl, hm, Nat.le_refl _, hg2, HM, Lib.hid (by rw [sumT_self]), HN, S5, X5⟩
          · obtain ⟨init, q, i, hc, hi, hq, hAI⟩ := HSAME.out h2 h3
            clear HNEW HSAME HNW h2 h3
            subst h1
            subst hc
            have hM2 := HM.out
            obtain ⟨m2, rfl⟩ : ∃ m2, m = m2 + 1 := ⟨(L0 ++ init).length, by rw [hM2]; simp; omega⟩
            have HM2 : Hid (m2 = (L0 ++ init).length) := Lib.hid (by have := hM2; simp at this ⊢; omega)
            clear hM2
            obtain ⟨g2, c2, hv, -, -, -⟩ := owns_some S2.out.own (by omega)
            injection hv with e1 e2 e3
            subst e1 e3
            clear e2
            have hg2 : g2 ≠ ge := fun e => hne.out.1 (by rw [e]; rfl)
            have R : Hid (∃ (g2' m2' c2' : Nat) (init' : List Pc) (q' : Pc) (i' : Nat), Value.slice (some ⟨g2, 0, none⟩) (m2 + 1) c = .slice (some ⟨g2', 0, none⟩) (m2' + 1) c2' ∧ m2' ≤ n0 + k ∧ i' ≤ k ∧ g2' ≠ ge ∧ Hid (m2' = (L0 ++ init').length) ∧ Hid (q'.w = sumT p i' k) ∧
              Hid (AppI rs p (k + 1) (init' ++ [grown q' xa xv])) ∧ Hid (PSt W wc B0 V (some ⟨g2', 0, none⟩) (m2' + 1) c2' (L0 ++ init' ++ [q'])) ∧ Hid (Whole wc ge 24 [.int .i64 xk, .int .i64 r, .int .i64 xa, .int .i64 xv])) := Lib.hid
              ⟨g2, m2, c, init, q, i, rfl, by omega, hi, hg2, HM2, Lib.hid hq, Lib.hid hAI, Lib.hid (by rw [List.append_assoc]; exact S2.out), X2⟩
            clear hq hAI
            go_wp2
            go_meet
            exact R.out
        case rest =>
          clear HNEW HSAME HNW hne S2 X2
          obtain ⟨g2, m2, c2, init, q, i, rfl, hm2, hik, hge, HM', HQ, HI', HS, HX⟩ := hcut
          clear HM HI hm
          obtain ⟨hsi, hbi⟩ := HSI.out i hik
          obtain ⟨hs0, hb0'⟩ := HSI.out 0 (Nat.zero_le _)
          have HS0 := Lib.hid hs0
          rw [← HQ.out] at hsi
          rw [hsi] at hbi
          rw [hs0] at hb0'
          have hw1 : -9223372036854775808 ≤ q.w + xv ∧ q.w + xv < 9223372036854775808 := by obtain ⟨a1, a2⟩ := hbi; omega
          have hw2 : -9223372036854775808 ≤ sumT p 0 k + xv ∧ sumT p 0 k + xv < 9223372036854775808 := by obtain ⟨a1, a2⟩ := hb0'; omega
          clear hsi hs0 hbi hb0' HSI HQ
          obtain ⟨pre, hpre⟩ : ∃ pre, L0 ++ init = pre := ⟨_, rfl⟩
          rw [hpre] at HM' HS
          have HPRE := Lib.hid hpre
          clear hpre
          obtain ⟨qn, qx, qy, qw, qh, qf, qt, ql⟩ := q
          simp only at hw1
          have hget : ∀ (x : Pc) (h : m2 < (pre ++ [x]).length), (pre ++ [x])[m2] = x := fun x h => by rw [List.getElem_append_right (by rw [← HM'.out]; omega)]; simp [← HM'.out]
          have hset : ∀ x y : Pc, (pre ++ [x]).set m2 y = pre ++ [y] := fun x y => by rw [List.set_append_right _ _ (by rw [← HM'.out]; omega), ← HM'.out, Nat.sub_self]; rfl
          have HGET := Lib.hid hget
          have HSET := Lib.hid hset
          have HLEN := Lib.hid (fun x : Pc => (by rw [List.length_append, ← HM'.out, List.length_singleton]; omega : m2 < (pre ++ [x]).length))
          clear hget hset
          have hmi : ((m2 + 1 : Nat) : Int) - 1 = m2 := by omega
          have hmj : (m2 : Int) < ((m2 + 1 : Nat) : Int) := by omega
          have x2 := HX.out.cell 2
          have c6 := HS.out.cells (HLEN.out _) (show 6 < 8 by decide) (.int .i64 qt) (by rw [HGET.out]; rfl)
          obtain ⟨c6, f6⟩ := c6
          generalize hQ : m2 * 8 = Q at *
          have S9 : Hid (PSt W (wc.setCell ⟨g2, Q + 6, none⟩ (.int .i64 (xa + 1))) B0 V (some ⟨g2, 0, none⟩) (m2 + 1) c2 (pre ++ [⟨qn, qx, qy, qw, qh, qf, xa + 1, ql⟩])) := Lib.hid (by
            have := HS.out.put (HLEN.out _) (show 6 < 8 by decide) (p := ⟨g2, Q + 6, none⟩) (by rw [← hQ]) (.int .i64 (xa + 1)) ⟨qn, qx, qy, qw, qh, qf, xa + 1, ql⟩ (by rw [HGET.out]; rfl)
            rwa [HSET.out] at this)
          have X9 : Hid (Whole (wc.setCell ⟨g2, Q + 6, none⟩ (.int .i64 (xa + 1))) ge 24 [.int .i64 xk, .int .i64 r, .int .i64 xa, .int .i64 xv]) := Lib.hid (HX.out.other (p := ⟨g2, Q + 6, none⟩) (by show ge ≠ g2; omega) _)
          go_upto_region 10 with fail
          clear x2 c6 f6 HS HX
          generalize wc.setCell ⟨g2, Q + 6, none⟩ (.int .i64 (xa + 1)) = w9 at *
          have zX := X9.out.size
          have y0 : ∀ t : Later w9.heap.size w9, t.w.cell? ⟨ge, 3, none⟩ = some (.int .i64 xv) := fun t => (X9.out.under t.h zX).cell 3
          have y1 : ∀ t : Later w9.heap.size w9, t.w.cell? ⟨g2, Q + 3, none⟩ = some (.int .i64 qw) := fun t => by
            have := (S9.out.behind t.h).cells (HLEN.out _) (show 3 < 8 by decide) (.int .i64 qw) (by rw [HGET.out]; rfl)
            rw [hQ] at this
            exact this.1
          refine region_lane [] [0, 1, 2, 3, 4, 5, 6, 7, 8, 9, 10] [11] (by kernel_rfl) (by kernel_rfl) (fun _ _ _ _ _ h => h) ?_
          simp only [pick, List.map_nil]
          refine wpQuiet_nil ⟨rfl, ?_⟩
          simp only [List.map_cons, List.map_nil, List.getD_cons_zero, List.getD_cons_succ, List.drop_succ_cons, List.drop_zero]
          refine laneO_run 11 (by kernel_rfl) ?_
          simp only [List.take_succ_cons, List.take_zero, List.drop_succ_cons, List.drop_zero]
          repeat (go_big_quiet_step (fail))
          refine wpQuiet_nil ?_
          refine laneO_end0 rfl rfl fun w8 hb0 => ?_
          clear y0 y1
          have c3 := (S9.out.behind hb0).cells (HLEN.out _) (show 3 < 8 by decide) (.int .i64 qw) (by rw [HGET.out]; rfl)
          rw [hQ] at c3
          obtain ⟨c3, f3⟩ := c3
          have SA : Hid (PSt W (w8.setCell ⟨g2, Q + 3, none⟩ (.int .i64 (qw + xv))) B0 V (some ⟨g2, 0, none⟩) (m2 + 1) c2 (pre ++ [⟨qn, qx, qy, qw + xv, qh, qf, xa + 1, ql⟩])) := Lib.hid (by
            have := (S9.out.behind hb0).put (HLEN.out _) (show 3 < 8 by decide) (p := ⟨g2, Q + 3, none⟩) (by rw [← hQ]) (.int .i64 (qw + xv)) ⟨qn, qx, qy, qw + xv, qh, qf, xa + 1, ql⟩ (by rw [HGET.out]; rfl)
            rwa [HSET.out] at this)
          have XA : Hid (Whole (w8.setCell ⟨g2, Q + 3, none⟩ (.int .i64 (qw + xv))) ge 24 [.int .i64 xk, .int .i64 r, .int .i64 xa, .int .i64 xv]) := Lib.hid ((X9.out.under hb0 zX).other (p := ⟨g2, Q + 3, none⟩) (by show ge ≠ g2; omega) _)
          clear hb0 S9 X9 zX
          go_upto_region 11 with fail
          clear c3 f3
          generalize w8.setCell ⟨g2, Q + 3, none⟩ (.int .i64 (qw + xv)) = wA at *
          have x3 := XA.out.cell 3
          go_wp2_with fail
          go_roundw
          case rel => exact ⟨some ⟨g2, 0, none⟩, m2 + 1, c2, k + 1, init ++ [⟨qn, qx, qy, qw + xv, qh, qf, xa + 1, ql⟩], by go_num, by rw [HS0.out], by go_num, by omega, by omega, Lib.hid (by rw [← List.append_assoc, HPRE.out, List.length_append, ← HM'.out]; rfl), HI', Lib.hid (by rw [← List.append_assoc, HPRE.out]; exact SA.out)⟩
          case measure => simp [intOf]; omega
    · have hki : ¬ (k : Int) < p.length := by omega
      have hkp : k = p.length := by omega
      subst hkp
      have HD := Lib.hid HI.out.done
      clear HI
      go_wp2
      refine bodyPost_ret (v := .slice A1 m c) ?_ rfl ?_
      · simp [results, Try.results40, go_sem]
      · exact ⟨A1, m, c, rfl, by rw [HM.out, HD.out], by rw [← HD.out]; exact HS.out⟩
end Go.Proofs.Ytmlnpphblicghaa
