import Derived.Test.YtpbfdfpedpfemaaGreatDoorTreeAdd
import Derived.Test.YtpbfdfpedpfemaaGreatDoorLaneC
/- nodes.Put, behind all kids. -/
namespace Go.Proofs.YtpbfdfpedpfemaaGreatDoor
open Go Go.RowKit
set_option linter.unusedVariables false
set_option linter.unusedSimpArgs false
set_option maxRecDepth 20000
set_option maxHeartbeats 4000000

/-- A struct of a node with a list of its own. -/
def lentT (lo : Nat) (n : Nd) : Told := fun v w => ∃ A c, v = .agg (nodeC n (.slice A n.sty.length c)).toArray ∧ StyOwn w lo (.slice A n.sty.length c) n.sty
theorem lentT_steady (lo : Nat) (n : Nd) : Steady (lentT lo n) := fun v w w' hb ⟨A, c, e, h⟩ => ⟨A, c, e, h.only (Only.of_below (S := []) hb) (by simp)⟩
def freshT (lo : Nat) (n : Nd) : Told := fun v w => ∃ A c, v = .agg (ndC n (.slice A n.sty.length c) (.slice none 0 0)).toArray ∧ StyOwn w lo (.slice A n.sty.length c) n.sty
theorem freshT_steady (lo : Nat) (n : Nd) : Steady (freshT lo n) := fun v w w' hb ⟨A, c, e, h⟩ => ⟨A, c, e, h.only (Only.of_below (S := []) hb) (by simp)⟩
def nodeAtT (lo : Nat) (n : Nd) : Told := fun v w => ∃ g A c, v = .pointer (some ⟨g, 0, none⟩) ∧ lo ≤ g ∧ Whole w g 90 (ndC n (.slice A n.sty.length c) (.slice none 0 0)) ∧ StyOwn w lo (.slice A n.sty.length c) n.sty
theorem nodeAtT_steady (lo : Nat) (n : Nd) : Steady (nodeAtT lo n) := fun v w w' hb ⟨g, A, c, e, hl, hw, h⟩ => ⟨g, A, c, e, hl, hw.under hb hw.size, h.only (Only.of_below (S := []) hb) (by simp)⟩
theorem nput_any {W : World} {base t : Nat} {most : Int} {L : List Nd} (hT : Tree W base t most L) (hb0 : base ≤ W.heap.size) {n : Nd} {sv : Value} (hs : StyAt W sv n.sty) (h1 : 0 ≤ n.id ∧ n.id ≤ 1000) (h2 : hasZ L n.id = false) (h3 : hasZ L n.par = true) (hL : L.length ≤ 1000) :
    Calls Tryz.prog 39 #[.pointer (some ⟨t, 0, none⟩), .agg (nodeC n sv).toArray, .int .i64 (-1)] W fun e w' => e = .returned (.tuple #[]) ∧ Tree w' base t most (L ++ [n]) ∧ Below base W w' ∧ ∀ q cs, Whole W q 32 cs → Whole w' q 32 cs := by
  have B0 := Lib.hid ((Below.refl W.heap.size W).alloc (Nat.le_refl _) (.cells (nodeC n sv).toArray 32))
  have P0 := Lib.hid (Whole.mk W 32 (nodeC n sv).toArray)
  obtain ⟨b, f, svs, kvs, hT⟩ := hT.behind B0.out
  have HS := Lib.hid (hs.below B0.out)
  have HT := Lib.hid hT
  obtain ⟨A0, c0, rfl, -⟩ := hs
  clear hT
  go_enter Tryz.func39, Tryz.ntmps39
  go_upto_region 1 with fail
  generalize W.alloc _ = w0 at *
  have y1 : ∀ x : Later w0.heap.size w0, x.w.cell? ⟨t, 1, none⟩ = some (.map (some b)) := fun x => (HT.out.hd.under x.h HT.out.hd.size).cell 1
  have y2 : ∀ x : Later w0.heap.size w0, x.w.cell? ⟨W.heap.size, 0, none⟩ = some (.int .i64 n.id) := fun x => (P0.out.under x.h P0.out.size).cell 0
  have YP := Lib.hid (fun w (hb : Behind w0 w) => P0.out.under hb P0.out.size)
  have YS := Lib.hid (fun w (hb : Behind w0 w) => HS.out.below hb)
  refine region_lane [] [0, 1, 2, 3, 4, 5, 6, 7, 8, 9] [10] (by kernel_rfl) (by kernel_rfl) (fun _ _ _ _ _ h => h) ?_
  simp only [pick, List.map_nil]
  refine wpQuiet_nil ⟨rfl, ?_⟩
  simp only [List.map_cons, List.map_nil, List.getD_cons_zero, List.getD_cons_succ, List.drop_succ_cons, List.drop_zero]
  refine laneO_run 6 (by kernel_rfl) ?_
  simp only [List.take_succ_cons, List.take_zero, List.drop_succ_cons, List.drop_zero]
  repeat (go_big_quiet_step (fail))
  refine wpQuiet_nil ?_
  refine laneO_fixed (v := .agg (nodeC n (.slice A0 n.sty.length c0)).toArray) (by kernel_rfl) (fun w hw => .inl ⟨by rfl, cells_gives (n := 5) nodeT (.tmp 4) rfl W.heap.size rfl (nodeC n (.slice A0 n.sty.length c0)) rfl 32 (YP.out w hw)⟩) ?_
  simp only [Act.put, List.setIfInBounds_toArray, List.set_cons_zero, List.set_cons_succ]
  refine laneO_callT (lentT w0.heap.size n) (lentT_steady _ _) rfl rfl (by rfl) (by rfl) Tryz.func61 (by kernel_rfl) rfl (fun a' w hw hm => ?_) ?_
  · have e := hm 12 (by simp)
    have e : a'.tmps.getD 12 undef = .agg (nodeC n (.slice A0 n.sty.length c0)).toArray := e
    have e2 : (#[Operand.tmp 12] : Array Operand).map a'.eval = #[.agg (nodeC n (.slice A0 n.sty.length c0)).toArray] := by simp [Act.eval] at e ⊢; exact e
    rw [e2]
    refine (lent_any n _ w (YS.out w hw)).mono ?_
    rintro e w' ⟨sv', rfl, hs', hb'⟩
    obtain ⟨A, c, rfl, -⟩ := id hs'
    exact ⟨_, rfl, hb', A, c, rfl, hs'.mono hw.size⟩
  refine laneO_gives (freshT w0.heap.size n) (freshT_steady _ _) rfl (by rfl) (by rfl) (fun a' w hw hm => ?_) ?_
  · obtain ⟨A, c, e, hs'⟩ : lentT w0.heap.size n (a'.tmps.getD 13 undef) w := hm 13 (by simp [Oper.looksAt, Op.operands])
    have e2 : ((#[(0, Operand.tmp 13)] : Array (Nat × Operand)).map fun (i, x) => (i, a'.eval x)).toList = [(0, .agg (nodeC n (.slice A n.sty.length c)).toArray)] := by simp [Act.eval] at e ⊢; exact e
    have e3 : Tryz.prog.built 90 [(0, .agg (nodeC n (.slice A n.sty.length c)).toArray)] = some (ndC n (.slice A n.sty.length c) (.slice none 0 0)).toArray := by kernel_rfl
    exact gives_mono (built_gives 90 #[(0, .tmp 13)] rfl (ndC n (.slice A n.sty.length c) (.slice none 0 0)).toArray (by rw [e2]; exact e3)) fun v w' hb' hv => ⟨A, c, hv, hs'.only (Only.of_below (S := []) hb') (by simp)⟩
  refine laneO_gives (nodeAtT w0.heap.size n) (nodeAtT_steady _ _) rfl (by rfl) (by rfl) (fun a' w hw hm => ?_) ?_
  · obtain ⟨A, c, e, hs'⟩ : freshT w0.heap.size n (a'.tmps.getD 14 undef) w := hm 14 (by simp [Oper.looksAt, Op.operands])
    have hb1 : Behind w (w.alloc (.cells (ndC n (.slice A n.sty.length c) (.slice none 0 0)).toArray 90)) := (Below.refl _ _).alloc (Nat.le_refl _) _
    have e3 : a'.eval (.tmp 14) = .agg (ndC n (.slice A n.sty.length c) (.slice none 0 0)).toArray := e
    unfold gives
    simp only [execOp, e3]
    simp [go_sem, ndC]
    exact ⟨hb1, w.heap.size, A, c, rfl, hw.size, Whole.mk w 90 (ndC n (.slice A n.sty.length c) (.slice none 0 0)).toArray, hs'.only (Only.of_below (S := []) hb1) (by simp)⟩
  refine laneO_end (by simp) (by rfl) rfl rfl fun w1 hb1 => ?_
  rintro x ⟨g, A, c, rfl, hg, hN, hS⟩ y hy z hz
  clear hy hz y1 y2 YP YS
  simp only [fillAll, Act.put, List.setIfInBounds_toArray, List.set_cons_zero, List.set_cons_succ]
  have h := HT.out
  have h0w : W.heap.size < w0.heap.size := P0.out.size
  have hn0 : f n.id = none := h.gone h2
  obtain ⟨p, hp, hpi⟩ := has_iff.1 h3
  obtain ⟨gp, hgp⟩ := h.there hp
  have hfp : f n.par = some gp := by rw [← hpi]; exact hgp
  have hne : n.par ≠ n.id := fun e => by rw [e, h2] at h3; cases h3
  have hI : In64i n.id := by unfold In64i; omega
  have hIp : In64i n.par := by have := h.ok.rng p hp; unfold In64i; omega
  have hgp0 : gp < w0.heap.size := (h.nod p hp gp hgp).2.size
  have H1 := h.behind hb1
  obtain ⟨w2, hrun, M2, O2⟩ := H1.mp.store (t := 86) Tryz.underlying3 Tryz.underlying86 (by unfold maxLen; omega) hI g hn0
  have D2 := O2.whole H1.hd (by simp; intro e; subst e; exact map_no_cells H1.mp H1.hd)
  have PP := P0.out.under hb1 P0.out.size
  have P2 := O2.whole PP (by simp; intro e; subst e; exact map_no_cells H1.mp PP)
  have N2 := O2.whole hN (by simp; intro e; subst e; exact map_no_cells H1.mp hN)
  have hG1 := (H1.nod p hp gp hgp).2
  have G2 := O2.whole hG1 (by simp; intro e; subst e; exact map_no_cells H1.mp hG1)
  have K1 := H1.kid p hp
  have K2 := O2.owns K1 (by intro k hk hx; simp at hx; subst hx; exact map_no_row H1.mp K1 hk)
  have S2 := hS.only O2 (by
    intro k hk hx; simp at hx; subst hx
    obtain ⟨A', c', e', hr', -⟩ := hS
    rw [e'] at hk
    exact map_no_row H1.mp hr' hk)
  have z2 : w0.heap.size ≤ w2.heap.size := by have := O2.size; have := hb1.size; omega
  have LK := Lib.hid (link_end (base := base) D2 M2 hI hIp (if_pos rfl) (by rw [if_neg hne]; exact hfp) (by omega) (show Whole w2 gp 90 [.int .i64 p.id, .int .i64 p.par, .bool p.tx, .string p.dat, svs p.id, kvs p.id] from G2) K2 (kids_pos h.ok p.id) (by have := kids_few L p.id; omega) (by have := B0.out.size; omega) (show Whole w2 g 90 [.int .i64 n.id, .int .i64 n.par, .bool n.tx, .string n.dat, .slice A n.sty.length c, .slice none 0 0] from N2))
  have c1 : w1.cell? ⟨t, 1, none⟩ = some (.map (some b)) := H1.hd.cell 1
  have q0 : w2.cell? ⟨W.heap.size, 0, none⟩ = some (.int .i64 n.id) := P2.cell 0
  have q1 : w2.cell? ⟨W.heap.size, 1, none⟩ = some (.int .i64 n.par) := P2.cell 1
  have FIN : Hid (∀ w3 kn, Whole w3 gp 90 [.int .i64 p.id, .int .i64 p.par, .bool p.tx, .string p.dat, svs p.id, kn] → Whole w3 g 90 [.int .i64 n.id, .int .i64 n.par, .bool n.tx, .string n.dat, .slice A n.sty.length c, .slice none 0 0] →
      w3.ownsRow base 3 1 kn (kidsZ L p.id ++ [n.id]).length (idC (kidsZ L p.id ++ [n.id])) → Only (gp :: g :: (kvs p.id).ownBlock.toList) w2 w3 → (kn.ownBlock = (kvs p.id).ownBlock ∨ ∃ k, kn.ownBlock = some k ∧ w2.heap.size ≤ k) → Tree w3 base t most (L ++ [n]) ∧ Below base W w3 ∧ ∀ q cs, Whole W q 32 cs → Whole w3 q 32 cs) := Lib.hid (by
    intro w3 kn r1 r2 r3 r4 r5
    have nb : ∀ k, (kvs p.id).ownBlock = some k → k ≠ b := fun k hk e => by subst e; exact map_no_row H1.mp K1 hk
    have inS : ∀ x, x ∈ (gp :: g :: (kvs p.id).ownBlock.toList) → x = gp ∨ x = g ∨ (kvs p.id).ownBlock = some x := fun x hx => by
      simp at hx; rcases hx with rfl | rfl | hx
      · exact .inl rfl
      · exact .inr (.inl rfl)
      · exact .inr (.inr hx)
    have M3 := M2.only r4 (by
      intro hx
      rcases inS _ hx with e | e | e
      · subst e; exact map_no_cells M2 G2
      · subst e; exact map_no_cells M2 N2
      · exact nb _ e rfl)
    have S3 := S2.only r4 (by
      intro k hk hx
      rcases inS _ hx with e | e | e
      · subst e; exact S2.other G2 (by decide) hk
      · subst e; exact S2.other N2 (by decide) hk
      · obtain ⟨A', c', e', hr', -⟩ := S2
        rw [e'] at hk
        rcases hr'.2 with ⟨x1, -⟩ | ⟨g1, cap, cur, x1, -, x2, -⟩
        · rw [x1] at hk; simp [Value.ownBlock] at hk
        · rw [x1] at hk
          simp [Value.ownBlock] at hk
          subst hk
          rcases K2.2 with ⟨y1, -⟩ | ⟨g2, cap2, cur2, y1, -, y2, -⟩
          · rw [y1] at e; simp [Value.ownBlock] at e
          · rw [y1] at e
            simp [Value.ownBlock] at e
            subst e
            rw [x2] at y2
            injection y2 with y2
            simp at y2)
    have OO : Only (b :: gp :: (kvs p.id).ownBlock.toList) w0 w3 := ((Only.of_below (S := b :: gp :: (kvs p.id).ownBlock.toList) hb1).trans O2 (fun x hx => .inl (by simp at hx; simp [hx]))).trans r4 (fun x hx => by
      rcases inS _ hx with e | e | e
      · exact .inl (by simp [e])
      · exact .inr (by rw [e]; exact hg)
      · exact .inl (by simp [e]))
    refine ⟨⟨b, _, _, _, h.add h1 h2 hp hpi hgp hg OO M3 r1 r3 ?_ r2 (S3.mono (by have := B0.out.size; omega)) (by have := B0.out.size; omega)⟩, (B0.out.mono hb0).trans (OO.below (fun x hx => ?_) (by have := B0.out.size; omega)), fun q cs hq => ?_⟩
    · rcases r5 with r5 | ⟨k, r5, r6⟩
      · exact .inl r5
      · exact .inr ⟨k, r5, by omega⟩
    · simp at hx
      rcases hx with e | e | e
      · rw [e]; exact h.low.2
      · rw [e]; exact (h.nod p hp gp hgp).1
      · exact ((h.kid p hp).lt x e).1
    · have hq0 := hq.under B0.out hq.size
      refine OO.whole hq0 fun hx => ?_
      simp at hx
      rcases hx with e | e | e
      · subst e; exact map_no_cells h.mp hq0
      · subst e; exact absurd (whole_two hq0 (h.nod p hp _ hgp).2) (by decide)
      · exact whole_ne hq0 (h.kid p hp) (by decide) e)
  clear hN hS h H1 D2 PP P2 N2 hG1 G2 K1 K2 S2 M2 O2 HT P0 B0 HS
  go_wp2_with (rw [hrun])
  refine LK.out.mono ?_
  rintro e w3 ⟨rfl, kn, r1, r2, r3, r4, r5⟩
  have R := Lib.hid (FIN.out w3 kn r1 r2 r3 r4 r5)
  clear r1 r2 r3 r4 r5 FIN LK hrun
  go_wp2
  exact bodyPost_end (v := .tuple #[]) (results_none (by kernel_rfl) _ _ _) rfl ⟨rfl, R.out⟩
end Go.Proofs.YtpbfdfpedpfemaaGreatDoor
