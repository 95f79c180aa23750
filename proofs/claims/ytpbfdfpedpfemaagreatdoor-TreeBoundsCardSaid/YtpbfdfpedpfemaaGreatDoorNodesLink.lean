import Derived.Test.YtpbfdfpedpfemaaGreatDoorNodesNew
/- nodes.link, of one that goes behind all kids. -/
namespace Go.Proofs.YtpbfdfpedpfemaaGreatDoor
open Go Go.RowKit
set_option linter.unusedVariables false
set_option linter.unusedSimpArgs false
set_option maxRecDepth 20000
set_option maxHeartbeats 4000000

theorem link_end {W : World} {base t b N : Nat} {most : Int} {f : Int → Option Nat} (hd : Whole W t 88 [.int .i64 most, .map (some b)]) (hm : MapP Tryz.prog 3 W b N f)
    {id par : Int} (hi : In64i id) (hp : In64i par) {g gp : Nat} (hfi : f id = some g) (hfp : f par = some gp) (hne : g ≠ gp)
    {a0 a1 a2 a3 a4 kv : Value} (hG : Whole W gp 90 [a0, a1, a2, a3, a4, kv]) {ks : List Int} (hk : W.ownsRow base 3 1 kv ks.length (idC ks)) (hn : (-1 : Int) ∉ ks) (hl : ks.length ≤ 1000000) (hb : base ≤ W.heap.size)
    {b0 b1 b2 b3 b4 b5 : Value} (hN : Whole W g 90 [b0, b1, b2, b3, b4, b5]) :
    Calls Tryz.prog 62 #[.pointer (some ⟨t, 0, none⟩), .int .i64 id, .int .i64 par, .int .i64 (-1)] W fun e w' => e = .returned (.tuple #[]) ∧
      ∃ kv', Whole w' gp 90 [a0, a1, a2, a3, a4, kv'] ∧ Whole w' g 90 [b0, .int .i64 par, b2, b3, b4, b5] ∧ w'.ownsRow base 3 1 kv' (ks ++ [id]).length (idC (ks ++ [id])) ∧
        Only (gp :: g :: kv.ownBlock.toList) W w' ∧ (kv'.ownBlock = kv.ownBlock ∨ ∃ k, kv'.ownBlock = some k ∧ W.heap.size ≤ k) := by
  have c0 : W.cell? ⟨t, 0, none⟩ = some (.int .i64 most) := hd.cell 0
  have c1 : W.cell? ⟨t, 1, none⟩ = some (.map (some b)) := hd.cell 1
  have l1 := hm.look (t := 86) Tryz.underlying3 Tryz.underlying86 (zeroPtr W) hp
  rw [hfp] at l1
  change (Instr.lookup 86 (.map (some b)) (.int .i64 par) false).run Tryz.prog W = .ok (.pointer (some ⟨gp, 0, none⟩)) W at l1
  have d5 : W.cell? ⟨gp, 5, none⟩ = some kv := hG.cell 5
  have nk : kv.ownBlock ≠ some gp := whole_ne hG hk (by decide)
  have nk2 : kv.ownBlock ≠ some g := whole_ne hN hk (by decide)
  have nk3 : kv.ownBlock ≠ some t := whole_ne hd hk (by decide)
  have nm : kv.ownBlock ≠ some b := by
    intro e
    obtain ⟨D, ⟨es, clock, hb', -⟩, -⟩ := hm
    rcases hk.2 with ⟨rfl, -⟩ | ⟨g', cap, cur, rfl, -, hg', -⟩
    · simp [Value.ownBlock] at e
    · simp [Value.ownBlock] at e
      subst e
      rw [hb'] at hg'
      cases hg'
  have nb : b ≠ gp := by
    intro e
    obtain ⟨D, ⟨es, clock, hb', -⟩, -⟩ := hm
    subst e
    have hG' : W.heap[b]? = _ := hG
    rw [hb'] at hG'
    cases hG'
  have nt : t ≠ gp := by
    intro e
    subst e
    have h1 : W.heap[t]? = _ := hG
    have h2 : W.heap[t]? = _ := hd
    rw [h1] at h2
    injection h2 with h2
    simp at h2
  have ho := row_of_own (A := match kv with | .slice A _ _ => A | _ => none) (c := match kv with | .slice _ _ c => c | _ => 0) (by obtain ⟨A, c, rfl⟩ := own_shape hk; exact hk)
  obtain ⟨A, c, rfl⟩ := own_shape hk
  have IX := Lib.hid (index_none A c ks (-1) hn hl W ho)
  have I1 : Whole (W.alloc (.cells #[.int .i64 id] 3)) W.heap.size 3 [.int .i64 id] := Whole.mk W 3 #[.int .i64 id]
  have hal : Below W.heap.size W (W.alloc (.cells #[.int .i64 id] 3)) := (Below.refl _ _).alloc (Nat.le_refl _) _
  have oal : Only [] W (W.alloc (.cells #[.int .i64 id] 3)) := Only.of_below hal
  have INS := Lib.hid (insert_end base (.slice A ks.length c) ks id W.heap.size hl (W.alloc (.cells #[.int .i64 id] 3)) (oal.owns hk (by simp)) (by simp; omega) I1)
  have HH := Lib.hid (And.intro hd (And.intro hG hN))
  have HM := Lib.hid hm
  have HK := Lib.hid hk
  clear hd hG hN hm hk ho I1 hn
  go_enter Tryz.func62, Tryz.ntmps62
  go_wp2_with (rw [l1])
  refine IX.out.mono ?_
  rintro e w1 ⟨rfl, rfl⟩
  go_wp2_with fail
  refine INS.out.mono ?_
  rintro e w2 ⟨kv', rfl, h1, h2, h3⟩
  obtain ⟨A2, c2, rfl⟩ := own_shape h1
  have o2 : Only (Value.slice A ks.length c).ownBlock.toList W w2 := (oal.mono (by simp)).trans h2 (fun x hx => .inl hx)
  have sz2 : W.heap.size < w2.heap.size := by have := h2.size; simp at this; omega
  obtain ⟨hd, hG, hN⟩ := HH.out
  have D2 := Lib.hid (o2.whole hd (by intro hx; exact nk3 (by simpa using hx)))
  have G2 := Lib.hid (o2.whole hG (by intro hx; exact nk (by simpa using hx)))
  have N2 := Lib.hid (o2.whole hN (by intro hx; exact nk2 (by simpa using hx)))
  have M2 := Lib.hid (HM.out.only o2 (by intro hx; exact nm (by simpa using hx)))
  have own2 := Lib.hid h1
  have n2 : (Value.slice A2 (ks ++ [id]).length c2).ownBlock ≠ some gp := whole_ne G2.out h1 (by decide)
  have n3 : (Value.slice A2 (ks ++ [id]).length c2).ownBlock ≠ some g := whole_ne N2.out h1 (by decide)
  have K3 : Hid ((Value.slice A2 (ks ++ [id]).length c2).ownBlock = (Value.slice A ks.length c).ownBlock ∨ ∃ k, (Value.slice A2 (ks ++ [id]).length c2).ownBlock = some k ∧ W.heap.size ≤ k) := Lib.hid (by
    rcases h3 with h3 | h3
    · exact .inl h3
    · exact .inr ⟨_, h3, by simp⟩)
  have OO2 := Lib.hid o2
  have e5 : w2.cell? ⟨gp, 5, none⟩ = some (.slice A ks.length c) := G2.out.cell 5
  have f5 := G2.out.free 5
  generalize hL : (ks ++ [id]).length = m at *
  have O3 : Hid (Only [gp] w2 (w2.setCell ⟨gp, 5, none⟩ (.slice A2 m c2))) := Lib.hid ((Only.refl _ _).setCell _ (.inl (by simp)) _)
  have G3 : Hid (Whole (w2.setCell ⟨gp, 5, none⟩ (.slice A2 m c2)) gp 90 [a0, a1, a2, a3, a4, .slice A2 m c2]) := Lib.hid (G2.out.put 5 _)
  clear h1 h2 h3 o2 hd hG hN HH HM l1 c0 c1 d5 IX INS oal hal HK
  go_upto_region 5 with fail
  clear e5 f5
  generalize w2.setCell _ _ = w3 at *
  have D3 := Lib.hid (O3.out.whole D2.out (by simp; exact nt))
  have N3 := Lib.hid (O3.out.whole N2.out (by simp; exact hne))
  have M3 := Lib.hid (M2.out.only O3.out (by simp; exact nb))
  have own3 := Lib.hid (O3.out.owns own2.out (by intro k hk hx; simp at hx; subst hx; exact n2 hk))
  have c0 : w3.cell? ⟨t, 0, none⟩ = some (.int .i64 most) := D3.out.cell 0
  have c1 : w3.cell? ⟨t, 1, none⟩ = some (.map (some b)) := D3.out.cell 1
  have l1 := M3.out.look (t := 86) Tryz.underlying3 Tryz.underlying86 (zeroPtr w3) hi
  rw [hfi] at l1
  change (Instr.lookup 86 (.map (some b)) (.int .i64 id) false).run Tryz.prog w3 = .ok (.pointer (some ⟨g, 0, none⟩)) w3 at l1
  have e1 : w3.cell? ⟨g, 1, none⟩ = some b1 := N3.out.cell 1
  have f1 := N3.out.free 1
  have O4 : Hid (Only [g] w3 (w3.setCell ⟨g, 1, none⟩ (.int .i64 par))) := Lib.hid ((Only.refl _ _).setCell _ (.inl (by simp)) _)
  have N4 : Hid (Whole (w3.setCell ⟨g, 1, none⟩ (.int .i64 par)) g 90 [b0, .int .i64 par, b2, b3, b4, b5]) := Lib.hid (N3.out.put 1 _)
  have G4 := Lib.hid (O4.out.whole G3.out (by simp; exact fun e => hne e.symm))
  have own4 := Lib.hid (O4.out.owns own3.out (by intro k hk hx; simp at hx; subst hx; exact n3 hk))
  have OA : Hid (Only (gp :: g :: (Value.slice A ks.length c).ownBlock.toList) W (w3.setCell ⟨g, 1, none⟩ (.int .i64 par))) := Lib.hid (((OO2.out.mono (fun x hx => .inl (by simp at hx ⊢; exact .inr (.inr hx)))).trans O3.out (fun x hx => .inl (by simp at hx; simp [hx]))).trans O4.out (fun x hx => .inl (by simp at hx; simp [hx])))
  go_wp2_with (rw [l1])
  exact bodyPost_end (v := .tuple #[]) (results_none (by kernel_rfl) _ _ _) rfl ⟨rfl, .slice A2 m c2, G4.out, N4.out, by rw [hL]; exact own4.out, OA.out, K3.out⟩
end Go.Proofs.YtpbfdfpedpfemaaGreatDoor
