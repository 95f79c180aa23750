import Derived.Test.YtbhdpfacfgldiaaGreatDoorNodesNewQ
import Derived.Test.YtbhdpfacfgldiaaGreatDoorZRQ
import Derived.BigQuiet
import Derived.Test.YtbhdpfacfgldiaaGreatDoorZQ
import Derived.Lib.MinMax
import Derived.Test.YtbhdpfacfgldiaaGreatDoorFmtBQ
import Derived.Test.YtbhdpfacfgldiaaGreatDoorShelf
import Derived.Lib.ItoaMem
import Derived.Lib.ItoaNum
import Derived.Laws.IdiomStrings
import Derived.Deep.Cut
import Derived.Test.YtbhdpfacfgldiaaGreatDoorDeclFormQ
/- nodes.link, of one that goes behind all kids. -/
namespace Go.Proofs.YtbhdpfacfgldiaaGreatDoor
open Go Go.RowKit
set_option linter.unusedVariables false
set_option linter.unusedSimpArgs false
set_option maxRecDepth 20000
set_option maxHeartbeats 4000000

theorem link_end {W : World} {base t b N : Nat} {most : Int} {f : Int → Option Nat} (hd : Whole W t 86 [.int .i64 most, .map (some b)]) (hm : MapP Tryz.prog 3 W b N f)
    {id par : Int} (hi : In64i id) (hp : In64i par) {g gp : Nat} (hfi : f id = some g) (hfp : f par = some gp) (hne : g ≠ gp)
    {a0 a1 a2 a3 a4 kv : Value} (hG : Whole W gp 88 [a0, a1, a2, a3, a4, kv]) {ks : List Int} (hk : W.ownsRow base 3 1 kv ks.length (idC ks)) (hn : (-1 : Int) ∉ ks) (hl : ks.length ≤ 1000000) (hb : base ≤ W.heap.size)
    {b0 b1 b2 b3 b4 b5 : Value} (hN : Whole W g 88 [b0, b1, b2, b3, b4, b5]) :
    Calls Tryz.prog 60 #[.pointer (some ⟨t, 0, none⟩), .int .i64 id, .int .i64 par, .int .i64 (-1)] W fun e w' => e = .returned (.tuple #[]) ∧
      ∃ kv', Whole w' gp 88 [a0, a1, a2, a3, a4, kv'] ∧ Whole w' g 88 [b0, .int .i64 par, b2, b3, b4, b5] ∧ w'.ownsRow base 3 1 kv' (ks ++ [id]).length (idC (ks ++ [id])) ∧
        Only (gp :: g :: kv.ownBlock.toList) W w' ∧ (kv'.ownBlock = kv.ownBlock ∨ ∃ k, kv'.ownBlock = some k ∧ W.heap.size ≤ k) := by
  have c0 : W.cell? ⟨t, 0, none⟩ = some (.int .i64 most) := hd.cell 0
  have c1 : W.cell? ⟨t, 1, none⟩ = some (.map (some b)) := hd.cell 1
  have l1 := hm.look (t := 84) Tryz.underlying3 Tryz.underlying84 (zeroPtr W) hp
  rw [hfp] at l1
  change (Instr.lookup 84 (.map (some b)) (.int .i64 par) false).run Tryz.prog W = .ok (.pointer (some ⟨gp, 0, none⟩)) W at l1
  have d5 : W.cell? ⟨gp, 5, none⟩ = some kv := hG.cell 5
  have nk : kv.ownBlock ≠ some gp := whole_ne hG hk (by decide)
  have nk2 : kv.ownBlock ≠ some g := whole_ne hN hk (by decide)
  have nk3 : kv.ownBlock ≠ some t := whole_ne hd hk (by decide)
  have nm : kv.ownBlock ≠ some b := by
    intro e
    obtain ⟨D, ⟨es, clock, hb', -⟩, -⟩ := hm
    rcases hk.2 with ⟨rfl, -⟩ | ⟨g', cap, cur, rfl, -, hg', -⟩
    · simp [Value.ownBlock] at e
    · simp [Value.ownBlock] at e
      subst e
      rw [hb'] at hg'
      cases hg'
  have nb : b ≠ gp := by
    intro e
    obtain ⟨D, ⟨es, clock, hb', -⟩, -⟩ := hm
    subst e
    have hG' : W.heap[b]? = _ := hG
    rw [hb'] at hG'
    cases hG'
  have nt : t ≠ gp := by
    intro e
    subst e
    have h1 : W.heap[t]? = _ := hG
    have h2 : W.heap[t]? = _ := hd
    rw [h1] at h2
    injection h2 with h2
    simp at h2
  have ho := row_of_own (A := match kv with | .slice A _ _ => A | _ => none) (c := match kv with | .slice _ _ c => c | _ => 0) (by obtain ⟨A, c, rfl⟩ := own_shape hk; exact hk)
  obtain ⟨A, c, rfl⟩ := own_shape hk
  have IX := Lib.hid (index_none A c ks (-1) hn hl W ho)
  have I1 : Whole (W.alloc (.cells #[.int .i64 id] 3)) W.heap.size 3 [.int .i64 id] := Whole.mk W 3 #[.int .i64 id]
  have hal : Below W.heap.size W (W.alloc (.cells #[.int .i64 id] 3)) := (Below.refl _ _).alloc (Nat.le_refl _) _
  have oal : Only [] W (W.alloc (.cells #[.int .i64 id] 3)) := Only.of_below hal
  have INS := Lib.hid (insert_end base (.slice A ks.length c) ks id W.heap.size hl (W.alloc (.cells #[.int .i64 id] 3)) (oal.owns hk (by simp)) (by simp; omega) I1)
  have HH := Lib.hid (And.intro hd (And.intro hG hN))
  have HM := Lib.hid hm
  have HK := Lib.hid hk
  clear hd hG hN hm hk ho I1 hn
  go_enter Tryz.func60, Tryz.ntmps60
  go_wp2_with (rw [l1])
  refine IX.out.mono ?_
  rintro e w1 ⟨rfl, rfl⟩
  go_wp2_with fail
  refine INS.out.mono ?_
  rintro e w2 ⟨kv', rfl, h1, h2, h3⟩
  obtain ⟨A2, c2, rfl⟩ := own_shape h1
  have o2 : Only (Value.slice A ks.length c).ownBlock.toList W w2 := (oal.mono (by simp)).trans h2 (fun x hx => .inl hx)
  have sz2 : W.heap.size < w2.heap.size := by have := h2.size; simp at this; omega
  obtain ⟨hd, hG, hN⟩ := HH.out
  have D2 := Lib.hid (o2.whole hd (by intro hx; exact nk3 (by simpa using hx)))
  have G2 := Lib.hid (o2.whole hG (by intro hx; exact nk (by simpa using hx)))
  have N2 := Lib.hid (o2.whole hN (by intro hx; exact nk2 (by simpa using hx)))
  have M2 := Lib.hid (HM.out.only o2 (by intro hx; exact nm (by simpa using hx)))
  have own2 := Lib.hid h1
  have n2 : (Value.slice A2 (ks ++ [id]).length c2).ownBlock ≠ some gp := whole_ne G2.out h1 (by decide)
  have n3 : (Value.slice A2 (ks ++ [id]).length c2).ownBlock ≠ some g := whole_ne N2.out h1 (by decide)
  have K3 : Hid ((Value.slice A2 (ks ++ [id]).length c2).ownBlock = (Value.slice A ks.length c).ownBlock ∨ ∃ k, (Value.slice A2 (ks ++ [id]).length c2).ownBlock = some k ∧ W.heap.size ≤ k) := Lib.hid (by
    rcases h3 with h3 | h3
    · exact .inl h3
    · exact .inr ⟨_, h3, by simp⟩)
  have OO2 := Lib.hid o2
  have e5 : w2.cell? ⟨gp, 5, none⟩ = some (.slice A ks.length c) := G2.out.cell 5
  have f5 := G2.out.free 5
  generalize hL : (ks ++ [id]).length = m at *
  have O3 : Hid (Only [gp] w2 (w2.setCell ⟨gp, 5, none⟩ (.slice A2 m c2))) := Lib.hid ((Only.refl _ _).setCell _ (.inl (by simp)) _)
  have G3 : Hid (Whole (w2.setCell ⟨gp, 5, none⟩ (.slice A2 m c2)) gp 88 [a0, a1, a2, a3, a4, .slice A2 m c2]) := Lib.hid (G2.out.put 5 _)
  clear h1 h2 h3 o2 hd hG hN HH HM l1 c0 c1 d5 IX INS oal hal HK
  go_upto_region 5 with fail
  clear e5 f5
  generalize w2.setCell _ _ = w3 at *
  have D3 := Lib.hid (O3.out.whole D2.out (by simp; exact nt))
  have N3 := Lib.hid (O3.out.whole N2.out (by simp; exact hne))
  have M3 := Lib.hid (M2.out.only O3.out (by simp; exact nb))
  have own3 := Lib.hid (O3.out.owns own2.out (by intro k hk hx; simp at hx; subst hx; exact n2 hk))
  have c0 : w3.cell? ⟨t, 0, none⟩ = some (.int .i64 most) := D3.out.cell 0
  have c1 : w3.cell? ⟨t, 1, none⟩ = some (.map (some b)) := D3.out.cell 1
  have l1 := M3.out.look (t := 84) Tryz.underlying3 Tryz.underlying84 (zeroPtr w3) hi
  rw [hfi] at l1
  change (Instr.lookup 84 (.map (some b)) (.int .i64 id) false).run Tryz.prog w3 = .ok (.pointer (some ⟨g, 0, none⟩)) w3 at l1
  have e1 : w3.cell? ⟨g, 1, none⟩ = some b1 := N3.out.cell 1
  have f1 := N3.out.free 1
  have O4 : Hid (Only [g] w3 (w3.setCell ⟨g, 1, none⟩ (.int .i64 par))) := Lib.hid ((Only.refl _ _).setCell _ (.inl (by simp)) _)
  have N4 : Hid (Whole (w3.setCell ⟨g, 1, none⟩ (.int .i64 par)) g 88 [b0, .int .i64 par, b2, b3, b4, b5]) := Lib.hid (N3.out.put 1 _)
  have G4 := Lib.hid (O4.out.whole G3.out (by simp; exact fun e => hne e.symm))
  have own4 := Lib.hid (O4.out.owns own3.out (by intro k hk hx; simp at hx; subst hx; exact n3 hk))
  have OA : Hid (Only (gp :: g :: (Value.slice A ks.length c).ownBlock.toList) W (w3.setCell ⟨g, 1, none⟩ (.int .i64 par))) := Lib.hid (((OO2.out.mono (fun x hx => .inl (by simp at hx ⊢; exact .inr (.inr hx)))).trans O3.out (fun x hx => .inl (by simp at hx; simp [hx]))).trans O4.out (fun x hx => .inl (by simp at hx; simp [hx])))
  go_wp2_with (rw [l1])
  exact bodyPost_end (v := .tuple #[]) (results_none (by kernel_rfl) _ _ _) rfl ⟨rfl, .slice A2 m c2, G4.out, N4.out, by rw [hL]; exact own4.out, OA.out, K3.out⟩
end Go.Proofs.YtbhdpfacfgldiaaGreatDoor
/- A tree with one more node, behind all kids of its parent. -/
namespace Go.Proofs.YtbhdpfacfgldiaaGreatDoor
open Go Go.RowKit
set_option linter.unusedVariables false
set_option linter.unusedSimpArgs false
set_option maxRecDepth 20000
set_option maxHeartbeats 4000000

theorem map_no_cells {P : Program} {k : TypeId} {w : World} {b n : Nat} {f : Int → Option Nat} (h : MapP P k w b n f) {t : TypeId} {cs : List Value} : ¬ Whole w b t cs := by
  obtain ⟨D, ⟨es, clock, hb, -⟩, -⟩ := h
  intro hw
  have hw' : w.heap[b]? = _ := hw
  rw [hb] at hw'
  cases hw'
theorem map_no_row {P : Program} {k : TypeId} {w : World} {b n : Nat} {f : Int → Option Nat} (h : MapP P k w b n f) {base e size m : Nat} {v : Value} {xs : List Value} (ho : w.ownsRow base e size v m xs) : v.ownBlock ≠ some b := by
  obtain ⟨D, ⟨es, clock, hb, -⟩, -⟩ := h
  intro e'
  rcases ho.2 with ⟨rfl, -⟩ | ⟨g', cap, cur, rfl, -, hg', -⟩
  · simp [Value.ownBlock] at e'
  · simp [Value.ownBlock] at e'
    subst e'
    rw [hb] at hg'
    cases hg'
theorem own_lt {w : World} {base e size m : Nat} {v : Value} {xs : List Value} (ho : w.ownsRow base e size v m xs) {k : Nat} (hk : v.ownBlock = some k) : k < w.heap.size := (ho.lt k hk).2
theorem whole_two {w : World} {g : Nat} {t t' : TypeId} {cs cs' : List Value} (h : Whole w g t cs) (h' : Whole w g t' cs') : t = t' := by
  have h1 : w.heap[g]? = _ := h
  have h2 : w.heap[g]? = _ := h'
  rw [h1] at h2
  injection h2 with h2
  simp at h2
  exact h2.2
theorem kids_pos {L : List Nd} (h : TreeOk L) (id : Int) : (-1 : Int) ∉ kidsZ L id := by
  unfold kidsZ
  intro hx
  obtain ⟨m, hm, e⟩ := List.mem_map.1 hx
  have hm' := List.mem_of_mem_tail (List.mem_filter.1 hm).1
  have := h.rng m hm'
  omega
theorem TreeAt.add {W w : World} {base t b : Nat} {most : Int} {L : List Nd} {f : Int → Option Nat} {sv kv : Int → Value} (h : TreeAt W base t b most L f sv kv) {n : Nd} (h1 : 0 ≤ n.id ∧ n.id ≤ 1000) (h2 : hasZ L n.id = false) {p : Nd} (hp : p ∈ L) (hpi : p.id = n.par)
    {gp g : Nat} (hgp : f p.id = some gp) (hg : W.heap.size ≤ g) (hO : Only (b :: gp :: (kv p.id).ownBlock.toList) W w)
    (hM : MapP Tryz.prog 3 w b (L.length + 1) (fun x => if x = n.id then some g else f x)) {kn sn : Value}
    (hG : Whole w gp 88 (ndC p (sv p.id) kn)) (hK : w.ownsRow base 3 1 kn (kidsZ L p.id ++ [n.id]).length (idC (kidsZ L p.id ++ [n.id])))
    (hkn : kn.ownBlock = (kv p.id).ownBlock ∨ ∃ k, kn.ownBlock = some k ∧ W.heap.size ≤ k) (hN : Whole w g 88 (ndC n sn (.slice none 0 0))) (hS : StyOwn w base sn n.sty) (hb0 : base ≤ W.heap.size) :
    TreeAt w base t b most (L ++ [n]) (fun x => if x = n.id then some g else f x) (fun x => if x = n.id then sn else sv x) (fun x => if x = n.id then .slice none 0 0 else if x = n.par then kn else kv x) := by
  have hP : hasZ L n.par = true := has_iff.2 ⟨p, hp, hpi⟩
  have hok := h.ok.add h1 h2 hP
  have hne : n.par ≠ n.id := fun e => by rw [e, h2] at hP; cases hP
  have hL0 : L ≠ [] := by obtain ⟨r, R, rfl, -⟩ := h.ok.root; simp
  have hid : ∀ m ∈ L, m.id ≠ n.id := fun m hm e => at_none.1 (has_no h2) m hm e
  have bO := (h.nod p hp gp hgp).2
  have kO := h.kid p hp
  have inS : ∀ x, x ∈ (b :: gp :: (kv p.id).ownBlock.toList) → x = b ∨ x = gp ∨ (kv p.id).ownBlock = some x := fun x hx => by
    simp at hx; rcases hx with rfl | rfl | hx
    · exact .inl rfl
    · exact .inr (.inl rfl)
    · exact .inr (.inr hx)
  refine ⟨hok, h.low, ?_, by simpa using hM, fun id => ?_, fun m hm k hk => ?_, fun m hm => ?_, fun m hm => ?_, fun i j k hi hj => ?_, fun m hm m' hm' k hk hk' => ?_⟩
  · refine hO.whole h.hd fun hx => ?_
    rcases inS _ hx with e | e | e
    · subst e; exact map_no_cells h.mp h.hd
    · subst e; exact absurd (whole_two h.hd bO) (by decide)
    · exact whole_ne h.hd kO (by decide) e
  · rw [has_append L n id h2]
    by_cases e : id = n.id
    · simp [e]
    · simp [e, h.dom id]
  · rcases List.mem_append.1 hm with hm | hm
    · rw [if_neg (hid m hm)] at hk
      rw [if_neg (hid m hm), if_neg (hid m hm)]
      obtain ⟨hk1, hk2⟩ := h.nod m hm k hk
      refine ⟨hk1, ?_⟩
      by_cases e : m.id = n.par
      · have em : m = p := by
          have e1 := h.ok.at_mem hm
          have e2 := h.ok.at_mem hp
          rw [e, ← hpi, e2] at e1
          injection e1 with e1; exact e1.symm
        subst em
        rw [hgp] at hk
        injection hk with hk
        subst hk
        rw [if_pos e]; exact hG
      · rw [if_neg e]
        refine hO.whole hk2 fun hx => ?_
        rcases inS _ hx with e1 | e1 | e1
        · subst e1; exact map_no_cells h.mp hk2
        · subst e1
          have := h.inj _ _ _ hk hgp
          exact e (this.trans hpi)
        · exact whole_ne hk2 kO (by decide) e1
    · have em : m = n := by simpa using hm
      subst em
      rw [if_pos rfl] at hk
      injection hk with hk
      subst hk
      rw [if_pos rfl, if_pos rfl]
      exact ⟨by omega, hN⟩
  · rcases List.mem_append.1 hm with hm | hm
    · rw [if_neg (hid m hm)]
      refine (h.sty m hm).only hO fun k hk hx => ?_
      obtain ⟨A, c, e, hr, -⟩ := h.sty m hm
      rcases inS _ hx with e1 | e1 | e1
      · subst e1; rw [e] at hk; exact map_no_row h.mp hr hk
      · subst e1; exact (h.sty m hm).other bO (by decide) hk
      · rw [e] at hk
        rcases hr.2 with ⟨e2, -⟩ | ⟨g', cap, cur, e2, -, hg', -⟩
        · rw [e2] at hk; simp [Value.ownBlock] at hk
        · rw [e2] at hk
          simp [Value.ownBlock] at hk
          subst hk
          rcases kO.2 with ⟨e3, -⟩ | ⟨g2, cap2, cur2, e3, -, hg2, -⟩
          · rw [e3] at e1; simp [Value.ownBlock] at e1
          · rw [e3] at e1
            simp [Value.ownBlock] at e1
            subst e1
            rw [hg'] at hg2
            injection hg2 with hg2
            simp at hg2
    · have em : m = n := by simpa using hm
      subst em
      rw [if_pos rfl]; exact hS
  · rcases List.mem_append.1 hm with hm | hm
    · rw [if_neg (hid m hm), kids_append L n _ hL0]
      by_cases e : m.id = n.par
      · rw [if_pos e, if_pos e]
        have : m.id = p.id := e.trans hpi.symm
        rw [this]; exact hK
      · rw [if_neg e, if_neg e]
        refine hO.owns (h.kid m hm) fun k hk hx => ?_
        rcases inS _ hx with e1 | e1 | e1
        · subst e1; exact map_no_row h.mp (h.kid m hm) hk
        · subst e1; exact whole_ne bO (h.kid m hm) (by decide) hk
        · exact e ((h.apart m hm p hp k hk e1).trans hpi)
    · have em : m = n := by simpa using hm
      subst em
      rw [if_pos rfl, kids_append L m _ hL0, if_neg (fun e => hne e.symm), kids_none h.ok h2]
      exact ⟨rfl, .inl ⟨rfl, rfl⟩⟩
  · by_cases e1 : i = n.id
    · by_cases e2 : j = n.id
      · rw [e1, e2]
      · rw [if_pos e1] at hi
        rw [if_neg e2] at hj
        injection hi with hi
        subst hi
        have hj' : hasZ L j = true := by rw [← h.dom j, hj]; rfl
        obtain ⟨m, hm, em⟩ := has_iff.1 hj'
        subst em
        have := (h.nod m hm _ hj).2.size
        omega
    · rw [if_neg e1] at hi
      by_cases e2 : j = n.id
      · rw [if_pos e2] at hj
        injection hj with hj
        subst hj
        have hi' : hasZ L i = true := by rw [← h.dom i, hi]; rfl
        obtain ⟨m, hm, em⟩ := has_iff.1 hi'
        subst em
        have := (h.nod m hm _ hi).2.size
        omega
      · rw [if_neg e2] at hj
        exact h.inj _ _ _ hi hj
  · have far : ∀ m ∈ L, ∀ k, (kv m.id).ownBlock = some k → k < W.heap.size := fun m hm k hk => own_lt (h.kid m hm) hk
    have leaf : ∀ k, (Value.slice none 0 0).ownBlock ≠ some k := fun k => by simp [Value.ownBlock]
    rcases List.mem_append.1 hm with hm | hm
    · rcases List.mem_append.1 hm' with hm' | hm'
      · rw [if_neg (hid m hm)] at hk
        rw [if_neg (hid m' hm')] at hk'
        by_cases e : m.id = n.par
        · by_cases e' : m'.id = n.par
          · exact e.trans e'.symm
          · rw [if_pos e] at hk
            rw [if_neg e'] at hk'
            rcases hkn with q | ⟨k2, q, hq⟩
            · rw [q] at hk
              have := h.apart p hp m' hm' k hk hk'
              exact absurd (this.symm.trans hpi) e'
            · rw [q] at hk
              injection hk with hk
              subst hk
              have := far m' hm' _ hk'
              omega
        · rw [if_neg e] at hk
          by_cases e' : m'.id = n.par
          · rw [if_pos e'] at hk'
            rcases hkn with q | ⟨k2, q, hq⟩
            · rw [q] at hk'
              have := h.apart m hm p hp k hk hk'
              exact absurd (this.trans hpi) e
            · rw [q] at hk'
              injection hk' with hk'
              subst hk'
              have := far m hm _ hk
              omega
          · rw [if_neg e'] at hk'
            exact h.apart m hm m' hm' k hk hk'
      · have em : m' = n := by simpa using hm'
        subst em
        rw [if_pos rfl] at hk'
        exact absurd hk' (leaf k)
    · have em : m = n := by simpa using hm
      subst em
      rw [if_pos rfl] at hk
      exact absurd hk (leaf k)
end Go.Proofs.YtbhdpfacfgldiaaGreatDoor
/- nodes.Put, behind all kids. -/
namespace Go.Proofs.YtbhdpfacfgldiaaGreatDoor
open Go Go.RowKit
set_option linter.unusedVariables false
set_option linter.unusedSimpArgs false
set_option maxRecDepth 20000
set_option maxHeartbeats 4000000

/-- A struct of a node with a list of its own. -/
def lentT (lo : Nat) (n : Nd) : Told := fun v w => ∃ A c, v = .agg (nodeC n (.slice A n.sty.length c)).toArray ∧ StyOwn w lo (.slice A n.sty.length c) n.sty
theorem lentT_steady (lo : Nat) (n : Nd) : Steady (lentT lo n) := fun v w w' hb ⟨A, c, e, h⟩ => ⟨A, c, e, h.only (Only.of_below (S := []) hb) (by simp)⟩
def freshT (lo : Nat) (n : Nd) : Told := fun v w => ∃ A c, v = .agg (ndC n (.slice A n.sty.length c) (.slice none 0 0)).toArray ∧ StyOwn w lo (.slice A n.sty.length c) n.sty
theorem freshT_steady (lo : Nat) (n : Nd) : Steady (freshT lo n) := fun v w w' hb ⟨A, c, e, h⟩ => ⟨A, c, e, h.only (Only.of_below (S := []) hb) (by simp)⟩
def nodeAtT (lo : Nat) (n : Nd) : Told := fun v w => ∃ g A c, v = .pointer (some ⟨g, 0, none⟩) ∧ lo ≤ g ∧ Whole w g 88 (ndC n (.slice A n.sty.length c) (.slice none 0 0)) ∧ StyOwn w lo (.slice A n.sty.length c) n.sty
theorem nodeAtT_steady (lo : Nat) (n : Nd) : Steady (nodeAtT lo n) := fun v w w' hb ⟨g, A, c, e, hl, hw, h⟩ => ⟨g, A, c, e, hl, hw.under hb hw.size, h.only (Only.of_below (S := []) hb) (by simp)⟩
theorem nput_any {W : World} {base t : Nat} {most : Int} {L : List Nd} (hT : Tree W base t most L) (hb0 : base ≤ W.heap.size) {n : Nd} {sv : Value} (hs : StyAt W sv n.sty) (h1 : 0 ≤ n.id ∧ n.id ≤ 1000) (h2 : hasZ L n.id = false) (h3 : hasZ L n.par = true) (hL : L.length ≤ 1000) :
    Calls Tryz.prog 37 #[.pointer (some ⟨t, 0, none⟩), .agg (nodeC n sv).toArray, .int .i64 (-1)] W fun e w' => e = .returned (.tuple #[]) ∧ Tree w' base t most (L ++ [n]) ∧ Below base W w' ∧ ∀ q cs, Whole W q 32 cs → Whole w' q 32 cs := by
  have B0 := Lib.hid ((Below.refl W.heap.size W).alloc (Nat.le_refl _) (.cells (nodeC n sv).toArray 32))
  have P0 := Lib.hid (Whole.mk W 32 (nodeC n sv).toArray)
  obtain ⟨b, f, svs, kvs, hT⟩ := hT.behind B0.out
  have HS := Lib.hid (hs.below B0.out)
  have HT := Lib.hid hT
  obtain ⟨A0, c0, rfl, -⟩ := hs
  clear hT
  go_enter Tryz.func37, Tryz.ntmps37
  go_upto_region 1 with fail
  generalize W.alloc _ = w0 at *
  have y1 : ∀ x : Later w0.heap.size w0, x.w.cell? ⟨t, 1, none⟩ = some (.map (some b)) := fun x => (HT.out.hd.under x.h HT.out.hd.size).cell 1
  have y2 : ∀ x : Later w0.heap.size w0, x.w.cell? ⟨W.heap.size, 0, none⟩ = some (.int .i64 n.id) := fun x => (P0.out.under x.h P0.out.size).cell 0
  have YP := Lib.hid (fun w (hb : Behind w0 w) => P0.out.under hb P0.out.size)
  have YS := Lib.hid (fun w (hb : Behind w0 w) => HS.out.below hb)
  refine region_lane [] [0, 1, 2, 3, 4, 5, 6, 7, 8, 9] [10] (by kernel_rfl) (by kernel_rfl) (fun _ _ _ _ _ h => h) ?_
  simp only [pick, List.map_nil]
  refine wpQuiet_nil ⟨rfl, ?_⟩
  simp only [List.map_cons, List.map_nil, List.getD_cons_zero, List.getD_cons_succ, List.drop_succ_cons, List.drop_zero]
  refine laneO_run 6 (by kernel_rfl) ?_
  simp only [List.take_succ_cons, List.take_zero, List.drop_succ_cons, List.drop_zero]
  repeat (go_big_quiet_step (fail))
  refine wpQuiet_nil ?_
  refine laneO_fixed (v := .agg (nodeC n (.slice A0 n.sty.length c0)).toArray) (by kernel_rfl) (fun w hw => .inl ⟨by rfl, cells_gives (n := 5) nodeT (.tmp 4) rfl W.heap.size rfl (nodeC n (.slice A0 n.sty.length c0)) rfl 32 (YP.out w hw)⟩) ?_
  simp only [Act.put, List.setIfInBounds_toArray, List.set_cons_zero, List.set_cons_succ]
  refine laneO_callT (lentT w0.heap.size n) (lentT_steady _ _) rfl rfl (by rfl) (by rfl) Tryz.func59 (by kernel_rfl) rfl (fun a' w hw hm => ?_) ?_
  · have e := hm 12 (by simp)
    have e : a'.tmps.getD 12 undef = .agg (nodeC n (.slice A0 n.sty.length c0)).toArray := e
    have e2 : (#[Operand.tmp 12] : Array Operand).map a'.eval = #[.agg (nodeC n (.slice A0 n.sty.length c0)).toArray] := by simp [Act.eval] at e ⊢; exact e
    rw [e2]
    refine (lent_any n _ w (YS.out w hw)).mono ?_
    rintro e w' ⟨sv', rfl, hs', hb'⟩
    obtain ⟨A, c, rfl, -⟩ := id hs'
    exact ⟨_, rfl, hb', A, c, rfl, hs'.mono hw.size⟩
  refine laneO_gives (freshT w0.heap.size n) (freshT_steady _ _) rfl (by rfl) (by rfl) (fun a' w hw hm => ?_) ?_
  · obtain ⟨A, c, e, hs'⟩ : lentT w0.heap.size n (a'.tmps.getD 13 undef) w := hm 13 (by simp [Oper.looksAt, Op.operands])
    have e2 : ((#[(0, Operand.tmp 13)] : Array (Nat × Operand)).map fun (i, x) => (i, a'.eval x)).toList = [(0, .agg (nodeC n (.slice A n.sty.length c)).toArray)] := by simp [Act.eval] at e ⊢; exact e
    have e3 : Tryz.prog.built 88 [(0, .agg (nodeC n (.slice A n.sty.length c)).toArray)] = some (ndC n (.slice A n.sty.length c) (.slice none 0 0)).toArray := by kernel_rfl
    exact gives_mono (built_gives 88 #[(0, .tmp 13)] rfl (ndC n (.slice A n.sty.length c) (.slice none 0 0)).toArray (by rw [e2]; exact e3)) fun v w' hb' hv => ⟨A, c, hv, hs'.only (Only.of_below (S := []) hb') (by simp)⟩
  refine laneO_gives (nodeAtT w0.heap.size n) (nodeAtT_steady _ _) rfl (by rfl) (by rfl) (fun a' w hw hm => ?_) ?_
  · obtain ⟨A, c, e, hs'⟩ : freshT w0.heap.size n (a'.tmps.getD 14 undef) w := hm 14 (by simp [Oper.looksAt, Op.operands])
    have hb1 : Behind w (w.alloc (.cells (ndC n (.slice A n.sty.length c) (.slice none 0 0)).toArray 88)) := (Below.refl _ _).alloc (Nat.le_refl _) _
    have e3 : a'.eval (.tmp 14) = .agg (ndC n (.slice A n.sty.length c) (.slice none 0 0)).toArray := e
    unfold gives
    simp only [execOp, e3]
    simp [go_sem, ndC]
    exact ⟨hb1, w.heap.size, A, c, rfl, hw.size, Whole.mk w 88 (ndC n (.slice A n.sty.length c) (.slice none 0 0)).toArray, hs'.only (Only.of_below (S := []) hb1) (by simp)⟩
  refine laneO_end (by simp) (by rfl) rfl rfl fun w1 hb1 => ?_
  rintro x ⟨g, A, c, rfl, hg, hN, hS⟩ y hy z hz
  clear hy hz y1 y2 YP YS
  simp only [fillAll, Act.put, List.setIfInBounds_toArray, List.set_cons_zero, List.set_cons_succ]
  have h := HT.out
  have h0w : W.heap.size < w0.heap.size := P0.out.size
  have hn0 : f n.id = none := h.gone h2
  obtain ⟨p, hp, hpi⟩ := has_iff.1 h3
  obtain ⟨gp, hgp⟩ := h.there hp
  have hfp : f n.par = some gp := by rw [← hpi]; exact hgp
  have hne : n.par ≠ n.id := fun e => by rw [e, h2] at h3; cases h3
  have hI : In64i n.id := by unfold In64i; omega
  have hIp : In64i n.par := by have := h.ok.rng p hp; unfold In64i; omega
  have hgp0 : gp < w0.heap.size := (h.nod p hp gp hgp).2.size
  have H1 := h.behind hb1
  obtain ⟨w2, hrun, M2, O2⟩ := H1.mp.store (t := 84) Tryz.underlying3 Tryz.underlying84 (by unfold maxLen; omega) hI g hn0
  have D2 := O2.whole H1.hd (by simp; intro e; subst e; exact map_no_cells H1.mp H1.hd)
  have PP := P0.out.under hb1 P0.out.size
  have P2 := O2.whole PP (by simp; intro e; subst e; exact map_no_cells H1.mp PP)
  have N2 := O2.whole hN (by simp; intro e; subst e; exact map_no_cells H1.mp hN)
  have hG1 := (H1.nod p hp gp hgp).2
  have G2 := O2.whole hG1 (by simp; intro e; subst e; exact map_no_cells H1.mp hG1)
  have K1 := H1.kid p hp
  have K2 := O2.owns K1 (by intro k hk hx; simp at hx; subst hx; exact map_no_row H1.mp K1 hk)
  have S2 := hS.only O2 (by
    intro k hk hx; simp at hx; subst hx
    obtain ⟨A', c', e', hr', -⟩ := hS
    rw [e'] at hk
    exact map_no_row H1.mp hr' hk)
  have z2 : w0.heap.size ≤ w2.heap.size := by have := O2.size; have := hb1.size; omega
  have LK := Lib.hid (link_end (base := base) D2 M2 hI hIp (if_pos rfl) (by rw [if_neg hne]; exact hfp) (by omega) (show Whole w2 gp 88 [.int .i64 p.id, .int .i64 p.par, .bool p.tx, .string p.dat, svs p.id, kvs p.id] from G2) K2 (kids_pos h.ok p.id) (by have := kids_few L p.id; omega) (by have := B0.out.size; omega) (show Whole w2 g 88 [.int .i64 n.id, .int .i64 n.par, .bool n.tx, .string n.dat, .slice A n.sty.length c, .slice none 0 0] from N2))
  have c1 : w1.cell? ⟨t, 1, none⟩ = some (.map (some b)) := H1.hd.cell 1
  have q0 : w2.cell? ⟨W.heap.size, 0, none⟩ = some (.int .i64 n.id) := P2.cell 0
  have q1 : w2.cell? ⟨W.heap.size, 1, none⟩ = some (.int .i64 n.par) := P2.cell 1
  have FIN : Hid (∀ w3 kn, Whole w3 gp 88 [.int .i64 p.id, .int .i64 p.par, .bool p.tx, .string p.dat, svs p.id, kn] → Whole w3 g 88 [.int .i64 n.id, .int .i64 n.par, .bool n.tx, .string n.dat, .slice A n.sty.length c, .slice none 0 0] →
      w3.ownsRow base 3 1 kn (kidsZ L p.id ++ [n.id]).length (idC (kidsZ L p.id ++ [n.id])) → Only (gp :: g :: (kvs p.id).ownBlock.toList) w2 w3 → (kn.ownBlock = (kvs p.id).ownBlock ∨ ∃ k, kn.ownBlock = some k ∧ w2.heap.size ≤ k) → Tree w3 base t most (L ++ [n]) ∧ Below base W w3 ∧ ∀ q cs, Whole W q 32 cs → Whole w3 q 32 cs) := Lib.hid (by
    intro w3 kn r1 r2 r3 r4 r5
    have nb : ∀ k, (kvs p.id).ownBlock = some k → k ≠ b := fun k hk e => by subst e; exact map_no_row H1.mp K1 hk
    have inS : ∀ x, x ∈ (gp :: g :: (kvs p.id).ownBlock.toList) → x = gp ∨ x = g ∨ (kvs p.id).ownBlock = some x := fun x hx => by
      simp at hx; rcases hx with rfl | rfl | hx
      · exact .inl rfl
      · exact .inr (.inl rfl)
      · exact .inr (.inr hx)
    have M3 := M2.only r4 (by
      intro hx
      rcases inS _ hx with e | e | e
      · subst e; exact map_no_cells M2 G2
      · subst e; exact map_no_cells M2 N2
      · exact nb _ e rfl)
    have S3 := S2.only r4 (by
      intro k hk hx
      rcases inS _ hx with e | e | e
      · subst e; exact S2.other G2 (by decide) hk
      · subst e; exact S2.other N2 (by decide) hk
      · obtain ⟨A', c', e', hr', -⟩ := S2
        rw [e'] at hk
        rcases hr'.2 with ⟨x1, -⟩ | ⟨g1, cap, cur, x1, -, x2, -⟩
        · rw [x1] at hk; simp [Value.ownBlock] at hk
        · rw [x1] at hk
          simp [Value.ownBlock] at hk
          subst hk
          rcases K2.2 with ⟨y1, -⟩ | ⟨g2, cap2, cur2, y1, -, y2, -⟩
          · rw [y1] at e; simp [Value.ownBlock] at e
          · rw [y1] at e
            simp [Value.ownBlock] at e
            subst e
            rw [x2] at y2
            injection y2 with y2
            simp at y2)
    have OO : Only (b :: gp :: (kvs p.id).ownBlock.toList) w0 w3 := ((Only.of_below (S := b :: gp :: (kvs p.id).ownBlock.toList) hb1).trans O2 (fun x hx => .inl (by simp at hx; simp [hx]))).trans r4 (fun x hx => by
      rcases inS _ hx with e | e | e
      · exact .inl (by simp [e])
      · exact .inr (by rw [e]; exact hg)
      · exact .inl (by simp [e]))
    refine ⟨⟨b, _, _, _, h.add h1 h2 hp hpi hgp hg OO M3 r1 r3 ?_ r2 (S3.mono (by have := B0.out.size; omega)) (by have := B0.out.size; omega)⟩, (B0.out.mono hb0).trans (OO.below (fun x hx => ?_) (by have := B0.out.size; omega)), fun q cs hq => ?_⟩
    · rcases r5 with r5 | ⟨k, r5, r6⟩
      · exact .inl r5
      · exact .inr ⟨k, r5, by omega⟩
    · simp at hx
      rcases hx with e | e | e
      · rw [e]; exact h.low.2
      · rw [e]; exact (h.nod p hp gp hgp).1
      · exact ((h.kid p hp).lt x e).1
    · have hq0 := hq.under B0.out hq.size
      refine OO.whole hq0 fun hx => ?_
      simp at hx
      rcases hx with e | e | e
      · subst e; exact map_no_cells h.mp hq0
      · subst e; exact absurd (whole_two hq0 (h.nod p hp _ hgp).2) (by decide)
      · exact whole_ne hq0 (h.kid p hp) (by decide) e)
  clear hN hS h H1 D2 PP P2 N2 hG1 G2 K1 K2 S2 M2 O2 HT P0 B0 HS
  go_wp2_with (rw [hrun])
  refine LK.out.mono ?_
  rintro e w3 ⟨rfl, kn, r1, r2, r3, r4, r5⟩
  have R := Lib.hid (FIN.out w3 kn r1 r2 r3 r4 r5)
  clear r1 r2 r3 r4 r5 FIN LK hrun
  go_wp2
  exact bodyPost_end (v := .tuple #[]) (results_none (by kernel_rfl) _ _ _) rfl ⟨rfl, R.out⟩
end Go.Proofs.YtbhdpfacfgldiaaGreatDoor
/- nodes.Give. -/
namespace Go.Proofs.YtbhdpfacfgldiaaGreatDoor
open Go Go.RowKit
set_option linter.unusedVariables false
set_option linter.unusedSimpArgs false
set_option maxRecDepth 20000
set_option maxHeartbeats 4000000

def giveN (n m : Nd) : Nd := if m.id = n.id then ⟨m.id, m.par, m.tx, n.dat, n.sty⟩ else m
def giveZ (L : List Nd) (n : Nd) : List Nd := L.map (giveN n)
theorem giveN_id (n m : Nd) : (giveN n m).id = m.id := by unfold giveN; split <;> rfl
theorem giveN_par (n m : Nd) : (giveN n m).par = m.par := by unfold giveN; split <;> rfl
theorem giveN_tx (n m : Nd) : (giveN n m).tx = m.tx := by unfold giveN; split <;> rfl
theorem give_length (L : List Nd) (n : Nd) : (giveZ L n).length = L.length := by simp [giveZ]
theorem give_has (L : List Nd) (n : Nd) (id : Int) : hasZ (giveZ L n) id = hasZ L id := by
  rw [Bool.eq_iff_iff, has_iff, has_iff]
  unfold giveZ
  constructor
  · rintro ⟨m, hm, e⟩
    obtain ⟨k, hk, rfl⟩ := List.mem_map.1 hm
    exact ⟨k, hk, by rw [← e, giveN_id]⟩
  · rintro ⟨m, hm, e⟩
    exact ⟨giveN n m, List.mem_map_of_mem hm, by rw [giveN_id]; exact e⟩
theorem give_kids (L : List Nd) (n : Nd) (id : Int) : kidsZ (giveZ L n) id = kidsZ L id := by
  unfold kidsZ giveZ
  rw [← List.map_tail, List.filter_map, List.map_map]
  have e1 : ((fun m : Nd => m.par == id) ∘ giveN n) = fun m => m.par == id := by funext m; simp [giveN_par]
  have e2 : (Nd.id ∘ giveN n) = Nd.id := by funext m; simp [giveN_id]
  rw [e1, e2]
theorem TreeOk.give {L : List Nd} (h : TreeOk L) (n : Nd) : TreeOk (giveZ L n) := by
  refine ⟨?_, ?_, ?_, ?_⟩
  · have e : (giveZ L n).map Nd.id = L.map Nd.id := by
      unfold giveZ
      rw [List.map_map]
      exact List.map_congr_left fun m _ => giveN_id n m
    rw [e]; exact h.nd
  · intro m hm
    obtain ⟨k, hk, rfl⟩ := List.mem_map.1 hm
    rw [giveN_id]; exact h.rng k hk
  · obtain ⟨r, R, rfl, e1, e2, e3⟩ := h.root
    exact ⟨giveN n r, R.map (giveN n), rfl, by rw [giveN_id]; exact e1, by rw [giveN_par]; exact e2, by rw [giveN_tx]; exact e3⟩
  · intro i hi h0
    have hi' : i < L.length := by rw [give_length] at hi; exact hi
    obtain ⟨j, hj, e⟩ := h.up i hi' h0
    refine ⟨j, hj, ?_⟩
    simp only [giveZ, List.getElem_map, giveN_id, giveN_par]
    exact e
theorem TreeAt.give {W w : World} {base t b : Nat} {most : Int} {L : List Nd} {f : Int → Option Nat} {sv kv : Int → Value} (h : TreeAt W base t b most L f sv kv) (n : Nd) {p : Nd} (hp : p ∈ L) (hpi : p.id = n.id) {g : Nat} (hg : f n.id = some g)
    (hO : Only [g] W w) {sn : Value} (hG : Whole w g 88 (ndC ⟨p.id, p.par, p.tx, n.dat, n.sty⟩ sn (kv n.id))) (hS : StyOwn w base sn n.sty) : TreeAt w base t b most (giveZ L n) f (fun x => if x = n.id then sn else sv x) kv := by
  have hgp : f p.id = some g := by rw [hpi]; exact hg
  have bO := (h.nod p hp g hgp).2
  have one : ∀ m ∈ L, m.id = n.id → m = p := fun m hm e => by
    have e1 := h.ok.at_mem hm
    have e2 := h.ok.at_mem hp
    rw [e, ← hpi, e2] at e1
    injection e1 with e1; exact e1.symm
  refine ⟨h.ok.give n, h.low, ?_, ?_, fun id => by rw [give_has]; exact h.dom id, fun m hm k hk => ?_, fun m hm => ?_, fun m hm => ?_, h.inj, fun m hm m' hm' k hk hk' => ?_⟩
  · exact hO.whole h.hd (by simp; intro e; subst e; exact absurd (whole_two h.hd bO) (by decide))
  · rw [give_length]; exact h.mp.only hO (by simp; intro e; subst e; exact map_no_cells h.mp bO)
  · obtain ⟨m, hm2, rfl⟩ := List.mem_map.1 hm
    rw [giveN_id] at hk ⊢
    obtain ⟨k1, k2⟩ := h.nod m hm2 k hk
    refine ⟨k1, ?_⟩
    by_cases e : m.id = n.id
    · have em := one m hm2 e
      subst em
      rw [hgp] at hk
      injection hk with hk
      subst hk
      rw [if_pos e]
      unfold giveN
      rw [if_pos e, e]
      rw [e] at hG
      exact hG
    · rw [if_neg e]
      unfold giveN
      rw [if_neg e]
      exact hO.whole k2 (by simp; intro e'; subst e'; exact e (h.inj _ _ _ hk hg))
  · obtain ⟨m, hm2, rfl⟩ := List.mem_map.1 hm
    rw [giveN_id]
    by_cases e : m.id = n.id
    · rw [if_pos e]
      unfold giveN
      rw [if_pos e]; exact hS
    · rw [if_neg e]
      unfold giveN
      rw [if_neg e]
      exact (h.sty m hm2).only hO (by intro k hk hx; simp at hx; subst hx; exact (h.sty m hm2).other bO (by decide) hk)
  · obtain ⟨m, hm2, rfl⟩ := List.mem_map.1 hm
    rw [giveN_id, give_kids]
    exact hO.owns (h.kid m hm2) (by intro k hk hx; simp at hx; subst hx; exact whole_ne bO (h.kid m hm2) (by decide) hk)
  · obtain ⟨m, hm2, rfl⟩ := List.mem_map.1 hm
    obtain ⟨m', hm2', rfl⟩ := List.mem_map.1 hm'
    rw [giveN_id] at hk hk' ⊢
    rw [giveN_id]
    exact h.apart m hm2 m' hm2' k hk hk'
theorem look_gives {P : Program} {o : Oper} {a : Act} {w : World} {t : TypeId} {b : Nat} {id : Int} {v : Value} (x y : Operand) (ho : o.op = .lookup t x y false) (hx : a.eval x = .map (some b)) (hy : a.eval y = .int .i64 id)
    (hl : (Instr.lookup t (.map (some b)) (.int .i64 id) false).run P w = .ok v w) : gives P o a w fun u _ => u = v := by
  unfold gives execOp
  simp only [ho, hx, hy, Sem.run_bind, hl, Result.andThen_ok, Sem.run_pure]
  exact ⟨Behind.refl w, trivial⟩
/-- A list of declarations in blocks ahead of B. -/
def StyLow (w : World) (B : Nat) (sv : Value) (l : List Dc) : Prop := ∃ A c, sv = .slice A l.length c ∧ Row w B A (i64s (dCells l)) ∧ l.length ≤ 1000000 ∧ (A = none → c = 0)
theorem StyLow.at_ {w : World} {B : Nat} {sv : Value} {l : List Dc} (h : StyLow w B sv l) (hB : B ≤ w.heap.size) : StyAt w sv l := by
  obtain ⟨A, c, e, hr, hl, hn⟩ := h
  exact ⟨A, c, e, hr.more hB, hl, hn⟩
theorem StyLow.below {w w' : World} {B : Nat} {sv : Value} {l : List Dc} (h : StyLow w B sv l) (hb : Below B w w') : StyLow w' B sv l := by
  obtain ⟨A, c, e, hr, hl, hn⟩ := h
  exact ⟨A, c, e, hr.below hb, hl, hn⟩
theorem ngive_any {W : World} {base t : Nat} {most : Int} {L : List Nd} (hT : Tree W base t most L) (hb0 : base ≤ W.heap.size) {n : Nd} {sv : Value} (hs : StyLow W base sv n.sty) (h2 : hasZ L n.id = true) :
    Calls Tryz.prog 34 #[.pointer (some ⟨t, 0, none⟩), .agg (nodeC n sv).toArray] W fun e w' => e = .returned (.tuple #[]) ∧ Tree w' base t most (giveZ L n) ∧ Below base W w' := by
  have B0 := Lib.hid ((Below.refl W.heap.size W).alloc (Nat.le_refl _) (.cells (nodeC n sv).toArray 32))
  have P0 := Lib.hid (Whole.mk W 32 (nodeC n sv).toArray)
  obtain ⟨b, f, svs, kvs, hT⟩ := hT.behind B0.out
  have HS := Lib.hid (hs.below (B0.out.mono hb0))
  have HT := Lib.hid hT
  obtain ⟨A0, c0, rfl, -⟩ := hs
  obtain ⟨p, hp, hpi⟩ := has_iff.1 h2
  obtain ⟨g, hg⟩ := hT.there hp
  rw [hpi] at hg
  have hI : In64i n.id := by have := hT.ok.rng p hp; unfold In64i; omega
  clear hT
  go_enter Tryz.func34, Tryz.ntmps34
  go_upto_region 1 with fail
  generalize W.alloc _ = w0 at *
  have YL := Lib.hid (fun w (hb : Behind w0 w) => (show (Instr.lookup 84 (.map (some b)) (.int .i64 n.id) false).run Tryz.prog w = .ok (.pointer (some ⟨g, 0, none⟩)) w from by have := (HT.out.behind hb).look hI; rw [hg] at this; exact this))
  have y1 : ∀ x : Later w0.heap.size w0, x.w.cell? ⟨t, 1, none⟩ = some (.map (some b)) := fun x => (HT.out.hd.under x.h HT.out.hd.size).cell 1
  have y2 : ∀ x : Later w0.heap.size w0, x.w.cell? ⟨W.heap.size, 0, none⟩ = some (.int .i64 n.id) := fun x => (P0.out.under x.h P0.out.size).cell 0
  refine region_lane [] [0, 1, 2, 3, 4, 5, 6] [7] (by kernel_rfl) (by kernel_rfl) (fun _ _ _ _ _ h => h) ?_
  simp only [pick, List.map_nil]
  refine wpQuiet_nil ⟨rfl, ?_⟩
  simp only [List.map_cons, List.map_nil, List.getD_cons_zero, List.getD_cons_succ, List.drop_succ_cons, List.drop_zero]
  refine laneO_run 6 (by kernel_rfl) ?_
  simp only [List.take_succ_cons, List.take_zero, List.drop_succ_cons, List.drop_zero]
  repeat (go_big_quiet_step (fail))
  refine wpQuiet_nil ?_
  refine laneO_fixed (v := .pointer (some ⟨g, 0, none⟩)) (by kernel_rfl) (fun w hw => .inl ⟨by rfl, look_gives (.tmp 8) (.tmp 10) rfl rfl rfl (YL.out w hw)⟩) ?_
  simp only [Act.put, List.setIfInBounds_toArray, List.set_cons_zero, List.set_cons_succ]
  refine laneO_end0 rfl rfl fun w1 hb1 => ?_
  clear y1 y2 YL
  have H1 := HT.out.behind hb1
  have P1 := Lib.hid (P0.out.under hb1 P0.out.size)
  have B1 := Lib.hid (B0.out.trans (Below.mono hb1 B0.out.size))
  have S1 := Lib.hid (HS.out.below (Below.mono hb1 (by have := B0.out.size; omega)))
  have hG := (H1.nod p hp g (by rw [hpi]; exact hg)).2
  have hPn : W.heap.size ≠ g := fun e => by have x1 := P1.out; rw [e] at x1; exact absurd (whole_two x1 hG) (by decide)
  have q3 : w1.cell? ⟨W.heap.size, 3, none⟩ = some (.string n.dat) := P1.out.cell 3
  have d3 : w1.cell? ⟨g, 3, none⟩ = some (.string p.dat) := hG.cell 3
  have f3 := hG.free 3
  have G2 := Lib.hid (hG.put 3 (.string n.dat))
  have P2 := Lib.hid (P1.out.other (p := ⟨g, 3, none⟩) hPn (.string n.dat))
  have O2 : Hid (Only [g] w1 (w1.setCell ⟨g, 3, none⟩ (.string n.dat))) := Lib.hid ((Only.refl _ _).setCell _ (.inl (by simp)) _)
  have HH1 := Lib.hid H1
  clear H1 hG
  go_upto_region 3 with fail
  clear q3 d3 f3
  generalize w1.setCell _ _ = w2 at *
  have hgb : base ≤ g := (HT.out.nod p hp g (by rw [hpi]; exact hg)).1
  have z2 : base ≤ w2.heap.size := by have := B1.out.size; have := O2.out.size; omega
  have S2 := Lib.hid ((S1.out.below (O2.out.below (by simp; exact hgb) (by have := B1.out.size; omega))).at_ z2)
  have q4 : w2.cell? ⟨W.heap.size, 4, none⟩ = some (.slice A0 n.sty.length c0) := P2.out.cell 4
  go_wp2_with fail
  refine (cloneD_any _ n.sty w2 S2.out).mono ?_
  rintro e w3 ⟨sv', rfl, hs3, hb3⟩
  obtain ⟨A3, c3, rfl, -⟩ := id hs3
  have G3 := Lib.hid (G2.out.under hb3 G2.out.size)
  have H3 := Lib.hid (hs3.other G3.out (by decide))
  have S3 := Lib.hid (hs3.mono z2)
  have O3 := Lib.hid (O2.out.trans (T := []) (Only.of_below hb3) (by simp))
  have e4 : w3.cell? ⟨g, 4, none⟩ = some (svs p.id) := G3.out.cell 4
  have f4 := G3.out.free 4
  have G4 : Hid (Whole (w3.setCell ⟨g, 4, none⟩ (.slice A3 n.sty.length c3)) g 88 (ndC ⟨p.id, p.par, p.tx, n.dat, n.sty⟩ (.slice A3 n.sty.length c3) (kvs p.id))) := Lib.hid (G3.out.put 4 (.slice A3 n.sty.length c3))
  have O4 : Hid (Only [g] w1 (w3.setCell ⟨g, 4, none⟩ (.slice A3 n.sty.length c3))) := Lib.hid (O3.out.setCell _ (.inl (by simp)) _)
  have S4 := Lib.hid (S3.out.only (S := [g]) ((Only.refl _ _).setCell ⟨g, 4, none⟩ (.inl (by simp)) (.slice A3 n.sty.length c3)) (by intro k hk hx; simp at hx; subst hx; exact H3.out hk))
  clear hb3 hs3 q4 P1 P2 S1 S2 S3 G2 G3 O2 O3
  go_wp2
  refine bodyPost_end (v := .tuple #[]) (results_none (by kernel_rfl) _ _ _) rfl ⟨rfl, ⟨b, f, _, kvs, HH1.out.give n hp hpi hg O4.out (by rw [← hpi]; exact G4.out) S4.out⟩, ?_⟩
  exact (B1.out.mono hb0).trans (O4.out.below (by simp; exact hgb) (by have := B1.out.size; omega))
end Go.Proofs.YtbhdpfacfgldiaaGreatDoor
/- tree: Has, Parent, Len, Kids, New, IsFull; Below, Deep. -/
namespace Go.Proofs.YtbhdpfacfgldiaaGreatDoor
open Go Go.RowKit
set_option linter.unusedVariables false
set_option linter.unusedSimpArgs false
set_option maxRecDepth 20000
set_option maxHeartbeats 4000000

theorem held_t (t : Nat) (W : World) : Calls Tryz.prog 33 #[.pointer (some ⟨t, 0, none⟩)] W fun e w' => e = .returned (.pointer (some ⟨t, 0, none⟩)) ∧ W = w' := by
  go_enter Tryz.func33, Tryz.ntmps33
  go_wp2
  go_ret
  exact ⟨rfl, rfl⟩
theorem thas_any {W : World} {base t : Nat} {most : Int} {L : List Nd} (hT : Tree W base t most L) {id : Int} (hi : In64i id) :
    Calls Tryz.prog 18 #[.pointer (some ⟨t, 0, none⟩), .int .i64 id] W fun e w' => e = .returned (.bool (hasZ L id)) ∧ W = w' := by
  have H := Lib.hid (nhas_any hT hi)
  clear hT
  go_enter Tryz.func18, Tryz.ntmps18
  go_wp2_with fail
  refine (held_t t W).mono ?_
  rintro e w' ⟨rfl, rfl⟩
  go_wp2_with fail
  refine H.out.mono ?_
  rintro e w' ⟨rfl, rfl⟩
  go_wp2
  go_ret
  exact ⟨rfl, rfl⟩
theorem tparent_any {W : World} {base t : Nat} {most : Int} {L : List Nd} (hT : Tree W base t most L) {id : Int} (hi : In64i id) :
    Calls Tryz.prog 9 #[.pointer (some ⟨t, 0, none⟩), .int .i64 id] W fun e w' => e = .returned (.int .i64 (parZ L id)) ∧ W = w' := by
  have H := Lib.hid (nparent_any hT hi)
  clear hT
  go_enter Tryz.func9, Tryz.ntmps9
  go_wp2_with fail
  refine (held_t t W).mono ?_
  rintro e w' ⟨rfl, rfl⟩
  go_wp2_with fail
  refine H.out.mono ?_
  rintro e w' ⟨rfl, rfl⟩
  go_wp2
  go_ret
  exact ⟨rfl, rfl⟩
theorem tlen_any {W : World} {base t : Nat} {most : Int} {L : List Nd} (hT : Tree W base t most L) :
    Calls Tryz.prog 12 #[.pointer (some ⟨t, 0, none⟩)] W fun e w' => e = .returned (.int .i64 L.length) ∧ W = w' := by
  have H := Lib.hid (nlen_any hT)
  clear hT
  go_enter Tryz.func12, Tryz.ntmps12
  go_wp2_with fail
  refine (held_t t W).mono ?_
  rintro e w' ⟨rfl, rfl⟩
  go_wp2_with fail
  refine H.out.mono ?_
  rintro e w' ⟨rfl, rfl⟩
  go_wp2
  go_ret
  exact ⟨rfl, rfl⟩
theorem tkids_any {W : World} {base t : Nat} {most : Int} {L : List Nd} (hT : Tree W base t most L) {id : Int} (hi : In64i id) (h0 : 0 ≤ id) (hL : L.length ≤ 1000) :
    Calls Tryz.prog 8 #[.pointer (some ⟨t, 0, none⟩), .int .i64 id] W fun e w' => ∃ v, e = .returned v ∧ IdsOwn w' W.heap.size v (kidsZ L id) ∧ Below W.heap.size W w' := by
  have H := Lib.hid (nkids_any hT hi h0 hL)
  clear hT
  go_enter Tryz.func8, Tryz.ntmps8
  go_wp2_with fail
  refine (held_t t W).mono ?_
  rintro e w' ⟨rfl, rfl⟩
  go_wp2_with fail
  refine H.out.mono ?_
  rintro e w' ⟨v, rfl, h1, h2⟩
  have P := Lib.hid (And.intro h1 h2)
  clear h1 h2
  go_wp2
  go_ret
  exact ⟨v, rfl, P.out.1, P.out.2⟩
theorem tnew_any (most : Int) (W : World) :
    Calls Tryz.prog 32 #[.int .i64 most] W fun e w' => ∃ t, e = .returned (.pointer (some ⟨t, 0, none⟩)) ∧ Tree w' W.heap.size t (mostZ most) [root0] ∧ Below W.heap.size W w' := by
  go_enter Tryz.func32, Tryz.ntmps32
  go_wp2_with fail
  refine (nnew_any most W).mono ?_
  rintro e w' ⟨t, rfl, h1, h2⟩
  have P := Lib.hid (And.intro h1 h2)
  clear h1 h2
  go_wp2
  go_ret
  exact ⟨t, rfl, P.out.1, P.out.2⟩
theorem nfull_any {W : World} {base t : Nat} {most : Int} {L : List Nd} (hT : Tree W base t most L) :
    Calls Tryz.prog 35 #[.pointer (some ⟨t, 0, none⟩)] W fun e w' => e = .returned (.bool (decide (most ≤ L.length))) ∧ Below W.heap.size W w' := by
  have HT := Lib.hid hT
  obtain ⟨b, f, sv, kv, h⟩ := hT
  have D := Lib.hid h.hd
  clear h
  go_enter Tryz.func35, Tryz.ntmps35
  go_upto_region 1 with fail
  have HB := Lib.hid (fun w (hb : Behind W w) => nlen_any (HT.out.behind hb))
  have y0 : ∀ x : Later W.heap.size W, x.w.cell? ⟨t, 0, none⟩ = some (.int .i64 most) := fun x => (D.out.under x.h D.out.size).cell 0
  refine region_lane [] [0, 1, 2, 3, 4, 5, 6] [7] (by kernel_rfl) (by kernel_rfl) (fun _ _ _ _ _ h => h) ?_
  simp only [pick, List.map_nil]
  refine wpQuiet_nil ⟨rfl, ?_⟩
  simp only [List.map_cons, List.map_nil, List.getD_cons_zero, List.getD_cons_succ, List.drop_succ_cons, List.drop_zero]
  refine laneO_run 1 (by kernel_rfl) ?_
  simp only [List.take_succ_cons, List.take_zero, List.drop_succ_cons, List.drop_zero]
  repeat (go_big_quiet_step (fail))
  refine wpQuiet_nil ?_
  refine laneO_call (v := (.int .i64 L.length)) (by kernel_rfl) (by rfl) (fun C hC h0 => ?_) ?_
  focus (go_big_quiet_op; exact ⟨_, fun w hw => (HB.out w (h0 w hw)).mono fun e w' ⟨he, hb⟩ => ⟨he, hb ▸ hw⟩, rfl⟩)
  simp only [Act.put, List.setIfInBounds_toArray, List.set_cons_zero, List.set_cons_succ]
  refine laneO_run 5 (by kernel_rfl) ?_
  simp only [List.take_succ_cons, List.take_zero, List.drop_succ_cons, List.drop_zero]
  repeat (go_big_quiet_step (fail))
  refine wpQuiet_nil ?_
  refine laneO_end0 rfl rfl fun w1 hb1 => ?_
  clear y0 HB
  go_wp2
  go_ret
  exact ⟨rfl, hb1⟩
/-- How far up it goes. -/
def upZ (L : List Nd) (x : Int) : Nat := if hasZ L x = true then rkZ L x + 2 else if x = -1 then 0 else 1
theorem TreeOk.up_less {L : List Nd} (h : TreeOk L) {x : Int} (hx : x ≠ -1) : upZ L (parZ L x) < upZ L x := by
  unfold upZ
  by_cases hh : hasZ L x = true
  · rw [if_pos hh]
    rcases (h.step hh).2 with ⟨e1, e2⟩ | ⟨e1, e2⟩
    · rw [e2, if_neg (by rw [h.not_nobody (by omega)]; decide), if_pos rfl]; omega
    · rw [if_pos e1]; omega
  · rw [if_neg hh, if_neg hx, par_no (by simpa using hh), if_neg (by rw [h.not_nobody (by omega)]; decide), if_pos rfl]; omega
theorem TreeOk.par_in {L : List Nd} (h : TreeOk L) (x : Int) : -1 ≤ parZ L x ∧ parZ L x ≤ 1000 := by
  by_cases hh : hasZ L x = true
  · rcases (h.step hh).2 with ⟨e1, e2⟩ | ⟨e1, e2⟩
    · omega
    · obtain ⟨m, hm, e⟩ := has_iff.1 e1
      have := h.rng m hm
      omega
  · rw [par_no (by simpa using hh)]; omega
theorem Tree.ok {W : World} {base t : Nat} {most : Int} {L : List Nd} (hT : Tree W base t most L) : TreeOk L := by
  obtain ⟨b, f, sv, kv, h⟩ := hT
  exact h.ok
theorem tbelow_any {W : World} {base t : Nat} {most : Int} {L : List Nd} (hT : Tree W base t most L) {id of_ : Int} (hi : In64i id) (ho : In64i of_) :
    Calls Tryz.prog 11 #[.pointer (some ⟨t, 0, none⟩), .int .i64 id, .int .i64 of_] W fun e w' => e = .returned (.bool (belowZ L id of_)) ∧ W = w' := by
  have OK := Lib.hid hT.ok
  have HH := Lib.hid (thas_any hT ho)
  have HP := Lib.hid (fun (x : Int) (hx : In64i x) => tparent_any hT hx)
  have HI := Lib.hid hi
  clear hT hi ho
  by_cases hh : hasZ L of_ = true
  · rw [hh] at HH
    have h0 : 0 ≤ of_ := by
      obtain ⟨m, hm, e⟩ := has_iff.1 hh
      have := OK.out.rng m hm
      omega
    have HB := Lib.hid hh
    clear hh
    go_enter Tryz.func11, Tryz.ntmps11
    go_wp2_with fail
    refine HH.out.mono ?_
    rintro e w' ⟨rfl, rfl⟩
    go_wp2_with fail
    go_loopw [1] (fun v1 wr => ∃ x : Int, v1 = .int .i64 x ∧ Hid (belowZ L x of_ = belowZ L id of_) ∧ Hid (In64i x) ∧ wr = W) (fun v1 _ => upZ L (intOf v1))
    case atStart => exact ⟨id, rfl, Lib.hid rfl, HI, rfl⟩
    case round =>
      obtain ⟨x, rfl, hb, hx, rfl⟩ := hrel
      by_cases h1 : x = of_
      · subst h1
        have e : belowZ L id x = true := by rw [← hb.out]; exact below_self HB.out
        go_wp2_with fail
        go_ret
        exact ⟨ret_bool e.symm, rfl⟩
      · have b1 : (x == of_) = false := by rw [beq_eq_false_iff_ne]; exact h1
        by_cases h2 : x = -1
        · subst h2
          have e : belowZ L id of_ = false := by rw [← hb.out]; exact OK.out.below_nobody HB.out
          have b3 : ((-1 : Int) == of_) = false := b1
          go_wp2_with fail
          go_ret
          exact ⟨ret_bool e.symm, rfl⟩
        · have b2 : (x == -1) = false := by rw [beq_eq_false_iff_ne]; exact h2
          have b4 : (x != of_) = true := by simp [h1]
          have b5 : (x != -1) = true := by simp [h2]
          have hb2 := Lib.hid ((OK.out.below_step HB.out h1).symm.trans hb.out)
          have hx2 := Lib.hid (show In64i (parZ L x) by have := OK.out.par_in x; unfold In64i; omega)
          have hm := Lib.hid (OK.out.up_less h2)
          go_wp2_with fail
          refine (HP.out x hx.out).mono ?_
          rintro e w' ⟨rfl, rfl⟩
          go_wp2_with fail
          go_roundw
          case rel => exact ⟨_, rfl, hb2, hx2, by first | rfl | trivial⟩
          case measure => simpa [intOf] using hm.out
  · have hh : hasZ L of_ = false := by simpa using hh
    rw [hh] at HH
    have e : belowZ L id of_ = false := by unfold belowZ; rw [hh]; rfl
    rw [e]
    go_enter Tryz.func11, Tryz.ntmps11
    go_wp2_with fail
    refine HH.out.mono ?_
    rintro e w' ⟨rfl, rfl⟩
    go_wp2_with fail
    go_ret
    exact ⟨rfl, rfl⟩
theorem tdeep_any {W : World} {base t : Nat} {most : Int} {L : List Nd} (hT : Tree W base t most L) {id : Int} (hi : In64i id) (hL : L.length ≤ 1000) :
    Calls Tryz.prog 10 #[.pointer (some ⟨t, 0, none⟩), .int .i64 id] W fun e w' => e = .returned (.int .i64 (deepZ L id)) ∧ W = w' := by
  have OK := Lib.hid hT.ok
  have HH := Lib.hid (fun (x : Int) (hx : In64i x) => thas_any hT hx)
  have HP := Lib.hid (fun (x : Int) (hx : In64i x) => tparent_any hT hx)
  have HI := Lib.hid hi
  clear hT hi
  go_enter Tryz.func10, Tryz.ntmps10
  go_wp2
  go_loopw [1, 5] (fun v1 v5 wr => ∃ (x d : Int), v1 = .int .i64 x ∧ v5 = .int .i64 d ∧ Hid (deepZ L id = d + 1 + deepZ L x) ∧ (-1 ≤ d ∧ d + (if hasZ L x = true then rkZ L x + 1 else 0 : Nat) ≤ 1000) ∧ Hid (In64i x) ∧ wr = W) (fun v1 _ _ => upZ L (intOf v1))
  case atStart =>
    refine ⟨id, -1, rfl, rfl, Lib.hid (by omega), ⟨by omega, ?_⟩, HI, rfl⟩
    split
    · rename_i hh
      have := (OK.out.step hh).1
      omega
    · omega
  case round =>
    obtain ⟨x, d, rfl, rfl, hd, ⟨hd1, hd2⟩, hx, rfl⟩ := hrel
    by_cases hh : hasZ L x = true
    · have F1 := Lib.hid (HH.out x hx.out)
      rw [hh] at F1
      rw [if_pos hh] at hd2
      have hne : x ≠ -1 := fun e => by subst e; rw [OK.out.not_nobody (by omega)] at hh; cases hh
      have hs := OK.out.step hh
      have hd3 := Lib.hid (show deepZ L id = d + 1 + 1 + deepZ L (parZ L x) by rw [hd.out, OK.out.deep_has hh]; omega)
      have hx2 := Lib.hid (show In64i (parZ L x) by have := OK.out.par_in x; unfold In64i; omega)
      have hm := Lib.hid (OK.out.up_less hne)
      have hd4 := Lib.hid (show -1 ≤ d + 1 ∧ d + 1 + (if hasZ L (parZ L x) = true then rkZ L (parZ L x) + 1 else 0 : Nat) ≤ 1000 by
        refine ⟨by omega, ?_⟩
        rcases hs.2 with ⟨e1, e2⟩ | ⟨e1, e2⟩
        · rw [e2, if_neg (by rw [OK.out.not_nobody (by omega)]; decide)]; omega
        · rw [if_pos e1]; omega)
      have hd5 : d ≤ 1000 := by omega
      clear hs hh hd2
      go_wp2_with fail
      refine F1.out.mono ?_
      rintro e w' ⟨rfl, rfl⟩
      go_wp2_with fail
      refine (HP.out x hx.out).mono ?_
      rintro e w' ⟨rfl, rfl⟩
      go_wp2_with fail
      go_roundw
      case rel => exact ⟨_, _, rfl, rfl, hd3, hd4.out, hx2, by first | rfl | trivial⟩
      case measure => simpa [intOf] using hm.out
    · have hh : hasZ L x = false := by simpa using hh
      have F1 := Lib.hid (HH.out x hx.out)
      rw [hh] at F1
      have e : deepZ L id = d := by rw [hd.out, deep_no hh]; omega
      clear hd2
      go_wp2_with fail
      refine F1.out.mono ?_
      rintro e w' ⟨rfl, rfl⟩
      go_wp2_with fail
      go_ret
      exact ⟨ret_int e.symm, rfl⟩
end Go.Proofs.YtbhdpfacfgldiaaGreatDoor
/- tree.isFit, isRoot. What decl.Text answers of a declaration is a premise here (UntoldOK). -/
namespace Go.Proofs.YtbhdpfacfgldiaaGreatDoor
open Go Go.RowKit
set_option linter.unusedVariables false
set_option linter.unusedSimpArgs false
set_option maxRecDepth 20000
set_option maxHeartbeats 1000000

def decC (d : Dc) : Value := .agg #[.int .i64 d.p, .int .i64 d.w, .int .i64 d.k, .int .i64 d.n]
/-- What isUntold answers of d in each world that lies behind W. -/
def UntoldAt (W : World) (d : Dc) : Prop := ∀ w, Below W.heap.size W w → Calls Tryz.prog 69 #[decC d] w fun e w' => e = .returned (.bool (!mayZ d.p d.w d.k d.n)) ∧ Below w.heap.size w w'
def UntoldOK (d : Dc) : Prop := ∀ w, Calls Tryz.prog 69 #[decC d] w fun e w' => e = .returned (.bool (!mayZ d.p d.w d.k d.n)) ∧ Below w.heap.size w w'
theorem UntoldOK.at_ {d : Dc} (h : UntoldOK d) (W : World) : UntoldAt W d := fun w _ => h w
theorem UntoldAt.step {d : Dc} {W W' : World} (h : UntoldAt W d) (hb : Below W.heap.size W W') : UntoldAt W' d := fun w hw => h w (hb.trans (hw.mono hb.size))
theorem indexFunc_any (sv : Value) (l : List Dc) (W : World) (hU : ∀ d ∈ l, UntoldAt W d) (h : StyAt W sv l) :
    Calls Tryz.prog 76 #[sv, .func (.func 69) #[] #[]] W fun e w' => ∃ i : Int, e = .returned (.int .i64 i) ∧ decide (0 ≤ i) = l.any (fun d => !mayZ d.p d.w d.k d.n) ∧ Below W.heap.size W w' := by
  obtain ⟨A, c, rfl, hR, hl, -⟩ := h
  have HR := Lib.hid hR
  have HU := Lib.hid hU
  clear hR hU
  go_enter Tryz.func76, Tryz.ntmps76
  go_wp2
  go_loopw [5, 8] (fun v5 v8 wr => ∃ k : Nat, k ≤ l.length ∧ v8 = .int .i64 k ∧ Hid ((l.take k).any (fun d => !mayZ d.p d.w d.k d.n) = false) ∧ Hid (Below W.heap.size W wr)) (fun v5 v8 _ => l.length - (intOf v8).toNat)
  case atStart => exact ⟨0, Nat.zero_le _, rfl, Lib.hid rfl, Lib.hid (Below.refl _ _)⟩
  case round =>
    obtain ⟨k, hk, rfl, ht, hb⟩ := hrel
    by_cases hlt : k < l.length
    · obtain ⟨ad, rfl, hb2, r0, r1, r2, r3⟩ := (HR.out.below hb.out).dec hlt
      have U := Lib.hid (HU.out l[k] (List.getElem_mem hlt) wr hb.out)
      unfold decC at U
      have TK := Lib.hid (show (l.take (k + 1)).any (fun d => !mayZ d.p d.w d.k d.n) = ((l.take k).any (fun d => !mayZ d.p d.w d.k d.n) || !mayZ l[k].p l[k].w l[k].k l[k].n) by rw [List.take_succ_eq_append_getElem hlt, List.any_append]; simp)
      have AN := Lib.hid (show (!mayZ l[k].p l[k].w l[k].k l[k].n) = true → l.any (fun d => !mayZ d.p d.w d.k d.n) = true from fun h => List.any_eq_true.2 ⟨l[k], List.getElem_mem hlt, h⟩)
      generalize (!mayZ l[k].p l[k].w l[k].k l[k].n) = u at *
      generalize l[k].p = z0 at *
      generalize l[k].w = z1 at *
      generalize l[k].k = z2 at *
      generalize l[k].n = z3 at *
      go_wp2_with fail
      refine U.out.mono ?_
      rintro e w2 ⟨rfl, hb3⟩
      have B3 := Lib.hid (hb.out.trans (hb3.mono hb.out.size))
      clear hb3 r0 r1 r2 r3
      cases u
      · have TK2 := Lib.hid (show (l.take (k + 1)).any (fun d => !mayZ d.p d.w d.k d.n) = false by rw [TK.out, ht.out]; rfl)
        go_wp2_with fail
        go_roundw
        case rel => exact ⟨k + 1, by omega, by go_num, TK2, B3⟩
        case measure => simp [intOf]; omega
      · have A2 := AN.out rfl
        go_wp2_with fail
        go_ret
        exact ⟨(k : Int), rfl, by rw [A2]; simp, B3.out⟩
    · have hq : k = l.length := by omega
      have A2 : l.any (fun d => !mayZ d.p d.w d.k d.n) = false := by have := ht.out; rw [hq, List.take_length] at this; exact this
      go_wp2_with fail
      go_ret
      exact ⟨-1, rfl, by rw [A2]; decide, hb.out⟩
theorem containsFunc_any (sv : Value) (l : List Dc) (W : World) (hU : ∀ d ∈ l, UntoldAt W d) (h : StyAt W sv l) :
    Calls Tryz.prog 68 #[sv, .func (.func 69) #[] #[]] W fun e w' => e = .returned (.bool (l.any (fun d => !mayZ d.p d.w d.k d.n))) ∧ Below W.heap.size W w' := by
  have H := Lib.hid (indexFunc_any sv l W hU h)
  clear h hU
  go_enter Tryz.func68, Tryz.ntmps68
  go_wp2_with fail
  refine H.out.mono ?_
  rintro e w1 ⟨i, rfl, h1, hb⟩
  have E := Lib.hid h1
  have B := Lib.hid hb
  clear h1 hb
  go_wp2
  go_ret
  exact ⟨ret_bool E.out, B.out⟩
theorem not_any (l : List Dc) : (!(l.any fun d => !mayZ d.p d.w d.k d.n)) = l.all fun d => mayZ d.p d.w d.k d.n := by
  induction l with
  | nil => rfl
  | cons d r ih => simp only [List.any_cons, List.all_cons, Bool.not_or, Bool.not_not, ih]
theorem isFit_any (n : Nd) (sv : Value) (W : World) (hU : n.tx = false → ∀ d ∈ n.sty, UntoldAt W d) (h : StyAt W sv n.sty) (hd : n.dat.size ≤ 9223372036854775807) :
    Calls Tryz.prog 55 #[.agg (nodeC n sv).toArray] W fun e w' => e = .returned (.bool (fitB n)) ∧ Below W.heap.size W w' := by
  have B0 := Lib.hid ((Below.refl W.heap.size W).alloc (Nat.le_refl _) (.cells (nodeC n sv).toArray 32))
  have P0 := Lib.hid (Whole.mk W 32 (nodeC n sv).toArray)
  have HC := Lib.hid (fun (ht : n.tx = false) => containsFunc_any sv n.sty _ (fun d hd => (hU ht d hd).step B0.out) (h.below B0.out))
  obtain ⟨A, c, rfl, -, hl, -⟩ := h
  have F := Lib.hid (show fitB n = if n.tx = true then decide (n.dat.size ≤ 1000) && decide (n.sty.length = 0) else decide (n.dat.size = 0) && n.sty.all fun d => mayZ d.p d.w d.k d.n from rfl)
  rw [← not_any] at F
  generalize fitB n = r at *
  generalize (n.sty.any fun d => !mayZ d.p d.w d.k d.n) = u at *
  clear hU
  go_enter Tryz.func55, Tryz.ntmps55
  go_upto_region 1 with fail
  generalize W.alloc _ = w0 at *
  have c2 : w0.cell? ⟨W.heap.size, 2, none⟩ = some (.bool n.tx) := P0.out.cell 2
  have c3 : w0.cell? ⟨W.heap.size, 3, none⟩ = some (.string n.dat) := P0.out.cell 3
  have c4 : w0.cell? ⟨W.heap.size, 4, none⟩ = some (.slice A n.sty.length c) := P0.out.cell 4
  generalize n.dat = s at *
  generalize n.sty.length = m at *
  cases ht : n.tx
  · rw [ht] at c2 F
    by_cases h0 : s.size = 0
    · have e0 : s = ⟨#[]⟩ := by cases s with | mk d => cases d with | mk l => cases l with | nil => rfl | cons a b => simp [ByteArray.size] at h0
      subst e0
      have E := Lib.hid (show r = !u by rw [F.out, if_neg (by decide)]; rfl)
      clear F
      go_wp2_with fail
      refine (HC.out ht).mono ?_
      rintro e w1 ⟨rfl, hb⟩
      have B1 := Lib.hid (B0.out.trans (hb.mono B0.out.size))
      clear hb
      go_wp2_with fail
      go_ret
      exact ⟨ret_bool E.out.symm, B1.out⟩
    · have E := Lib.hid (show r = false by rw [F.out]; simp [h0])
      have hs : (s.toList == []) = false := by
        rw [beq_eq_false_iff_ne]; intro e; apply h0
        have := congrArg List.length e
        simpa [ByteArray.toList_eq] using this
      clear F
      go_wp2_with fail
      go_ret
      exact ⟨ret_bool E.out.symm, B0.out⟩
  · rw [ht] at c2 F
    by_cases h1 : s.size ≤ 1000
    · have d1 : decide ((s.size : Int) ≤ 1000) = true := by rw [decide_eq_true_eq]; omega
      have E := Lib.hid (show r = decide (m = 0) by rw [F.out]; simp [h1])
      clear F
      go_wp2_with fail
      go_ret
      exact ⟨ret_bool (by rw [E.out, Bool.eq_iff_iff]; simp), B0.out⟩
    · have d1 : decide ((s.size : Int) ≤ 1000) = false := by rw [decide_eq_false_iff_not]; omega
      have E := Lib.hid (show r = false by rw [F.out]; simp [h1])
      clear F
      go_wp2_with fail
      go_ret
      exact ⟨ret_bool E.out.symm, B0.out⟩
theorem isRoot_any (n : Nd) (sv : Value) (W : World) (hU : n.tx = false → ∀ d ∈ n.sty, UntoldAt W d) (h : StyAt W sv n.sty) (hd : n.dat.size ≤ 9223372036854775807) :
    Calls Tryz.prog 31 #[.agg (nodeC n sv).toArray] W fun e w' => e = .returned (.bool (rootB n)) ∧ Below W.heap.size W w' := by
  have B0 := Lib.hid ((Below.refl W.heap.size W).alloc (Nat.le_refl _) (.cells (nodeC n sv).toArray 32))
  have P0 := Lib.hid (Whole.mk W 32 (nodeC n sv).toArray)
  have HC := Lib.hid (isFit_any n sv _ (fun ht d hd => (hU ht d hd).step B0.out) (h.below B0.out) hd)
  obtain ⟨A, c, rfl, -, hl, -⟩ := h
  have F := Lib.hid (show rootB n = (decide (n.id = 0) && decide (n.par = -1) && !n.tx && fitB n) from rfl)
  clear hU
  go_enter Tryz.func31, Tryz.ntmps31
  go_upto_region 1 with fail
  generalize W.alloc _ = w0 at *
  have c0 : w0.cell? ⟨W.heap.size, 0, none⟩ = some (.int .i64 n.id) := P0.out.cell 0
  have c1 : w0.cell? ⟨W.heap.size, 1, none⟩ = some (.int .i64 n.par) := P0.out.cell 1
  have c2 : w0.cell? ⟨W.heap.size, 2, none⟩ = some (.bool n.tx) := P0.out.cell 2
  have c3 : w0.cell? ⟨W.heap.size, 3, none⟩ = some (.string n.dat) := P0.out.cell 3
  have c4 : w0.cell? ⟨W.heap.size, 4, none⟩ = some (.slice A n.sty.length c) := P0.out.cell 4
  by_cases h0 : n.id = 0
  · by_cases h1 : n.par = -1
    · cases ht : n.tx
      · rw [ht] at c2
        have HC2 := HC.out
        unfold nodeC at HC2
        rw [ht] at HC2
        have HC3 := Lib.hid HC2
        clear HC2
        have E := Lib.hid (show rootB n = fitB n by rw [F.out, h0, h1, ht]; simp)
        have b0 : (n.id == 0) = true := by simp [h0]
        have b1 : (n.par == -1) = true := by simp [h1]
        clear h0 h1 F
        go_wp2_with fail
        refine HC3.out.mono ?_
        rintro e w1 ⟨rfl, hb⟩
        have B1 := Lib.hid (B0.out.trans (hb.mono B0.out.size))
        clear hb
        go_wp2_with fail
        go_ret
        exact ⟨ret_bool E.out.symm, B1.out⟩
      · rw [ht] at c2
        have E := Lib.hid (show rootB n = false by rw [F.out, ht]; simp)
        have b0 : (n.id == 0) = true := by simp [h0]
        have b1 : (n.par == -1) = true := by simp [h1]
        clear h0 h1 F
        go_wp2_with fail
        go_ret
        exact ⟨ret_bool E.out.symm, B0.out⟩
    · have E := Lib.hid (show rootB n = false by rw [F.out]; simp [h1])
      have b0 : (n.id == 0) = true := by simp [h0]
      have b1 : (n.par == -1) = false := by simp [h1]
      clear h0 h1 F
      go_wp2_with fail
      go_ret
      exact ⟨ret_bool E.out.symm, B0.out⟩
  · have E := Lib.hid (show rootB n = false by rw [F.out]; simp [h0])
    have b0 : (n.id == 0) = false := by simp [h0]
    clear h0 F
    go_wp2_with fail
    go_ret
    exact ⟨ret_bool E.out.symm, B0.out⟩
end Go.Proofs.YtbhdpfacfgldiaaGreatDoor
/- tree.takesBehind. -/
namespace Go.Proofs.YtbhdpfacfgldiaaGreatDoor
open Go Go.RowKit
set_option linter.unusedVariables false
set_option linter.unusedSimpArgs false
set_option maxRecDepth 20000
set_option maxHeartbeats 1000000

theorem takes_any {W : World} {base t : Nat} {most : Int} {L : List Nd} (hT : Tree W base t most L) {last : Int} (hl : In64i last) (n : Nd) (sv : Value) (hU : n.tx = false → ∀ d ∈ n.sty, UntoldAt W d) (h : StyAt W sv n.sty) (hd : n.dat.size ≤ 9223372036854775807) (hi : In64i n.id) (hp : In64i n.par) (hL : L.length ≤ 1000) :
    Calls Tryz.prog 36 #[.pointer (some ⟨t, 0, none⟩), .int .i64 last, .agg (nodeC n sv).toArray] W fun e w' => e = .returned (.bool (takesB L last n)) ∧ Below W.heap.size W w' := by
  have B0 := Lib.hid ((Below.refl W.heap.size W).alloc (Nat.le_refl _) (.cells (nodeC n sv).toArray 32))
  have P0 := Lib.hid (Whole.mk W 32 (nodeC n sv).toArray)
  have HC := Lib.hid (isFit_any n sv _ (fun ht d hd => (hU ht d hd).step B0.out) (h.below B0.out) hd)
  have T0 := Lib.hid (hT.behind B0.out)
  obtain ⟨A, c, rfl, -, hl2, -⟩ := h
  have F := Lib.hid (show takesB L last n = (decide (0 ≤ n.id ∧ n.id ≤ 1000) && !hasZ L n.id && fitB n && belowZ L last n.par && !txZ L n.par && decide (deepZ L n.par < 20)) from rfl)
  clear hU hT
  go_enter Tryz.func36, Tryz.ntmps36
  go_upto_region 1 with fail
  generalize W.alloc _ = w0 at *
  have c0 : w0.cell? ⟨W.heap.size, 0, none⟩ = some (.int .i64 n.id) := P0.out.cell 0
  have c1 : w0.cell? ⟨W.heap.size, 1, none⟩ = some (.int .i64 n.par) := P0.out.cell 1
  have c2 : w0.cell? ⟨W.heap.size, 2, none⟩ = some (.bool n.tx) := P0.out.cell 2
  have c3 : w0.cell? ⟨W.heap.size, 3, none⟩ = some (.string n.dat) := P0.out.cell 3
  have c4 : w0.cell? ⟨W.heap.size, 4, none⟩ = some (.slice A n.sty.length c) := P0.out.cell 4
  by_cases h0 : n.id < 0
  · have E := Lib.hid (show takesB L last n = false by rw [F.out, decide_eq_false (by omega : ¬ (0 ≤ n.id ∧ n.id ≤ 1000))]; simp)
    clear F
    go_wp2_with fail
    go_ret
    exact ⟨ret_bool E.out.symm, B0.out⟩
  by_cases h1 : 1000 < n.id
  · have E := Lib.hid (show takesB L last n = false by rw [F.out, decide_eq_false (by omega : ¬ (0 ≤ n.id ∧ n.id ≤ 1000))]; simp)
    clear F
    go_wp2_with fail
    go_ret
    exact ⟨ret_bool E.out.symm, B0.out⟩
  have F2 := Lib.hid (show takesB L last n = (!hasZ L n.id && fitB n && belowZ L last n.par && !txZ L n.par && decide (deepZ L n.par < 20)) by rw [F.out, decide_eq_true (by omega : 0 ≤ n.id ∧ n.id ≤ 1000), Bool.true_and])
  clear F
  have HH := Lib.hid (thas_any T0.out hi)
  cases hh : hasZ L n.id
  case true =>
    have E := Lib.hid (show takesB L last n = false by rw [F2.out, hh]; simp)
    rw [hh] at HH
    clear F2
    go_wp2_with fail
    refine HH.out.mono ?_
    rintro e w1 ⟨rfl, rfl⟩
    go_wp2_with fail
    go_ret
    exact ⟨ret_bool E.out.symm, B0.out⟩
  rw [hh] at HH
  cases hf : fitB n
  case false =>
    have E := Lib.hid (show takesB L last n = false by rw [F2.out, hf]; simp)
    rw [hf] at HC
    clear F2
    go_wp2_with fail
    refine HH.out.mono ?_
    rintro e w1 ⟨rfl, rfl⟩
    go_wp2_with fail
    refine HC.out.mono ?_
    rintro e w1 ⟨rfl, hb⟩
    have B1 := Lib.hid (B0.out.trans (hb.mono B0.out.size))
    go_wp2_with fail
    go_ret
    exact ⟨ret_bool E.out.symm, B1.out⟩
  rw [hf] at HC
  have F3 := Lib.hid (show takesB L last n = (belowZ L last n.par && !txZ L n.par && decide (deepZ L n.par < 20)) by rw [F2.out, hh, hf]; simp)
  clear F2
  go_wp2_with fail
  refine HH.out.mono ?_
  rintro e w1 ⟨rfl, rfl⟩
  go_wp2_with fail
  refine HC.out.mono ?_
  rintro e w1 ⟨rfl, hb⟩
  have B1 := Lib.hid (B0.out.trans (hb.mono B0.out.size))
  have P1 := Lib.hid (P0.out.under hb P0.out.size)
  have T1 := Lib.hid (T0.out.behind hb)
  clear hb HH HC c0 c1 c2 c3 c4 T0 P0 B0
  have c1 : w1.cell? ⟨W.heap.size, 1, none⟩ = some (.int .i64 n.par) := P1.out.cell 1
  have HB := Lib.hid (tbelow_any T1.out hl hp)
  cases hbl : belowZ L last n.par
  case false =>
    have E := Lib.hid (show takesB L last n = false by rw [F3.out, hbl]; simp)
    rw [hbl] at HB
    clear F3
    go_wp2_with fail
    refine HB.out.mono ?_
    rintro e w2 ⟨rfl, rfl⟩
    go_wp2_with fail
    go_ret
    exact ⟨ret_bool E.out.symm, B1.out⟩
  rw [hbl] at HB
  go_wp2_with fail
  refine HB.out.mono ?_
  rintro e w2 ⟨rfl, rfl⟩
  go_upto_region 5 with fail
  have TT := Lib.hid (fun w (hb : Behind w1 w) => T1.out.behind hb)
  have y0 : ∀ x : Later w1.heap.size w1, x.w.cell? ⟨W.heap.size, 1, none⟩ = some (.int .i64 n.par) := fun x => (P1.out.under x.h P1.out.size).cell 1
  have HX := Lib.hid (fun w (hb : Behind w1 w) => ntext_any (TT.out w hb) hp)
  cases htx : txZ L n.par
  case false =>
      rw [htx] at HX
      have E := Lib.hid (show takesB L last n = decide (deepZ L n.par < 20) by rw [F3.out, hbl, htx]; simp)
      refine region_lane [] (List.range 13) [13] (by kernel_rfl) (by kernel_rfl) (fun _ _ _ _ _ h => h) ?_
      simp only [pick, List.map_nil]
      refine wpQuiet_nil ⟨rfl, ?_⟩
      rw [show List.range 13 = [0, 1, 2, 3, 4, 5, 6, 7, 8, 9, 10, 11, 12] from rfl]
      simp only [List.map_cons, List.map_nil, List.getD_cons_zero, List.getD_cons_succ, List.drop_succ_cons, List.drop_zero]
      refine laneO_run 1 (by kernel_rfl) ?_
      simp only [List.take_succ_cons, List.take_zero, List.drop_succ_cons, List.drop_zero]
      repeat (go_big_quiet_step (fail))
      refine wpQuiet_nil ?_
      refine laneO_call (v := (.pointer (some ⟨t, 0, none⟩))) (by kernel_rfl) (by rfl) (fun C hC h0 => ?_) ?_
      focus (go_big_quiet_op; exact ⟨_, fun w hw => (held_t t w).mono fun e w' ⟨he, hb⟩ => ⟨he, hb ▸ hw⟩, rfl⟩)
      simp only [Act.put, List.setIfInBounds_toArray, List.set_cons_zero, List.set_cons_succ]
      refine laneO_run 2 (by kernel_rfl) ?_
      simp only [List.take_succ_cons, List.take_zero, List.drop_succ_cons, List.drop_zero]
      repeat (go_big_quiet_step (fail))
      refine wpQuiet_nil ?_
      refine laneO_call (v := (.bool false)) (by kernel_rfl) (by rfl) (fun C hC h0 => ?_) ?_
      focus (go_big_quiet_op; exact ⟨_, fun w hw => (HX.out w (h0 w hw)).mono fun e w' ⟨he, hb⟩ => ⟨he, hb ▸ hw⟩, rfl⟩)
      simp only [Act.put, List.setIfInBounds_toArray, List.set_cons_zero, List.set_cons_succ]
      refine laneO_run 5 (by kernel_rfl) ?_
      simp only [List.take_succ_cons, List.take_zero, List.drop_succ_cons, List.drop_zero]
      repeat (go_big_quiet_step (fail))
      refine wpQuiet_nil ?_
      refine laneO_call (v := (.int .i64 (deepZ L n.par))) (by kernel_rfl) (by rfl) (fun C hC h0 => ?_) ?_
      focus (go_big_quiet_op; exact ⟨_, fun w hw => (tdeep_any (TT.out w (h0 w hw)) hp hL).mono fun e w' ⟨he, hb⟩ => ⟨he, hb ▸ hw⟩, rfl⟩)
      simp only [Act.put, List.setIfInBounds_toArray, List.set_cons_zero, List.set_cons_succ]
      refine laneO_run 2 (by kernel_rfl) ?_
      simp only [List.take_succ_cons, List.take_zero, List.drop_succ_cons, List.drop_zero]
      repeat (go_big_quiet_step (fail))
      refine wpQuiet_nil ?_
      refine laneO_end0 rfl rfl fun w5 hb5 => ?_
      have B5 := Lib.hid (B1.out.trans (Below.mono hb5 B1.out.size))
      clear y0 TT HX
      go_wp2
      go_ret
      exact ⟨ret_bool E.out.symm, B5.out⟩
  case true =>
      rw [htx] at HX
      have E := Lib.hid (show takesB L last n = false by rw [F3.out, htx]; simp)
      refine region_lane [] (List.range 13) [13] (by kernel_rfl) (by kernel_rfl) (fun _ _ _ _ _ h => h) ?_
      simp only [pick, List.map_nil]
      refine wpQuiet_nil ⟨rfl, ?_⟩
      rw [show List.range 13 = [0, 1, 2, 3, 4, 5, 6, 7, 8, 9, 10, 11, 12] from rfl]
      simp only [List.map_cons, List.map_nil, List.getD_cons_zero, List.getD_cons_succ, List.drop_succ_cons, List.drop_zero]
      refine laneO_run 1 (by kernel_rfl) ?_
      simp only [List.take_succ_cons, List.take_zero, List.drop_succ_cons, List.drop_zero]
      repeat (go_big_quiet_step (fail))
      refine wpQuiet_nil ?_
      refine laneO_call (v := (.pointer (some ⟨t, 0, none⟩))) (by kernel_rfl) (by rfl) (fun C hC h0 => ?_) ?_
      focus (go_big_quiet_op; exact ⟨_, fun w hw => (held_t t w).mono fun e w' ⟨he, hb⟩ => ⟨he, hb ▸ hw⟩, rfl⟩)
      simp only [Act.put, List.setIfInBounds_toArray, List.set_cons_zero, List.set_cons_succ]
      refine laneO_run 2 (by kernel_rfl) ?_
      simp only [List.take_succ_cons, List.take_zero, List.drop_succ_cons, List.drop_zero]
      repeat (go_big_quiet_step (fail))
      refine wpQuiet_nil ?_
      refine laneO_call (v := (.bool true)) (by kernel_rfl) (by rfl) (fun C hC h0 => ?_) ?_
      focus (go_big_quiet_op; exact ⟨_, fun w hw => (HX.out w (h0 w hw)).mono fun e w' ⟨he, hb⟩ => ⟨he, hb ▸ hw⟩, rfl⟩)
      simp only [Act.put, List.setIfInBounds_toArray, List.set_cons_zero, List.set_cons_succ]
      refine laneO_run 2 (by kernel_rfl) ?_
      simp only [List.take_succ_cons, List.take_zero, List.drop_succ_cons, List.drop_zero]
      repeat (go_big_quiet_step (fail))
      refine wpQuiet_nil ?_
      refine laneO_skip (by kernel_rfl) (by rfl) ?_
      simp only [Act.put, List.setIfInBounds_toArray, List.set_cons_zero, List.set_cons_succ]
      refine laneO_skip (by kernel_rfl) (by rfl) ?_
      simp only [Act.put, List.setIfInBounds_toArray, List.set_cons_zero, List.set_cons_succ]
      refine laneO_skip (by kernel_rfl) (by rfl) ?_
      simp only [Act.put, List.setIfInBounds_toArray, List.set_cons_zero, List.set_cons_succ]
      refine laneO_skip (by kernel_rfl) (by rfl) ?_
      simp only [Act.put, List.setIfInBounds_toArray, List.set_cons_zero, List.set_cons_succ]
      refine laneO_skip (by kernel_rfl) (by rfl) ?_
      simp only [Act.put, List.setIfInBounds_toArray, List.set_cons_zero, List.set_cons_succ]
      refine laneO_run 1 (by kernel_rfl) ?_
      simp only [List.take_succ_cons, List.take_zero, List.drop_succ_cons, List.drop_zero]
      repeat (go_big_quiet_step (fail))
      refine wpQuiet_nil ?_
      refine laneO_end0 rfl rfl fun w5 hb5 => ?_
      have B5 := Lib.hid (B1.out.trans (Below.mono hb5 B1.out.size))
      clear y0 TT HX
      go_wp2
      go_ret
      exact ⟨ret_bool E.out.symm, B5.out⟩
end Go.Proofs.YtbhdpfacfgldiaaGreatDoor
/- A row of nodes, as the walk reads them. -/
namespace Go.Proofs.YtbhdpfacfgldiaaGreatDoor
open Go Go.RowKit
set_option linter.unusedVariables false
set_option linter.unusedSimpArgs false

def rowsC : List Nd → List Value → List Value
  | n :: r, s :: t => nodeC n s ++ rowsC r t
  | _, _ => []
theorem rowsC_length : ∀ (l : List Nd) (s : List Value), s.length = l.length → (rowsC l s).length = l.length * 5
  | [], [], _ => rfl
  | n :: r, s :: t, h => by
    rw [rowsC, List.length_append, rowsC_length r t (by simpa using h)]
    simp [nodeC]; omega
theorem rowsC_get : ∀ (l : List Nd) (s : List Value) (h : s.length = l.length) (k : Nat) (hk : k < l.length) (j : Nat) (hj : j < 5), (rowsC l s)[k * 5 + j]? = (nodeC l[k] (s[k]'(by omega)))[j]?
  | n :: r, s :: t, h, 0, _, j, hj => by
    rw [rowsC, List.getElem?_append_left (by simp [nodeC]; omega)]
    simp
  | n :: r, s :: t, h, k + 1, hk, j, hj => by
    rw [rowsC, List.getElem?_append_right (by simp [nodeC]; omega)]
    have := rowsC_get r t (by simpa using h) k (by simpa using hk) j hj
    simp only [List.getElem_cons_succ]
    rw [← this]
    congr 1
    simp [nodeC]; omega
/-- A row of nodes in blocks ahead of B, their lists too. -/
structure NodesLow (w : World) (B : Nat) (A : Option Addr) (l : List Nd) (svs : List Value) : Prop where
  len : svs.length = l.length
  row : Row w B A (rowsC l svs)
  sty : ∀ k (h : k < l.length), StyLow w B (svs[k]'(by omega)) l[k].sty
  dat : ∀ n ∈ l, n.dat.size ≤ 9223372036854775807 ∧ In64i n.id ∧ In64i n.par
  few : l.length ≤ 1000000
theorem NodesLow.below {w w' : World} {B : Nat} {A : Option Addr} {l : List Nd} {svs : List Value} (h : NodesLow w B A l svs) (hb : Below B w w') : NodesLow w' B A l svs :=
  ⟨h.len, h.row.below hb, fun k hk => (h.sty k hk).below hb, h.dat, h.few⟩
theorem NodesLow.nd {w : World} {B : Nat} {A : Option Addr} {l : List Nd} {svs : List Value} (h : NodesLow w B A l svs) {k : Nat} (hk : k < l.length) :
    ∃ ad sv, svs[k]? = some sv ∧ A = some ad ∧ ad.block < B ∧ StyLow w B sv l[k].sty ∧ w.cell? (ad.add (k * 5)) = some (.int .i64 l[k].id) ∧ w.cell? ⟨(ad.add (k * 5)).block, (ad.add (k * 5)).off + 1, none⟩ = some (.int .i64 l[k].par) ∧
      w.cell? ⟨(ad.add (k * 5)).block, (ad.add (k * 5)).off + 2, none⟩ = some (.bool l[k].tx) ∧ w.cell? ⟨(ad.add (k * 5)).block, (ad.add (k * 5)).off + 3, none⟩ = some (.string l[k].dat) ∧ w.cell? ⟨(ad.add (k * 5)).block, (ad.add (k * 5)).off + 4, none⟩ = some sv := by
  have hl := rowsC_length l svs h.len
  obtain ⟨ad, e, hb, hc⟩ := h.row (by omega)
  have at_ : ∀ j, j < 5 → ∀ v, (nodeC l[k] (svs[k]'(by have := h.len; omega)))[j]? = some v → w.cell? (ad.add (k * 5 + j)) = some v := fun j hj v hv => by
    have h1 : k * 5 + j < (rowsC l svs).length := by omega
    rw [hc _ h1]
    have h2 := rowsC_get l svs h.len k hk j hj
    rw [List.getElem?_eq_getElem h1, hv] at h2
    exact h2
  have far : ∀ j, 0 < j → (⟨(ad.add (k * 5)).block, (ad.add (k * 5)).off + j, none⟩ : Addr) = ad.add (k * 5 + j) := fun j hj => by
    have : (ad.add (k * 5)).add j = ad.add (k * 5 + j) := add_of_add _ _ _
    rw [← this]
    generalize ad.add (k * 5) = b
    unfold Addr.add
    rw [if_neg (by omega)]
  refine ⟨ad, svs[k]'(by have := h.len; omega), List.getElem?_eq_getElem _, e, hb, h.sty k hk, ?_, ?_, ?_, ?_, ?_⟩
  · exact at_ 0 (by omega) _ rfl
  · rw [far 1 (by omega)]; exact at_ 1 (by omega) _ rfl
  · rw [far 2 (by omega)]; exact at_ 2 (by omega) _ rfl
  · rw [far 3 (by omega)]; exact at_ 3 (by omega) _ rfl
  · rw [far 4 (by omega)]; exact at_ 4 (by omega) _ rfl
/-- All but the first. -/
theorem NodesLow.tail {w : World} {B : Nat} {A : Option Addr} {r : Nd} {R : List Nd} {s : Value} {S : List Value} (h : NodesLow w B A (r :: R) (s :: S)) (A' : Option Addr) (hA : R ≠ [] → A' = A.map (·.add 5)) : NodesLow w B A' R S := by
  refine ⟨by simpa using h.len, ?_, fun k hk => by have := h.sty (k + 1) (by simpa using hk); simpa using this, fun n hn => h.dat n (List.mem_cons_of_mem _ hn), by have := h.few; simp at this; omega⟩
  intro hpos
  have hne : R ≠ [] := by intro e; subst e; simp [rowsC] at hpos
  have hl := rowsC_length (r :: R) (s :: S) h.len
  obtain ⟨ad, e, hb, hc⟩ := h.row (by rw [hl]; simp)
  refine ⟨ad.add 5, by rw [hA hne, e]; rfl, by rw [add_block]; exact hb, fun i hi => ?_⟩
  have h5 : i + 5 < (rowsC (r :: R) (s :: S)).length := by rw [rowsC]; simp [nodeC]; omega
  rw [add_of_add, show 5 + i = i + 5 by omega, hc _ h5]
  refine congrArg some ?_
  simp only [rowsC]
  rw [List.getElem_append_right (by simp [nodeC])]
  simp [nodeC]
end Go.Proofs.YtbhdpfacfgldiaaGreatDoor
/- tree.Of. -/
namespace Go.Proofs.YtbhdpfacfgldiaaGreatDoor
open Go Go.RowKit
set_option linter.unusedVariables false
set_option linter.unusedSimpArgs false
set_option maxRecDepth 20000
set_option maxHeartbeats 2000000

def OfPost (W : World) (most : Int) (l : List Nd) (e : Ending) (w' : World) : Prop :=
  if ofB most l = true then ∃ t, e = .returned (.tuple #[.pointer (some ⟨t, 0, none⟩), .bool true]) ∧ Tree w' W.heap.size t (mostZ most) l else e = .returned (.tuple #[.pointer none, .bool false])
theorem of_step (m : Nat) (r : Nd) (R : List Nd) (k : Nat) (hk : k < R.length) (last : Int) : growB m (r :: R.take k) last (R.drop k) = (decide (k + 1 < m) && takesB (r :: R.take k) last R[k] && growB m (r :: R.take (k + 1)) R[k].id (R.drop (k + 1))) := by
  have e : (r :: R.take k).length = k + 1 := by simp; omega
  rw [List.drop_eq_getElem_cons hk, growB, e, List.take_succ_eq_append_getElem hk]
  rfl
theorem own_mono {w : World} {base base' e size n : Nat} {v : Value} {xs : List Value} (h : w.ownsRow base e size v n xs) (hb : base' ≤ base) : w.ownsRow base' e size v n xs := by
  refine ⟨h.1, ?_⟩
  rcases h.2 with h0 | ⟨g, cap, cur, hv, h1, h2⟩
  · exact .inl h0
  · exact .inr ⟨g, cap, cur, hv, by omega, h2⟩
theorem Tree.mono {w : World} {base base' t : Nat} {most : Int} {L : List Nd} (h : Tree w base t most L) (hb : base' ≤ base) : Tree w base' t most L := by
  obtain ⟨b, f, sv, kv, h⟩ := h
  exact ⟨b, f, sv, kv, h.ok, ⟨by have := h.low; omega, by have := h.low; omega⟩, h.hd, h.mp, h.dom, fun n hn g hg => ⟨by have := (h.nod n hn g hg).1; omega, (h.nod n hn g hg).2⟩, fun n hn => (h.sty n hn).mono hb, fun n hn => own_mono (h.kid n hn) hb, h.inj, h.apart⟩
theorem give_root (r : Nd) (h : rootB r = true) : giveZ [root0] r = [r] := by
  unfold rootB at h
  simp only [Bool.and_eq_true, decide_eq_true_eq, Bool.not_eq_true'] at h
  obtain ⟨⟨⟨h1, h2⟩, h3⟩, -⟩ := h
  cases r with
  | mk a b c d e =>
    simp only at h1 h2 h3
    subst h1 h2 h3
    rfl
theorem tof_at (most : Int) (A : Option Addr) (c : Nat) (l : List Nd) (svs : List Value) (W : World) (h : NodesLow W W.heap.size A l svs) (hc : l.length ≤ c) (hU : ∀ n ∈ l, n.tx = false → ∀ d ∈ n.sty, UntoldAt W d) :
    Calls Tryz.prog 7 #[.int .i64 most, .slice A l.length c] W fun e w' => OfPost W most l e w' ∧ Below W.heap.size W w' := by
  have H := Lib.hid h
  have HU := Lib.hid hU
  clear h hU
  cases l with
  | nil =>
    go_enter Tryz.func7, Tryz.ntmps7
    go_wp2
    refine bodyPost_ret (v := .tuple #[.pointer none, .bool false]) (by simp [results, Tryz.results7, go_sem]) rfl ⟨by unfold OfPost; rw [if_neg (by rw [ofB]; decide)], Below.refl _ _⟩
  | cons r R =>
    cases svs with
    | nil => have := H.out.len; simp at this
    | cons s S =>
    obtain ⟨ad, sv, es, rfl, hb0, hs0, d0, d1, d2, d3, d4⟩ := H.out.nd (k := 0) (by simp)
    have es : s = sv := by simpa using es
    subst es
    simp only [Nat.zero_mul, add_zero, List.getElem_cons_zero] at d0 d1 d2 d3 d4 hs0
    have HR := Lib.hid (isRoot_any r s W (HU.out r (by simp)) (hs0.at_ (Nat.le_refl _)) (H.out.dat r (by simp)).1)
    have hlen : (0 : Int) < (r :: R).length := by simp
    cases hr : rootB r
    · rw [hr] at HR
      go_enter Tryz.func7, Tryz.ntmps7
      go_wp2_with fail
      refine HR.out.mono ?_
      rintro e w1 ⟨rfl, hb⟩
      have B1 := Lib.hid hb
      clear hb
      go_wp2
      refine bodyPost_ret (v := .tuple #[.pointer none, .bool false]) (by simp [results, Tryz.results7, go_sem]) rfl ⟨by unfold OfPost; rw [if_neg (by rw [ofB, hr]; simp)], B1.out⟩
    · rw [hr] at HR
      go_enter Tryz.func7, Tryz.ntmps7
      go_wp2_with fail
      refine HR.out.mono ?_
      rintro e w1 ⟨rfl, hb⟩
      have B1 := Lib.hid hb
      clear hb
      go_wp2_with fail
      refine (tnew_any most w1).mono ?_
      rintro e w2 ⟨t, rfl, hT, hb⟩
      have T2 := Lib.hid (hT.mono B1.out.size)
      have B2 := Lib.hid (B1.out.trans (hb.mono B1.out.size))
      clear hT hb HR d0 d1 d2 d3 d4
      obtain ⟨ad', sv', es, ea, -, -, d0, d1, d2, d3, d4⟩ := H.out.nd (k := 0) (by simp)
      injection ea with ea
      subst ea
      have es : s = sv' := by simpa using es
      subst es
      simp only [Nat.zero_mul, add_zero, List.getElem_cons_zero] at d0 d1 d2 d3 d4
      have y0 : ∀ x : Later w2.heap.size w2, x.w.cell? ad = some (.int .i64 r.id) := fun x => (Below.cell (B2.out.trans (x.h.mono B2.out.size)) hb0).trans d0
      have y1 : ∀ x : Later w2.heap.size w2, x.w.cell? ⟨ad.block, ad.off + 1, none⟩ = some (.int .i64 r.par) := fun x => (Below.cell (B2.out.trans (x.h.mono B2.out.size)) (show (⟨ad.block, ad.off + 1, none⟩ : Addr).block < W.heap.size from hb0)).trans d1
      have y2 : ∀ x : Later w2.heap.size w2, x.w.cell? ⟨ad.block, ad.off + 2, none⟩ = some (.bool r.tx) := fun x => (Below.cell (B2.out.trans (x.h.mono B2.out.size)) (show (⟨ad.block, ad.off + 2, none⟩ : Addr).block < W.heap.size from hb0)).trans d2
      have y3 : ∀ x : Later w2.heap.size w2, x.w.cell? ⟨ad.block, ad.off + 3, none⟩ = some (.string r.dat) := fun x => (Below.cell (B2.out.trans (x.h.mono B2.out.size)) (show (⟨ad.block, ad.off + 3, none⟩ : Addr).block < W.heap.size from hb0)).trans d3
      have y4 : ∀ x : Later w2.heap.size w2, x.w.cell? ⟨ad.block, ad.off + 4, none⟩ = some s := fun x => (Below.cell (B2.out.trans (x.h.mono B2.out.size)) (show (⟨ad.block, ad.off + 4, none⟩ : Addr).block < W.heap.size from hb0)).trans d4
      clear d0 d1 d2 d3 d4
      go_upto_region 4 with fail
      refine region_lane [] [0, 1, 2, 3, 4] [5] (by kernel_rfl) (by kernel_rfl) (fun _ _ _ _ _ h => h) ?_
      simp only [pick, List.map_nil]
      refine wpQuiet_nil ⟨rfl, ?_⟩
      simp only [List.map_cons, List.map_nil, List.getD_cons_zero, List.getD_cons_succ, List.drop_succ_cons, List.drop_zero]
      refine laneO_run 1 (by kernel_rfl) ?_
      simp only [List.take_succ_cons, List.take_zero, List.drop_succ_cons, List.drop_zero]
      repeat (go_big_quiet_step (fail))
      refine wpQuiet_nil ?_
      refine laneO_call (v := (.pointer (some ⟨t, 0, none⟩))) (by kernel_rfl) (by rfl) (fun C hC h0 => ?_) ?_
      focus (go_big_quiet_op; exact ⟨_, fun w hw => (held_t t w).mono fun e w' ⟨he, hb⟩ => ⟨he, hb ▸ hw⟩, rfl⟩)
      simp only [Act.put, List.setIfInBounds_toArray, List.set_cons_zero, List.set_cons_succ]
      refine laneO_run 3 (by kernel_rfl) ?_
      simp only [List.take_succ_cons, List.take_zero, List.drop_succ_cons, List.drop_zero]
      repeat (go_big_quiet_step (fail))
      refine wpQuiet_nil ?_
      refine laneO_end0 rfl rfl fun w3 hb3 => ?_
      have T3 := Lib.hid (T2.out.behind hb3)
      have B3 := Lib.hid (B2.out.trans (Below.mono hb3 B2.out.size))
      clear y0 y1 y2 y3 y4
      have GV := Lib.hid (ngive_any T3.out B3.out.size (n := r) (sv := s) (hs0.below B3.out) (by unfold rootB at hr; simp only [Bool.and_eq_true, decide_eq_true_eq] at hr; rw [hr.1.1.1]; rfl))
      rw [give_root r hr] at GV
      go_wp2_with fail
      refine GV.out.mono ?_
      rintro e w4 ⟨rfl, hT, hb⟩
      have T4 := Lib.hid hT
      have B4 := Lib.hid (B3.out.trans hb)
      clear hT hb GV T2 T3 B1 B2 B3 hb3
      have h7 : (1 : Int) ≤ (r :: R).length := by simp; omega
      go_upto_region 6 with fail
      go_cut [29, 30, 31] (fun v29 v30 v31 wx => ∃ A' c', v29 = .slice A' R.length c' ∧ (R ≠ [] → A' = some (ad.add 5)) ∧ v30 = .int .i64 R.length ∧ v31 = .int .i64 0 ∧ wx = w4)
      case first =>
        by_cases hc1 : c = 1
        · have hR0 : R = [] := by
            cases R with
            | nil => rfl
            | cons a b => simp at hc; omega
          subst hc1 hR0
          go_wp2_with fail
          go_meet
          exact ⟨_, _, rfl, fun h => absurd rfl h, rfl, rfl, rfl⟩
        · go_wp2_with fail
          go_meet
          exact ⟨_, _, rfl, fun _ => rfl, rfl, rfl, rfl⟩
      case rest =>
        obtain ⟨A', c', rfl, hA, rfl, rfl, rfl⟩ := hcut
        have HT := Lib.hid (H.out.tail A' hA)
        have HUR := Lib.hid (fun n (hn : n ∈ R) => HU.out n (List.mem_cons_of_mem _ hn))
        have hm1 := mostZ_bd most
        clear h7 hA
        go_wp2_with fail
        go_loopw [7, 31] (fun v7 v31 wr => ∃ (k : Nat) (last : Int), k ≤ R.length ∧ v31 = .int .i64 k ∧ v7 = .int .i64 last ∧ Hid (In64i last) ∧ Hid (Tree wr W.heap.size t (mostZ most) (r :: R.take k)) ∧ Hid (growB (mostZ most) [r] 0 R = growB (mostZ most) (r :: R.take k) last (R.drop k)) ∧ k + 1 ≤ mostZ most ∧ Hid (Below W.heap.size W wr)) (fun v7 v31 _ => R.length - (intOf v31).toNat)
        case atStart => exact ⟨0, 0, Nat.zero_le _, rfl, rfl, Lib.hid (by unfold In64i; omega), T4, Lib.hid rfl, by omega, B4⟩
        case round =>
          clear T4 B4
          obtain ⟨k, last, hk, rfl, rfl, hla, hT, hG, hkm, hB⟩ := hrel
          by_cases hlt : k < R.length
          · obtain ⟨ad2, sv2, e2, rfl, hb2, hs2, d0, d1, d2, d3, d4⟩ := (HT.out.below hB.out).nd hlt
            have ST := Lib.hid (of_step (mostZ most) r R k hlt last)
            have DT := Lib.hid (HT.out.dat R[k] (List.getElem_mem hlt))
            have UU := Lib.hid (HUR.out R[k] (List.getElem_mem hlt))
            have TAK := Lib.hid (show R.take (k + 1) = R.take k ++ [R[k]] from List.take_succ_eq_append_getElem hlt)
            have hLn : (r :: R.take k).length = k + 1 := by simp; omega
            generalize R[k] = n at *
            obtain ⟨As, cs, rfl, -⟩ := id hs2
            have P5 := Lib.hid (Whole.mk wr 32 (nodeC n (.slice As n.sty.length cs)).toArray)
            have hal : Below wr.heap.size wr (wr.alloc (.cells (nodeC n (.slice As n.sty.length cs)).toArray 32)) := (Below.refl _ _).alloc (Nat.le_refl _) _
            have T5 := Lib.hid (hT.out.behind hal)
            have B5 := Lib.hid (hB.out.trans (hal.mono hB.out.size))
            have S5 := Lib.hid (hs2.below (hal.mono hB.out.size))
            clear hal hs2
            unfold nodeC at P5 T5 B5 S5
            go_upto_region 9 with fail
            generalize wr.alloc _ = w5 at *
            generalize wr.heap.size = q at *
            clear d0 d1 d2 d3 d4
            have P5 : Hid (Whole w5 q 32 (nodeC n (.slice As n.sty.length cs))) := P5
            go_wp2_with fail
            refine (held_t t w5).mono ?_
            rintro e w6 ⟨rfl, rfl⟩
            go_wp2_with fail
            refine (nfull_any T5.out).mono ?_
            rintro e w6 ⟨rfl, hb⟩
            have T6 := Lib.hid (T5.out.behind hb)
            have B6 := Lib.hid (B5.out.trans (hb.mono B5.out.size))
            have P6 := Lib.hid (P5.out.under hb P5.out.size)
            have S6 := Lib.hid (S5.out.below (hb.mono B5.out.size))
            clear hb T5 B5 P5 S5
            rw [hLn]
            by_cases hfull : mostZ most ≤ k + 1
            · have hd : decide ((mostZ most : Int) ≤ ((k + 1 : Nat) : Int)) = true := by rw [decide_eq_true_eq]; omega
              have EQ := Lib.hid (show growB (mostZ most) [r] 0 R = false by rw [hG.out, ST.out, decide_eq_false (by omega)]; simp)
              have BX := B6
              rw [hd]
              go_wp2_with fail
              refine bodyPost_ret (v := .tuple #[.pointer none, .bool false]) (by simp [results, Tryz.results7, go_sem]) rfl ⟨?_, BX.out⟩
              unfold OfPost
              rw [if_neg (by rw [ofB, hr, Bool.true_and, EQ.out]; simp)]
            · have hd : decide ((mostZ most : Int) ≤ ((k + 1 : Nat) : Int)) = false := by rw [decide_eq_false_iff_not]; omega
              rw [hd]
              have TK := Lib.hid (takes_any T6.out hla.out n (.slice As n.sty.length cs) (fun ht d hd => (UU.out ht d hd).step B6.out) (S6.out.at_ B6.out.size) DT.out.1 DT.out.2.1 DT.out.2.2 (by rw [hLn]; omega))
              have c0 : w6.cell? ⟨q, 0, none⟩ = some (.int .i64 n.id) := P6.out.cell 0
              have c1 : w6.cell? ⟨q, 1, none⟩ = some (.int .i64 n.par) := P6.out.cell 1
              have c2 : w6.cell? ⟨q, 2, none⟩ = some (.bool n.tx) := P6.out.cell 2
              have c3 : w6.cell? ⟨q, 3, none⟩ = some (.string n.dat) := P6.out.cell 3
              have c4 : w6.cell? ⟨q, 4, none⟩ = some (.slice As n.sty.length cs) := P6.out.cell 4
              go_wp2_with fail
              refine TK.out.mono ?_
              rintro e w7 ⟨rfl, hb⟩
              have T7 := Lib.hid (T6.out.behind hb)
              have B7 := Lib.hid (B6.out.trans (hb.mono B6.out.size))
              have P7 := Lib.hid (P6.out.under hb P6.out.size)
              have S7 := Lib.hid (S6.out.below (hb.mono B6.out.size))
              clear hb T6 B6 P6 S6 TK c0 c1 c2 c3 c4
              cases htk : takesB (r :: R.take k) last n
              · have EQ := Lib.hid (show growB (mostZ most) [r] 0 R = false by rw [hG.out, ST.out, htk]; simp)
                have BX := B7
                go_wp2_with fail
                refine bodyPost_ret (v := .tuple #[.pointer none, .bool false]) (by simp [results, Tryz.results7, go_sem]) rfl ⟨?_, BX.out⟩
                unfold OfPost
                rw [if_neg (by rw [ofB, hr, Bool.true_and, EQ.out]; simp)]
              · have EQ := Lib.hid (show growB (mostZ most) [r] 0 R = growB (mostZ most) (r :: R.take (k + 1)) n.id (R.drop (k + 1)) by rw [hG.out, ST.out, htk, decide_eq_true (by omega)]; simp)
                obtain ⟨f1, f2, -, -, -, -, f7⟩ := takes_facts htk
                go_upto_region 11 with fail
                have YP := Lib.hid (fun w (hb : Behind w7 w) => P7.out.under hb P7.out.size)
                refine region_lane [] [0, 1, 2] [3] (by kernel_rfl) (by kernel_rfl) (fun _ _ _ _ _ h => h) ?_
                simp only [pick, List.map_nil]
                refine wpQuiet_nil ⟨rfl, ?_⟩
                simp only [List.map_cons, List.map_nil, List.getD_cons_zero, List.getD_cons_succ, List.drop_succ_cons, List.drop_zero]
                refine laneO_run 1 (by kernel_rfl) ?_
                simp only [List.take_succ_cons, List.take_zero, List.drop_succ_cons, List.drop_zero]
                repeat (go_big_quiet_step (fail))
                refine wpQuiet_nil ?_
                refine laneO_call (v := (.pointer (some ⟨t, 0, none⟩))) (by kernel_rfl) (by rfl) (fun C hC h0 => ?_) ?_
                focus (go_big_quiet_op; exact ⟨_, fun w hw => (held_t t w).mono fun e w' ⟨he, hb⟩ => ⟨he, hb ▸ hw⟩, rfl⟩)
                simp only [Act.put, List.setIfInBounds_toArray, List.set_cons_zero, List.set_cons_succ]
                refine laneO_fixed (v := .agg (nodeC n (.slice As n.sty.length cs)).toArray) (by kernel_rfl) (fun w hw => .inl ⟨by rfl, cells_gives (n := 5) nodeT (.tmp 9) rfl q rfl (nodeC n (.slice As n.sty.length cs)) rfl 32 (YP.out w hw)⟩) ?_
                simp only [Act.put, List.setIfInBounds_toArray, List.set_cons_zero, List.set_cons_succ]
                refine laneO_end0 rfl rfl fun w8 hb8 => ?_
                have T8 := Lib.hid (T7.out.behind hb8)
                have B8 := Lib.hid (B7.out.trans (Below.mono hb8 B7.out.size))
                have P8 := Lib.hid (P7.out.under hb8 P7.out.size)
                have S8 := Lib.hid (S7.out.below (Below.mono hb8 B7.out.size))
                clear YP T7 B7 P7 S7 hb8
                go_wp2_with fail
                refine (nput_any T8.out B8.out.size (S8.out.at_ B8.out.size) f1 f2 f7 (by rw [hLn]; omega)).mono ?_
                rintro e w9 ⟨rfl, hT9, hb, hq⟩
                have T9 := Lib.hid (show Tree w9 W.heap.size t (mostZ most) (r :: R.take (k + 1)) by rw [TAK.out]; exact hT9)
                have B9 := Lib.hid (B8.out.trans hb)
                have P9 := hq q _ P8.out
                have c0 : w9.cell? ⟨q, 0, none⟩ = some (.int .i64 n.id) := P9.cell 0
                clear hT9 hb hq P9 P8 S8 T8 B8
                go_wp2_with fail
                go_roundw
                case rel => exact ⟨k + 1, n.id, by omega, by go_num, rfl, Lib.hid DT.out.2.1, T9, EQ, by omega, B9⟩
                case measure => simp [intOf]; omega
          · have hq : k = R.length := by omega
            have EQ := Lib.hid (show ofB most (r :: R) = true by rw [ofB, hr, Bool.true_and, hG.out, hq, List.drop_length]; rfl)
            have TX := Lib.hid (show Tree wr W.heap.size t (mostZ most) (r :: R) by have := hT.out; rw [hq, List.take_length] at this; exact this)
            go_wp2_with fail
            refine bodyPost_ret (v := .tuple #[.pointer (some ⟨t, 0, none⟩), .bool true]) (by simp [results, Tryz.results7, go_sem]) rfl ⟨?_, hB.out⟩
            unfold OfPost
            rw [if_pos EQ.out]
            exact ⟨t, rfl, TX.out⟩
theorem tof_any (most : Int) (A : Option Addr) (c : Nat) (l : List Nd) (svs : List Value) (W : World) (h : NodesLow W W.heap.size A l svs) (hc : l.length ≤ c) (hU : ∀ n ∈ l, n.tx = false → ∀ d ∈ n.sty, UntoldOK d) :
    Calls Tryz.prog 7 #[.int .i64 most, .slice A l.length c] W fun e w' => OfPost W most l e w' ∧ Below W.heap.size W w' :=
  tof_at most A c l svs W h hc fun n hn ht d hd => (hU n hn ht d hd).at_ W
end Go.Proofs.YtbhdpfacfgldiaaGreatDoor
/- tree.Node; a tree stands while a row of nodes is written. -/
namespace Go.Proofs.YtbhdpfacfgldiaaGreatDoor
open Go Go.RowKit
set_option linter.unusedVariables false
set_option linter.unusedSimpArgs false
set_option maxRecDepth 20000
set_option maxHeartbeats 2000000

/-- What a row of nodes is not. -/
def NodeRow (w : World) (k : Nat) : Prop := ∃ cur fr, w.heap[k]? = some (.cells cur 32 fr)
theorem node_row_whole {w : World} {k : Nat} (h : NodeRow w k) {t : TypeId} {cs : List Value} (hw : Whole w k t cs) (ht : t ≠ 32) : False := by
  obtain ⟨cur, fr, h⟩ := h
  have h2 : w.heap[k]? = _ := hw
  rw [h] at h2
  injection h2 with h2
  simp at h2
  exact ht h2.2.1.symm
theorem node_row_own {w : World} {k : Nat} (h : NodeRow w k) {base e size m : Nat} {v : Value} {xs : List Value} (ho : w.ownsRow base e size v m xs) (he : e ≠ 32) : v.ownBlock ≠ some k := by
  obtain ⟨cur, fr, h⟩ := h
  intro hk
  rcases ho.2 with ⟨rfl, -⟩ | ⟨g, cap, cur', rfl, -, hg, -⟩
  · simp [Value.ownBlock] at hk
  · simp [Value.ownBlock] at hk
    subst hk
    rw [h] at hg
    injection hg with hg
    simp at hg
    exact he hg.2.1.symm
theorem Tree.rows {w w' : World} {base t : Nat} {most : Int} {L : List Nd} {S : List Nat} (h : Tree w base t most L) (hO : Only S w w') (hS : ∀ k ∈ S, NodeRow w k) : Tree w' base t most L := by
  obtain ⟨b, f, sv, kv, h⟩ := h
  refine ⟨b, f, sv, kv, h.ok, h.low, hO.whole h.hd fun hx => node_row_whole (hS _ hx) h.hd (by decide), h.mp.only hO fun hx => ?_, h.dom, fun n hn g hg => ⟨(h.nod n hn g hg).1, hO.whole (h.nod n hn g hg).2 fun hx => node_row_whole (hS _ hx) (h.nod n hn g hg).2 (by decide)⟩, fun n hn => (h.sty n hn).only hO fun k hk hx => ?_, fun n hn => hO.owns (h.kid n hn) fun k hk hx => node_row_own (hS _ hx) (h.kid n hn) (by decide) hk, h.inj, h.apart⟩
  · obtain ⟨cur, fr, e⟩ := hS _ hx
    obtain ⟨D, ⟨es, clock, hb, -⟩, -⟩ := h.mp
    rw [hb] at e
    cases e
  · obtain ⟨A, c, e, hr, -⟩ := h.sty n hn
    rw [e] at hk
    exact node_row_own (hS _ hx) hr (by decide) hk
theorem tnode_any {W : World} {base t : Nat} {most : Int} {L : List Nd} (hT : Tree W base t most L) {id : Int} (hi : In64i id) {n : Nd} (ha : atZ L id = some n) :
    Calls Tryz.prog 16 #[.pointer (some ⟨t, 0, none⟩), .int .i64 id] W fun e w' => (∃ A c, e = .returned (.tuple #[.agg #[.int .i64 n.id, .int .i64 n.par, .bool n.tx, .string n.dat, .slice A n.sty.length c], .bool true]) ∧ StyOwn w' W.heap.size (.slice A n.sty.length c) n.sty) ∧ Below W.heap.size W w' := by
  have hal : Below W.heap.size W (W.alloc (.cells #[.int .i64 0, .int .i64 0, .bool false, .string ⟨#[]⟩, .slice none 0 0] 32)) := (Below.refl _ _).alloc (Nat.le_refl _) _
  have R0 := Lib.hid (Whole.mk W 32 #[.int .i64 0, .int .i64 0, .bool false, .string ⟨#[]⟩, .slice none 0 0])
  have H := Lib.hid (nnode_any (hT.behind hal) hi)
  have B0 := Lib.hid hal
  clear hal hT
  go_enter Tryz.func16, Tryz.ntmps16
  go_upto_region 1 with fail
  generalize W.alloc _ = w0 at *
  go_wp2_with fail
  refine (held_t t w0).mono ?_
  rintro e w1 ⟨rfl, rfl⟩
  go_wp2_with fail
  refine H.out.mono ?_
  rintro e w1 ⟨hp, hb⟩
  unfold NodePost at hp
  rw [ha] at hp
  obtain ⟨sv', rfl, hs⟩ := hp
  have R1 := Lib.hid (R0.out.under hb R0.out.size)
  have B1 := Lib.hid (B0.out.trans (hb.mono B0.out.size))
  have z0 : W.heap.size < w0.heap.size := R0.out.size
  have n1 := hs.other R1.out (by decide)
  have HS := Lib.hid hs
  obtain ⟨A2, c2, rfl, -⟩ := hs
  clear hb H R0 B0
  go_wp2_with (refine cells_store (n := 5) nodeT (.tmp 4) (.tmp 10) rfl rfl W.heap.size rfl (nodeC n (.slice A2 n.sty.length c2)) rfl (node_one n) rfl 32 [.int .i64 0, .int .i64 0, .bool false, .string ⟨#[]⟩, .slice none 0 0] ?_ rfl ?_; (focus (exact R1.out)); intro w3 h3 o3; have R3 := Lib.hid h3; have O3 := Lib.hid o3; clear h3 o3)
  exact cells_end2 (n := 5) nodeT rfl W.heap.size rfl (nodeC n (.slice A2 n.sty.length c2)) rfl 32 R3.out rfl ⟨⟨A2, c2, rfl, (HS.out.only O3.out (by intro g hg hm; simp at hm; subst hm; exact n1 hg)).mono (by omega)⟩, B1.out.trans (O3.out.below (by simp) (by have := R1.out.size; omega))⟩
end Go.Proofs.YtbhdpfacfgldiaaGreatDoor
/- tree.say, Say. -/
namespace Go.Proofs.YtbhdpfacfgldiaaGreatDoor
open Go Go.RowKit
set_option linter.unusedVariables false
set_option linter.unusedSimpArgs false
set_option maxRecDepth 20000
set_option maxHeartbeats 2000000

theorem nodeInfo : (Tryz.prog.info? 32).map (fun i => (i.zero, i.size, i.bytes)) = some (some (.agg #[.int .i64 0, .int .i64 0, .bool false, .string ⟨#[]⟩, .slice none 0 0]), 5, 64) := by kernel_rfl
/-- A row of nodes of the call's own, their lists too. -/
def NodesOwn (w : World) (lo : Nat) (v : Value) (l : List Nd) : Prop := ∃ A c svs, v = .slice A l.length c ∧ svs.length = l.length ∧ w.ownsRow lo 32 5 (.slice A l.length c) l.length (rowsC l svs) ∧ ∀ k (h : k < l.length) (h2 : k < svs.length), StyOwn w lo svs[k] l[k].sty
theorem rowsC_append : ∀ (l : List Nd) (s : List Value) (h : s.length = l.length) (n : Nd) (v : Value), rowsC (l ++ [n]) (s ++ [v]) = rowsC l s ++ nodeC n v
  | [], [], _, n, v => by simp [rowsC]
  | m :: r, u :: t, h, n, v => by
    simp only [List.cons_append, rowsC, rowsC_append r t (by simpa using h) n v, List.append_assoc]
theorem own_row {w : World} {base size m : Nat} {v : Value} {xs : List Value} (ho : w.ownsRow base 32 size v m xs) {k : Nat} (hk : v.ownBlock = some k) : NodeRow w k := by
  rcases ho.2 with ⟨rfl, -⟩ | ⟨g, cap, cur', rfl, -, hg, -⟩
  · simp [Value.ownBlock] at hk
  · simp [Value.ownBlock] at hk
    subst hk
    exact ⟨_, _, hg⟩
theorem StyOwn.rows {w w' : World} {base : Nat} {sv : Value} {l : List Dc} {S : List Nat} (h : StyOwn w base sv l) (hO : Only S w w') (hS : ∀ k ∈ S, NodeRow w k) : StyOwn w' base sv l :=
  h.only hO fun k hk hx => by
    obtain ⟨A, c, e, hr, -⟩ := h
    rw [e] at hk
    exact node_row_own (hS _ hx) hr (by decide) hk
theorem IdsOwn.rows {w w' : World} {base : Nat} {v : Value} {l : List Int} {S : List Nat} (h : IdsOwn w base v l) (hO : Only S w w') (hS : ∀ k ∈ S, NodeRow w k) : IdsOwn w' base v l :=
  h.only hO fun k hk hx => by
    obtain ⟨A, c, e, hr, -⟩ := h
    rw [e] at hk
    exact node_row_own (hS _ hx) hr (by decide) hk
/-- One more. -/
theorem NodesOwn.push {w w' : World} {lo : Nat} {l : List Nd} {A : Option Addr} {c : Nat} {svs : List Value} (h1 : svs.length = l.length) (h3 : ∀ k (h : k < l.length) (h2 : k < svs.length), StyOwn w lo svs[k] l[k].sty)
    (ho : w.ownsRow lo 32 5 (.slice A l.length c) l.length (rowsC l svs)) {n : Nd} {sv : Value} {v' : Value} (hg : Only (Value.slice A l.length c).ownBlock.toList w w') (hv : w'.ownsRow lo 32 5 v' (l.length + 1) (rowsC l svs ++ nodeC n sv)) (hs : StyOwn w' lo sv n.sty) : NodesOwn w' lo v' (l ++ [n]) := by
  obtain ⟨A', c', rfl⟩ := own_shape hv
  refine ⟨A', c', svs ++ [sv], by simp, by simp [h1], ?_, fun k hk hk2 => ?_⟩
  · rw [rowsC_append l svs h1]; simpa using hv
  · by_cases hl : k < l.length
    · rw [List.getElem_append_left (by omega), List.getElem_append_left hl]
      exact (h3 k hl (by omega)).rows hg fun x hx => own_row ho (by simpa using hx)
    · have e : k = l.length := by simp at hk; omega
      subst e
      rw [List.getElem_append_right (by omega), List.getElem_append_right (by omega)]
      simpa [h1] using hs
theorem NodesOwn.behind {w w' : World} {lo : Nat} {v : Value} {l : List Nd} (h : NodesOwn w lo v l) (hb : Below w.heap.size w w') : NodesOwn w' lo v l := by
  obtain ⟨A, c, svs, e, h1, h2, h3⟩ := h
  have ho : Only [] w w' := Only.of_below hb
  exact ⟨A, c, svs, e, h1, ho.owns h2 (by simp), fun k hk hk2 => (h3 k hk hk2).only ho (by simp)⟩
theorem NodesOwn.block {w : World} {lo : Nat} {v : Value} {l : List Nd} (h : NodesOwn w lo v l) : ∀ k ∈ v.ownBlock.toList, NodeRow w k := by
  obtain ⟨A, c, svs, rfl, h1, h2, h3⟩ := h
  intro k hk
  exact own_row h2 (by simpa using hk)
theorem kid_flat {n : Nd} {ks : List Tr} {j : Nat} (hj : j < ks.length) : ks[j].flat.length < (Tr.mk n ks).flat.length := by
  have h : ∀ (ks : List Tr) (j : Nat) (hj : j < ks.length), ks[j].flat.length ≤ (flats ks).length := by
    intro ks
    induction ks with
    | nil => intro j hj; simp at hj
    | cons k r ih =>
      intro j hj
      rw [flats, List.length_append]
      cases j with
      | zero => simp
      | succ j => have := ih j (by simpa using hj); simp; omega
  have := h ks j hj
  rw [Tr.flat]; simp; omega
theorem fitss_get {L : List Nd} {p : Int} : ∀ {ks : List Tr}, Fitss L p ks → ∀ j (hj : j < ks.length), Fits L ks[j]
  | k :: r, h, 0, _ => by rw [Fitss] at h; exact h.2.1
  | k :: r, h, j + 1, hj => by rw [Fitss] at h; exact fitss_get h.2.2 j (by simpa using hj)
theorem flats_take (ks : List Tr) (j : Nat) (hj : j < ks.length) : flats (ks.take (j + 1)) = flats (ks.take j) ++ ks[j].flat := by
  rw [List.take_succ_eq_append_getElem hj, flats_append, flats, flats, List.append_nil]
theorem say_any {base t : Nat} {most : Int} {L : List Nd} (hL : L.length ≤ 1000) (lo : Nat) : ∀ (m : Nat) (T : Tr), T.flat.length ≤ m → Fits L T → ∀ (W : World) (v : Value) (l : List Nd), Tree W base t most L → NodesOwn W lo v l → lo ≤ W.heap.size → l.length + T.flat.length ≤ 100000 →
    Calls Tryz.prog 45 #[.pointer (some ⟨t, 0, none⟩), v, .int .i64 T.n.id] W fun e w' => ∃ v', e = .returned v' ∧ NodesOwn w' lo v' (l ++ T.flat) ∧ Tree w' base t most L ∧ Only v.ownBlock.toList W w' ∧ (v'.ownBlock = v.ownBlock ∨ ∃ k, v'.ownBlock = some k ∧ W.heap.size ≤ k) := by
  intro m
  induction m with
  | zero => intro T hT; cases T with | mk n ks => rw [Tr.flat] at hT; simp at hT
  | succ m ih =>
    intro T hTm hF W v l hT hv hlo hbd
    cases T with
    | mk n ks =>
    have IH := Lib.hid ih
    clear ih
    rw [Fits] at hF
    obtain ⟨ha, hk, hFs⟩ := hF
    have FS := Lib.hid (fun j (hj : j < ks.length) => fitss_get hFs j hj)
    have LT := Lib.hid (fun j (hj : j < ks.length) => (show ks[j].flat.length ≤ m by have := kid_flat (n := n) hj; omega))
    have hfl : (Tr.mk n ks).flat = n :: flats ks := by rw [Tr.flat]
    rw [hfl] at hbd ⊢
    have hnm : n ∈ L := (at_some ha).1
    have hrg := hT.ok.rng n hnm
    have hI : In64i n.id := by unfold In64i; omega
    have TN := Lib.hid (tnode_any hT hI ha)
    obtain ⟨A, c, svs, rfl, h1, ho, h3⟩ := hv
    have HO := Lib.hid ho
    have H3 := Lib.hid h3
    have T0 := Lib.hid hT
    obtain ⟨i0, hi, hz0, hz1, hz2⟩ := info_parts nodeInfo
    clear hT ho h3 hFs hTm
    show Calls Tryz.prog _ #[.pointer (some ⟨t, 0, none⟩), .slice A l.length c, .int .i64 n.id] W _
    go_enter Tryz.func45, Tryz.ntmps45
    go_wp2_with fail
    refine TN.out.mono ?_
    rintro e w1 ⟨⟨A1, c1, rfl, hs1⟩, hb⟩
    have B1 := Lib.hid hb
    have S1 := Lib.hid hs1
    clear hb hs1 TN
    go_upto_region 2 with fail
    have P2 := Lib.hid (Whole.mk w1 32 (nodeC n (.slice A1 n.sty.length c1)).toArray)
    have b12 : Below w1.heap.size w1 (w1.alloc (.cells (nodeC n (.slice A1 n.sty.length c1)).toArray 32)) := (Below.refl _ _).alloc (Nat.le_refl _) _
    have B2 := Lib.hid (B1.out.trans (b12.mono B1.out.size))
    have S2 := Lib.hid (S1.out.only (Only.of_below (S := []) b12) (by simp))
    clear b12 B1 S1
    unfold nodeC at P2 B2 S2
    generalize w1.alloc _ = w2 at *
    generalize w1.heap.size = q at *
    have c0 : w2.cell? ⟨q, 0, none⟩ = some (.int .i64 n.id) := P2.out.cell 0
    have c1' : w2.cell? ⟨q, 1, none⟩ = some (.int .i64 n.par) := P2.out.cell 1
    have c2' : w2.cell? ⟨q, 2, none⟩ = some (.bool n.tx) := P2.out.cell 2
    have c3' : w2.cell? ⟨q, 3, none⟩ = some (.string n.dat) := P2.out.cell 3
    have c4' : w2.cell? ⟨q, 4, none⟩ = some (.slice A1 n.sty.length c1) := P2.out.cell 4
    have b23 : Below w2.heap.size w2 (w2.alloc (.cells #[.int .i64 n.id, .int .i64 n.par, .bool n.tx, .string n.dat, .slice A1 n.sty.length c1] 32)) := (Below.refl _ _).alloc (Nat.le_refl _) _
    have B3 := Lib.hid (B2.out.trans (b23.mono B2.out.size))
    have S3 := Lib.hid (S2.out.only (Only.of_below (S := []) b23) (by simp))
    have O3 := Lib.hid ((Only.of_below (S := []) B3.out).owns HO.out (by simp))
    have T3 := Lib.hid (T0.out.behind B3.out)
    have P3 := Lib.hid (Whole.mk w2 32 #[.int .i64 n.id, .int .i64 n.par, .bool n.tx, .string n.dat, .slice A1 n.sty.length c1])
    clear b23 P2 B2 S2
    go_upto_region 3 with (at_builtin; refine wpList_append_own_at _ rfl (.tmp 17) (.tmp 19) 23 rfl lo 32 i0 (.agg #[.int .i64 0, .int .i64 0, .bool false, .string ⟨#[]⟩, .slice none 0 0]) 5 64 Tryz.underlying23 hi hz0 hz1 hz2 rfl (by decide) _ l.length (rowsC l svs) rfl O3.out ⟨w2.heap.size, 0, none⟩ 1 1 (nodeC n (.slice A1 n.sty.length c1)) rfl rfl ?_ (node_one n) (by unfold maxLen; simp at hbd; omega) (by simp at hbd; omega) (by have := B3.out.size; omega) ?_; (focus (intro j u hj; rw [head_add]; exact (P3.out.cell j).trans hj)); intro v4 w4 g1 g2 g3 g4; have Q1 := Lib.hid g1; have Q2 := Lib.hid (Only.of_grown g2); have Q4 := Lib.hid g4; clear g1 g2 g3 g4)
    have rowsQ : ∀ k ∈ (Value.slice A l.length c).ownBlock.toList, NodeRow (w2.alloc (.cells #[.int .i64 n.id, .int .i64 n.par, .bool n.tx, .string n.dat, .slice A1 n.sty.length c1] 32)) k := fun k hk => own_row O3.out (by simpa using hk)
    have O4 := Lib.hid ((Only.of_below (S := (Value.slice A l.length c).ownBlock.toList) B3.out).trans Q2.out (fun x hx => .inl hx))
    have T4 := Lib.hid (T3.out.rows Q2.out rowsQ)
    have S4 := Lib.hid ((S3.out.rows Q2.out rowsQ).mono hlo)
    have N4 := Lib.hid (NodesOwn.push h1 H3.out HO.out (n := n) (sv := .slice A1 n.sty.length c1) O4.out Q1.out S4.out)
    have K4 : Hid (v4.ownBlock = (Value.slice A l.length c).ownBlock ∨ ∃ k, v4.ownBlock = some k ∧ W.heap.size ≤ k) := Lib.hid (by
      rcases Q4.out with e | e
      · exact .inl e
      · exact .inr ⟨_, e, B3.out.size⟩)
    have KD := Lib.hid (tkids_any T4.out hI hrg.1 hL)
    rw [hk] at KD
    have zW4 : W.heap.size ≤ w4.heap.size := O4.out.size
    clear rowsQ Q1 Q2 Q4 T3 S3 O3 P3 B3 S4 H3 HO T0 c0 c1' c2' c3' c4'
    generalize w2.alloc _ = w3 at *
    go_wp2_with fail
    refine KD.out.mono ?_
    rintro e w5 ⟨kv, rfl, hkv, hb5⟩
    have T5 := Lib.hid (T4.out.behind hb5)
    have N5 := Lib.hid (N4.out.behind hb5)
    have O5 := Lib.hid (O4.out.trans (T := []) (Only.of_below hb5) (by simp))
    have I5 := Lib.hid hkv
    obtain ⟨Ak, ck, rfl, -, hkl⟩ := hkv
    generalize hbk : w4.heap.size = bk at *
    clear hb5 T4 N4 O4 KD
    have hml : (ks.map (·.n.id)).length = ks.length := by simp
    generalize hmk : (ks.map (·.n.id)).length = mk at *
    go_wp2_with fail
    go_loopw [1, 25] (fun v1 v25 wr => ∃ j : Nat, j ≤ ks.length ∧ v25 = .int .i64 j ∧ Hid (NodesOwn wr lo v1 (l ++ n :: flats (ks.take j))) ∧ Hid (Tree wr base t most L) ∧ Hid (IdsOwn wr bk (.slice Ak mk ck) (ks.map (·.n.id))) ∧ Hid (Only (Value.slice A l.length c).ownBlock.toList W wr) ∧ Hid (v1.ownBlock = (Value.slice A l.length c).ownBlock ∨ ∃ k, v1.ownBlock = some k ∧ W.heap.size ≤ k)) (fun v1 v25 _ => ks.length - (intOf v25).toNat)
    case atStart => exact ⟨0, Nat.zero_le _, rfl, by rw [List.take_zero, flats]; exact N5, T5, I5, O5, K4⟩
    case round =>
      clear T5 N5 O5 I5 K4
      obtain ⟨j, hj, rfl, hN, hT, hIk, hO, hK⟩ := hrel
      by_cases hlt : j < ks.length
      · obtain ⟨Ax, cx, ex, hx, -⟩ := hIk.out
        injection ex with ea eb ec
        subst ea ec
        obtain ⟨ad, rfl, hb, hc⟩ := (show Row wr wr.heap.size Ak (i64s (ks.map (·.n.id))) from row_of_own hx).int (show j < (ks.map (·.n.id)).length by rw [List.length_map]; exact hlt)
        have ez : (ks.map (·.n.id))[j]'(by rw [List.length_map]; exact hlt) = ks[j].n.id := by simp
        rw [ez] at hc
        have bdj : (l ++ n :: flats (ks.take j)).length + ks[j].flat.length ≤ 100000 := by
          have e1 := congrArg List.length (flats_take ks j hlt)
          have e2 : (flats ks).length = (flats (ks.take (j + 1))).length + (flats (ks.drop (j + 1))).length := by
            rw [← List.length_append, ← flats_append, List.take_append_drop]
          simp at e1 hbd ⊢
          omega
        have R := Lib.hid (IH.out ks[j] (LT.out j hlt) (FS.out j hlt) wr _ _ hT.out hN.out (by have := hO.out.size; omega) bdj)
        have FT := Lib.hid (show (l ++ n :: flats (ks.take j)) ++ ks[j].flat = l ++ n :: flats (ks.take (j + 1)) by rw [flats_take ks j hlt]; simp)
        rw [FT.out] at R
        clear FT bdj ez hx
        generalize ks[j].n.id = z at *
        go_wp2_with fail
        refine R.out.mono ?_
        rintro e w6 ⟨v6, rfl, r1, r2, r3, r4⟩
        have N6 := Lib.hid r1
        have T6 := Lib.hid r2
        have I6 := Lib.hid (hIk.out.rows r3 hN.out.block)
        have O6 := Lib.hid (hO.out.trans r3 (fun x hx => by
          rcases hK.out with e | ⟨k, e, hk'⟩
          · exact .inl (by rw [← e]; exact hx)
          · refine .inr ?_
            rw [e] at hx
            have : x = k := by simpa using hx
            omega))
        have K6 : Hid (v6.ownBlock = (Value.slice A l.length c).ownBlock ∨ ∃ k, v6.ownBlock = some k ∧ W.heap.size ≤ k) := Lib.hid (by
          rcases r4 with e | ⟨k, e, hk'⟩
          · rw [e]; exact hK.out
          · exact .inr ⟨k, e, by have := hO.out.size; omega⟩)
        clear r1 r2 r3 r4 R hN hT hIk hO hK hc
        go_wp2_with fail
        go_roundw
        case rel => exact ⟨j + 1, by omega, by go_num, N6, T6, I6, O6, K6⟩
        case measure => simp [intOf]; omega
      · have hq : j = ks.length := by omega
        have NX := Lib.hid (show NodesOwn wr lo _ (l ++ n :: flats ks) from by have := hN.out; rw [hq, List.take_length] at this; exact this)
        clear hN
        go_wp2_with fail
        go_ret
        exact ⟨_, rfl, NX.out, hT.out, hO.out, hK.out⟩
end Go.Proofs.YtbhdpfacfgldiaaGreatDoor
/- tree.Say. -/
namespace Go.Proofs.YtbhdpfacfgldiaaGreatDoor
open Go Go.RowKit
set_option linter.unusedVariables false
set_option linter.unusedSimpArgs false
set_option maxRecDepth 20000
set_option maxHeartbeats 2000000

theorem tsay_any {W : World} {base t : Nat} {most : Int} {L : List Nd} (hT : Tree W base t most L) (hL : L.length ≤ 1000) {T : Tr} (hf : T.flat = L) (hF : Fits L T) (h0 : T.n.id = 0) :
    Calls Tryz.prog 25 #[.pointer (some ⟨t, 0, none⟩)] W fun e w' => ∃ v, e = .returned v ∧ NodesOwn w' W.heap.size v L ∧ Tree w' base t most L ∧ Below W.heap.size W w' := by
  have HT := Lib.hid hT
  have HN := Lib.hid (tlen_any hT)
  have SY := Lib.hid (fun (w : World) (v : Value) (hT : Tree w base t most L) (hv : NodesOwn w W.heap.size v []) (hz : W.heap.size ≤ w.heap.size) => say_any (base := base) (t := t) (most := most) hL W.heap.size T.flat.length T (Nat.le_refl _) hF w v [] hT hv hz (by rw [hf]; simp; omega))
  rw [h0, List.nil_append, hf] at SY
  clear hT hF h0 hf
  obtain ⟨i0, hi, hz0, hz1, hz2⟩ := info_parts nodeInfo
  go_enter Tryz.func25, Tryz.ntmps25
  go_wp2_with fail
  refine HN.out.mono ?_
  rintro e w1 ⟨rfl, rfl⟩
  go_wp2_with (at_make; refine wpList_make_own _ rfl _ _ 23 rfl W.heap.size 32 i0 (.agg #[.int .i64 0, .int .i64 0, .bool false, .string ⟨#[]⟩, .slice none 0 0]) 5 Tryz.underlying23 hi hz0 hz1 .i64 .i64 _ L.length rfl rfl rfl (by rw [hz2]; omega) (by unfold maxLen; omega) (Nat.le_refl _) ?_; intro w2 r1 r2; have R1 := Lib.hid r1; have R2 := Lib.hid (Only.of_grown r2); clear r1 r2)
  have B2 : Hid (Below W.heap.size W w2) := Lib.hid (R2.out.below (by simp) (Nat.le_refl _))
  have T2 := Lib.hid (HT.out.behind B2.out)
  have N2 : Hid (NodesOwn w2 W.heap.size (.slice (some ⟨W.heap.size, 0, none⟩) 0 L.length) []) := Lib.hid ⟨_, _, [], rfl, rfl, R1.out, fun k hk => by simp at hk⟩
  refine (SY.out w2 _ T2.out N2.out B2.out.size).mono ?_
  rintro e w3 ⟨v, rfl, r1, r2, r3, -⟩
  have Q1 := Lib.hid r1
  have Q2 := Lib.hid r2
  have Q3 : Hid (Below W.heap.size W w3) := Lib.hid (B2.out.trans (r3.below (by intro x hx; simp [Value.ownBlock] at hx; omega) B2.out.size))
  clear r1 r2 r3 SY
  go_wp2
  go_ret
  exact ⟨_, rfl, Q1.out, Q2.out, Q3.out⟩
end Go.Proofs.YtbhdpfacfgldiaaGreatDoor
/- quoinref4.Same of two lists that read alike. -/
namespace Go.Proofs.YtbhdpfacfgldiaaGreatDoor
open Go Go.RowKit
set_option linter.unusedVariables false
set_option linter.unusedSimpArgs false
set_option maxRecDepth 20000
set_option maxHeartbeats 1000000

theorem dsame_any (l : List Dc) (s1 s2 : Value) (W : World) (h1 : StyAt W s1 l) (h2 : StyAt W s2 l) :
    Calls Tryz.prog 44 #[s1, s2] W fun e w' => e = .returned (.bool true) ∧ Below W.heap.size W w' := by
  obtain ⟨A, ca, rfl, hA, hl, -⟩ := h1
  obtain ⟨B, cb, rfl, hB, -, -⟩ := h2
  have HA := Lib.hid hA
  have HB := Lib.hid hB
  clear hA hB
  go_enter Tryz.func44, Tryz.ntmps44
  go_wp2
  go_loopw [5] (fun v5 wr => ∃ k : Nat, k ≤ l.length ∧ v5 = .int .i64 k ∧ Hid (Below W.heap.size W wr)) (fun v5 _ => l.length - (intOf v5).toNat)
  case atStart => exact ⟨0, Nat.zero_le _, rfl, Lib.hid (Below.refl _ _)⟩
  case round =>
    obtain ⟨k, hk, rfl, hb⟩ := hrel
    by_cases hlt : k < l.length
    · obtain ⟨ad, rfl, ha, a0, a1, a2, a3⟩ := ((HA.out.below hb.out).more hb.out.size).dec hlt
      obtain ⟨bd, rfl, hb', b0, b1, b2, b3⟩ := ((HB.out.below hb.out).more hb.out.size).dec hlt
      have hb := hb
      generalize l[k].p = z0 at *
      generalize l[k].w = z1 at *
      generalize l[k].k = z2 at *
      generalize l[k].n = z3 at *
      go_upto_region 6 with fail
      have ya0 : ∀ x : Later wr.heap.size wr, x.w.cell? (ad.add (k * 4)) = some (.int .i64 z0) := fun x => (Below.cell x.h (show (ad.add (k * 4) : Addr).block < wr.heap.size from by first | exact ha | (rw [add_block]; exact ha))).trans a0
      have ya1 : ∀ x : Later wr.heap.size wr, x.w.cell? (⟨(ad.add (k * 4)).block, (ad.add (k * 4)).off + 1, none⟩) = some (.int .i64 z1) := fun x => (Below.cell x.h (show (⟨(ad.add (k * 4)).block, (ad.add (k * 4)).off + 1, none⟩ : Addr).block < wr.heap.size from by first | exact ha | (rw [add_block]; exact ha))).trans a1
      have ya2 : ∀ x : Later wr.heap.size wr, x.w.cell? (⟨(ad.add (k * 4)).block, (ad.add (k * 4)).off + 2, none⟩) = some (.int .i64 z2) := fun x => (Below.cell x.h (show (⟨(ad.add (k * 4)).block, (ad.add (k * 4)).off + 2, none⟩ : Addr).block < wr.heap.size from by first | exact ha | (rw [add_block]; exact ha))).trans a2
      have ya3 : ∀ x : Later wr.heap.size wr, x.w.cell? (⟨(ad.add (k * 4)).block, (ad.add (k * 4)).off + 3, none⟩) = some (.int .i64 z3) := fun x => (Below.cell x.h (show (⟨(ad.add (k * 4)).block, (ad.add (k * 4)).off + 3, none⟩ : Addr).block < wr.heap.size from by first | exact ha | (rw [add_block]; exact ha))).trans a3
      have yb0 : ∀ x : Later wr.heap.size wr, x.w.cell? (bd.add (k * 4)) = some (.int .i64 z0) := fun x => (Below.cell x.h (show (bd.add (k * 4) : Addr).block < wr.heap.size from by first | exact hb' | (rw [add_block]; exact hb'))).trans b0
      have yb1 : ∀ x : Later wr.heap.size wr, x.w.cell? (⟨(bd.add (k * 4)).block, (bd.add (k * 4)).off + 1, none⟩) = some (.int .i64 z1) := fun x => (Below.cell x.h (show (⟨(bd.add (k * 4)).block, (bd.add (k * 4)).off + 1, none⟩ : Addr).block < wr.heap.size from by first | exact hb' | (rw [add_block]; exact hb'))).trans b1
      have yb2 : ∀ x : Later wr.heap.size wr, x.w.cell? (⟨(bd.add (k * 4)).block, (bd.add (k * 4)).off + 2, none⟩) = some (.int .i64 z2) := fun x => (Below.cell x.h (show (⟨(bd.add (k * 4)).block, (bd.add (k * 4)).off + 2, none⟩ : Addr).block < wr.heap.size from by first | exact hb' | (rw [add_block]; exact hb'))).trans b2
      have yb3 : ∀ x : Later wr.heap.size wr, x.w.cell? (⟨(bd.add (k * 4)).block, (bd.add (k * 4)).off + 3, none⟩) = some (.int .i64 z3) := fun x => (Below.cell x.h (show (⟨(bd.add (k * 4)).block, (bd.add (k * 4)).off + 3, none⟩ : Addr).block < wr.heap.size from by first | exact hb' | (rw [add_block]; exact hb'))).trans b3
      clear a0 a1 a2 a3 b0 b1 b2 b3
      refine region_lane [] [0, 1, 2, 3, 4, 5, 6, 7] [8] (by kernel_rfl) (by kernel_rfl) (fun _ _ _ _ _ h => h) ?_
      simp only [pick, List.map_nil]
      refine wpQuiet_nil ⟨rfl, ?_⟩
      simp only [List.map_cons, List.map_nil, List.getD_cons_zero, List.getD_cons_succ, List.drop_succ_cons, List.drop_zero]
      refine laneO_run 8 (by kernel_rfl) ?_
      simp only [List.take_succ_cons, List.take_zero, List.drop_succ_cons, List.drop_zero]
      repeat (go_big_quiet_step (fail))
      refine wpQuiet_nil ?_
      refine laneO_end0 rfl rfl fun w2 hb2 => ?_
      have B2 := Lib.hid (hb.out.trans (Below.mono hb2 hb.out.size))
      clear ya0 ya1 ya2 ya3 yb0 yb1 yb2 yb3
      go_wp2_with fail
      go_roundw
      case rel => exact ⟨k + 1, by omega, by go_num, B2⟩
      case measure => simp [intOf]; omega
    · go_wp2_with fail
      go_ret
      exact ⟨rfl, hb.out⟩
end Go.Proofs.YtbhdpfacfgldiaaGreatDoor
/- quoinref6.Same of two rows of nodes that read alike. -/
namespace Go.Proofs.YtbhdpfacfgldiaaGreatDoor
open Go Go.RowKit
set_option linter.unusedVariables false
set_option linter.unusedSimpArgs false
set_option maxRecDepth 20000
set_option maxHeartbeats 2000000

/-- A row of nodes that reads so. -/
def NodesSee (w : World) (v : Value) (l : List Nd) : Prop := ∃ A c svs, v = .slice A l.length c ∧ svs.length = l.length ∧ l.length ≤ 1000000 ∧ Row w w.heap.size A (rowsC l svs) ∧ ∀ k (h : k < l.length) (h2 : k < svs.length), StyAt w svs[k] l[k].sty
theorem NodesOwn.see {w : World} {lo : Nat} {v : Value} {l : List Nd} (h : NodesOwn w lo v l) (hl : l.length ≤ 1000000) : NodesSee w v l := by
  obtain ⟨A, c, svs, e, h1, h2, h3⟩ := h
  exact ⟨A, c, svs, e, h1, hl, row_of_own h2, fun k hk hk2 => (h3 k hk hk2).at_⟩
theorem NodesLow.see {w : World} {B : Nat} {A : Option Addr} {c : Nat} {l : List Nd} {svs : List Value} (h : NodesLow w B A l svs) (hB : B ≤ w.heap.size) : NodesSee w (.slice A l.length c) l :=
  ⟨A, c, svs, rfl, h.len, h.few, h.row.more hB, fun k hk hk2 => (h.sty k hk).at_ hB⟩
theorem Row.ndr {w : World} {B : Nat} {A : Option Addr} {l : List Nd} {svs : List Value} (h : Row w B A (rowsC l svs)) (hs : svs.length = l.length) {k : Nat} (hk : k < l.length) (hk2 : k < svs.length) :
    ∃ ad, A = some ad ∧ ad.block < B ∧ w.cell? (ad.add (k * 5)) = some (.int .i64 l[k].id) ∧ w.cell? ⟨(ad.add (k * 5)).block, (ad.add (k * 5)).off + 1, none⟩ = some (.int .i64 l[k].par) ∧
      w.cell? ⟨(ad.add (k * 5)).block, (ad.add (k * 5)).off + 2, none⟩ = some (.bool l[k].tx) ∧ w.cell? ⟨(ad.add (k * 5)).block, (ad.add (k * 5)).off + 3, none⟩ = some (.string l[k].dat) ∧ w.cell? ⟨(ad.add (k * 5)).block, (ad.add (k * 5)).off + 4, none⟩ = some svs[k] := by
  have hl := rowsC_length l svs hs
  obtain ⟨ad, e, hb, hc⟩ := h (by omega)
  have at_ : ∀ j, j < 5 → ∀ v, (nodeC l[k] svs[k])[j]? = some v → w.cell? (ad.add (k * 5 + j)) = some v := fun j hj v hv => by
    have h1 : k * 5 + j < (rowsC l svs).length := by omega
    rw [hc _ h1]
    have h2 := rowsC_get l svs hs k hk j hj
    rw [List.getElem?_eq_getElem h1, hv] at h2
    exact h2
  have far : ∀ j, 0 < j → (⟨(ad.add (k * 5)).block, (ad.add (k * 5)).off + j, none⟩ : Addr) = ad.add (k * 5 + j) := fun j hj => by
    have : (ad.add (k * 5)).add j = ad.add (k * 5 + j) := add_of_add _ _ _
    rw [← this]
    generalize ad.add (k * 5) = b
    unfold Addr.add
    rw [if_neg (by omega)]
  refine ⟨ad, e, hb, ?_, ?_, ?_, ?_, ?_⟩
  · exact at_ 0 (by omega) _ rfl
  · rw [far 1 (by omega)]; exact at_ 1 (by omega) _ rfl
  · rw [far 2 (by omega)]; exact at_ 2 (by omega) _ rfl
  · rw [far 3 (by omega)]; exact at_ 3 (by omega) _ rfl
  · rw [far 4 (by omega)]; exact at_ 4 (by omega) _ rfl
theorem nsame_any (l : List Nd) (v1 v2 : Value) (W : World) (h1 : NodesSee W v1 l) (h2 : NodesSee W v2 l) :
    Calls Tryz.prog 19 #[v1, v2] W fun e w' => e = .returned (.bool true) ∧ Below W.heap.size W w' := by
  obtain ⟨A, ca, sa, rfl, la, hl, hA, ga⟩ := h1
  obtain ⟨B, cb, sb, rfl, lb, -, hB, gb⟩ := h2
  have HA := Lib.hid hA
  have HB := Lib.hid hB
  have GA := Lib.hid ga
  have GB := Lib.hid gb
  clear hA hB ga gb
  go_enter Tryz.func19, Tryz.ntmps19
  go_wp2
  go_loopw [5] (fun v5 wr => ∃ k : Nat, k ≤ l.length ∧ v5 = .int .i64 k ∧ Hid (Below W.heap.size W wr)) (fun v5 _ => l.length - (intOf v5).toNat)
  case atStart => exact ⟨0, Nat.zero_le _, rfl, Lib.hid (Below.refl _ _)⟩
  case round =>
    obtain ⟨k, hk, rfl, hb⟩ := hrel
    by_cases hlt : k < l.length
    · obtain ⟨ad, rfl, ha, a0, a1, a2, a3, a4⟩ := ((HA.out.below hb.out).more hb.out.size).ndr la hlt (by omega)
      obtain ⟨bd, rfl, hb3, b0, b1, b2, b3, b4⟩ := ((HB.out.below hb.out).more hb.out.size).ndr lb hlt (by omega)
      have SA := (GA.out k hlt (by omega)).below hb.out
      have SB := (GB.out k hlt (by omega)).below hb.out
      have SAH := Lib.hid SA
      have SBH := Lib.hid SB
      generalize sa[k] = xa at *
      generalize sb[k] = xb at *
      obtain ⟨As, cs, rfl, -⟩ := SA
      obtain ⟨Bs, ds, rfl, -⟩ := SB
      have DS := Lib.hid (fun w (hw : Below wr.heap.size wr w) => dsame_any l[k].sty _ _ w (SAH.out.below hw) (SBH.out.below hw))
      have DS2 := Lib.hid (fun w (hw : Below wr.heap.size wr w) => dsame_any l[k].sty _ _ w (SBH.out.below hw) (SBH.out.below hw))
      clear SAH SBH
      generalize l[k].id = z0 at *
      generalize l[k].par = z1 at *
      generalize l[k].tx = z2 at *
      generalize l[k].dat = z3 at *
      generalize l[k].sty.length = m at *
      go_upto_region 6 with fail
      have ya0 : ∀ x : Later wr.heap.size wr, x.w.cell? (ad.add (k * 5)) = some (.int .i64 z0) := fun x => (Below.cell x.h (show (ad.add (k * 5) : Addr).block < wr.heap.size from by first | exact ha | (rw [add_block]; exact ha))).trans a0
      have ya1 : ∀ x : Later wr.heap.size wr, x.w.cell? (⟨(ad.add (k * 5)).block, (ad.add (k * 5)).off + 1, none⟩) = some (.int .i64 z1) := fun x => (Below.cell x.h (show (⟨(ad.add (k * 5)).block, (ad.add (k * 5)).off + 1, none⟩ : Addr).block < wr.heap.size from by first | exact ha | (rw [add_block]; exact ha))).trans a1
      have ya2 : ∀ x : Later wr.heap.size wr, x.w.cell? (⟨(ad.add (k * 5)).block, (ad.add (k * 5)).off + 2, none⟩) = some (.bool z2) := fun x => (Below.cell x.h (show (⟨(ad.add (k * 5)).block, (ad.add (k * 5)).off + 2, none⟩ : Addr).block < wr.heap.size from by first | exact ha | (rw [add_block]; exact ha))).trans a2
      have ya3 : ∀ x : Later wr.heap.size wr, x.w.cell? (⟨(ad.add (k * 5)).block, (ad.add (k * 5)).off + 3, none⟩) = some (.string z3) := fun x => (Below.cell x.h (show (⟨(ad.add (k * 5)).block, (ad.add (k * 5)).off + 3, none⟩ : Addr).block < wr.heap.size from by first | exact ha | (rw [add_block]; exact ha))).trans a3
      have ya4 : ∀ x : Later wr.heap.size wr, x.w.cell? (⟨(ad.add (k * 5)).block, (ad.add (k * 5)).off + 4, none⟩) = some (.slice As m cs) := fun x => (Below.cell x.h (show (⟨(ad.add (k * 5)).block, (ad.add (k * 5)).off + 4, none⟩ : Addr).block < wr.heap.size from by first | exact ha | (rw [add_block]; exact ha))).trans a4
      have yb0 : ∀ x : Later wr.heap.size wr, x.w.cell? (bd.add (k * 5)) = some (.int .i64 z0) := fun x => (Below.cell x.h (show (bd.add (k * 5) : Addr).block < wr.heap.size from by first | exact hb3 | (rw [add_block]; exact hb3))).trans b0
      have yb1 : ∀ x : Later wr.heap.size wr, x.w.cell? (⟨(bd.add (k * 5)).block, (bd.add (k * 5)).off + 1, none⟩) = some (.int .i64 z1) := fun x => (Below.cell x.h (show (⟨(bd.add (k * 5)).block, (bd.add (k * 5)).off + 1, none⟩ : Addr).block < wr.heap.size from by first | exact hb3 | (rw [add_block]; exact hb3))).trans b1
      have yb2 : ∀ x : Later wr.heap.size wr, x.w.cell? (⟨(bd.add (k * 5)).block, (bd.add (k * 5)).off + 2, none⟩) = some (.bool z2) := fun x => (Below.cell x.h (show (⟨(bd.add (k * 5)).block, (bd.add (k * 5)).off + 2, none⟩ : Addr).block < wr.heap.size from by first | exact hb3 | (rw [add_block]; exact hb3))).trans b2
      have yb3 : ∀ x : Later wr.heap.size wr, x.w.cell? (⟨(bd.add (k * 5)).block, (bd.add (k * 5)).off + 3, none⟩) = some (.string z3) := fun x => (Below.cell x.h (show (⟨(bd.add (k * 5)).block, (bd.add (k * 5)).off + 3, none⟩ : Addr).block < wr.heap.size from by first | exact hb3 | (rw [add_block]; exact hb3))).trans b3
      have yb4 : ∀ x : Later wr.heap.size wr, x.w.cell? (⟨(bd.add (k * 5)).block, (bd.add (k * 5)).off + 4, none⟩) = some (.slice Bs m ds) := fun x => (Below.cell x.h (show (⟨(bd.add (k * 5)).block, (bd.add (k * 5)).off + 4, none⟩ : Addr).block < wr.heap.size from by first | exact hb3 | (rw [add_block]; exact hb3))).trans b4
      clear a0 a1 a2 a3 a4 b0 b1 b2 b3 b4
      refine region_float [0, 1, 4, 5] [2, 3, 6, 7] [8, 9] [10, 11] (by kernel_rfl) (by kernel_rfl) (fun _ _ _ _ _ h => h) ?_
      simp only [pick, List.map_cons, List.map_nil, List.getD_cons_zero, List.getD_cons_succ, List.drop_succ_cons, List.drop_zero]
      repeat (go_big_quiet_step (fail))
      refine wpQuiet_nil ?_
      repeat (go_big_quiet_step (fail))
      refine wpQuiet_nil ⟨rfl, ?_⟩
      refine laneO_told (newT wr.heap.size 32 [.int .i64 0, .int .i64 0, .bool false, .string ⟨#[]⟩, .slice none 0 0]) (newT_steady _ _ _) (by kernel_rfl) rfl (fun w hw => .inl ⟨by rfl, ?_⟩) ?_
      focus (unfold gives; simp [go_sem]; exact newT_new wr.heap.size 32 #[.int .i64 0, .int .i64 0, .bool false, .string ⟨#[]⟩, .slice none 0 0] w hw.size)
      refine laneO_told (newT wr.heap.size 32 [.int .i64 0, .int .i64 0, .bool false, .string ⟨#[]⟩, .slice none 0 0]) (newT_steady _ _ _) (by kernel_rfl) rfl (fun w hw => .inl ⟨by rfl, ?_⟩) ?_
      focus (unfold gives; simp [go_sem]; exact newT_new wr.heap.size 32 #[.int .i64 0, .int .i64 0, .bool false, .string ⟨#[]⟩, .slice none 0 0] w hw.size)
      refine laneO_tail (by simp) (by rfl) rfl rfl fun w1 hb1 => ?_
      rintro x ⟨gb, rfl, hgb, hWb⟩ y ⟨ga, rfl, hga, hWa⟩
      simp only [Act.put, List.setIfInBounds_toArray, List.set_cons_zero, List.set_cons_succ, fillAll]
      clear ya0 ya1 ya2 ya3 ya4 yb0 yb1 yb2 yb3 yb4
      have ZA := Lib.hid hWa
      have ZB := Lib.hid hWb
      have B1 := Lib.hid (show Below wr.heap.size wr w1 from hb1)
      clear hWa hWb hb1
      refine tail_step (by rfl) fun K hK => ?_
      refine wp_store_row 32 (.tmp 6) (.tmp 22) rfl ga #[.int .i64 z0, .int .i64 z1, .bool z2, .string z3, .slice As m cs] rfl rfl 32 #[.int .i64 0, .int .i64 0, .bool false, .string ⟨#[]⟩, .slice none 0 0] ZA.out (by kernel_rfl) rfl (by simp [Value.oneCell']) ?_
      have Z2 := Lib.hid (setRow_heap w1 ga _ #[.int .i64 z0, .int .i64 z1, .bool z2, .string z3, .slice As m cs] _ _ ZA.out)
      have O2 : Hid (Only [ga] w1 (w1.setRow ga #[.int .i64 z0, .int .i64 z1, .bool z2, .string z3, .slice As m cs])) := Lib.hid ⟨rfl, rfl, rfl, by simp, fun k _ hk => setRow_other w1 ga k _ (by simpa using hk)⟩
      have B2 := Lib.hid (B1.out.trans (O2.out.below (by simp; omega) B1.out.size))
      have ZB2 : Hid (∃ old : List Value, old.length = 5 ∧ Whole (w1.setRow ga #[.int .i64 z0, .int .i64 z1, .bool z2, .string z3, .slice As m cs]) gb 32 old) := Lib.hid (by
        by_cases e : gb = ga
        · subst e; exact ⟨_, rfl, (show Whole _ _ _ [.int .i64 z0, .int .i64 z1, .bool z2, .string z3, .slice As m cs] from Z2.out)⟩
        · exact ⟨_, rfl, O2.out.whole ZB.out (by simp; exact e)⟩)
      refine hK _ _ B2.out ?_
      clear hK K
      generalize w1.setRow ga _ = w2 at *
      obtain ⟨old, hold, hZB⟩ := ZB2.out
      refine tail_step (by rfl) fun K hK => ?_
      refine wp_store_row 32 (.tmp 7) (.tmp 26) rfl gb #[.int .i64 z0, .int .i64 z1, .bool z2, .string z3, .slice Bs m ds] rfl rfl 32 old.toArray hZB (by kernel_rfl) (by simp [hold]) (by simp [Value.oneCell']) ?_
      have Z3 := Lib.hid (show Whole _ gb 32 [.int .i64 z0, .int .i64 z1, .bool z2, .string z3, .slice Bs m ds] from setRow_heap w2 gb _ #[.int .i64 z0, .int .i64 z1, .bool z2, .string z3, .slice Bs m ds] _ _ hZB)
      have O3 : Hid (Only [gb] w2 (w2.setRow gb #[.int .i64 z0, .int .i64 z1, .bool z2, .string z3, .slice Bs m ds])) := Lib.hid ⟨rfl, rfl, rfl, by simp, fun k _ hk => setRow_other w2 gb k _ (by simpa using hk)⟩
      have B3 := Lib.hid (B2.out.trans (O3.out.below (by simp; omega) B2.out.size))
      have ZA3 : Hid (∃ sv, (sv = .slice As m cs ∨ sv = .slice Bs m ds) ∧ Whole (w2.setRow gb #[.int .i64 z0, .int .i64 z1, .bool z2, .string z3, .slice Bs m ds]) ga 32 [.int .i64 z0, .int .i64 z1, .bool z2, .string z3, sv]) := Lib.hid (by
        by_cases e : ga = gb
        · subst e; exact ⟨_, .inr rfl, Z3.out⟩
        · exact ⟨_, .inl rfl, O3.out.whole (show Whole _ ga 32 [.int .i64 z0, .int .i64 z1, .bool z2, .string z3, .slice As m cs] from Z2.out) (by simp; exact e)⟩)
      refine hK _ _ B3.out ?_
      clear hK K
      refine tail_end ?_
      generalize w2.setRow gb _ = w3 at *
      obtain ⟨sv, hsv, hZA⟩ := ZA3.out
      have ZA3 := Lib.hid hZA
      clear hZA hZB
      have p0 : w3.cell? ⟨ga, 0, none⟩ = some (.int .i64 z0) := ZA3.out.cell 0
      have p1 : w3.cell? ⟨ga, 1, none⟩ = some (.int .i64 z1) := ZA3.out.cell 1
      have p2 : w3.cell? ⟨ga, 2, none⟩ = some (.bool z2) := ZA3.out.cell 2
      have p3 : w3.cell? ⟨ga, 3, none⟩ = some (.string z3) := ZA3.out.cell 3
      have p4 : w3.cell? ⟨ga, 4, none⟩ = some sv := ZA3.out.cell 4
      have q0 : w3.cell? ⟨gb, 0, none⟩ = some (.int .i64 z0) := Z3.out.cell 0
      have q1 : w3.cell? ⟨gb, 1, none⟩ = some (.int .i64 z1) := Z3.out.cell 1
      have q2 : w3.cell? ⟨gb, 2, none⟩ = some (.bool z2) := Z3.out.cell 2
      have q3 : w3.cell? ⟨gb, 3, none⟩ = some (.string z3) := Z3.out.cell 3
      have q4 : w3.cell? ⟨gb, 4, none⟩ = some (.slice Bs m ds) := Z3.out.cell 4
      have D3 : Hid (Calls Tryz.prog 44 #[sv, .slice Bs m ds] w3 fun e w' => e = .returned (.bool true) ∧ Below w3.heap.size w3 w') := Lib.hid (by
        rcases hsv with rfl | rfl
        · exact DS.out w3 B3.out
        · exact DS2.out w3 B3.out)
      go_wp2_with fail
      refine D3.out.mono ?_
      rintro e w4 ⟨rfl, hb4⟩
      have B4 := Lib.hid (hb.out.trans ((B3.out.trans (hb4.mono B3.out.size)).mono hb.out.size))
      clear hb4 DS D3 p0 p1 p2 p3 p4 q0 q1 q2 q3 q4 ZA3 Z3
      go_wp2_with fail
      go_roundw
      case rel => exact ⟨k + 1, by omega, by go_num, B4⟩
      case measure => simp [intOf]; omega
    · go_wp2_with fail
      go_ret
      exact ⟨rfl, hb.out⟩
end Go.Proofs.YtbhdpfacfgldiaaGreatDoor
/- quoinref6.New; plain nodes (elements without declarations) as rows. -/
namespace Go.Proofs.YtbhdpfacfgldiaaGreatDoor
open Go Go.RowKit
set_option linter.unusedVariables false
set_option linter.unusedSimpArgs false
set_option maxRecDepth 20000
set_option maxHeartbeats 4000000

theorem own_lit6 (w : World) (e : TypeId) (size : Nat) (cs : Array Value) (h : cs.size = size) : (w.alloc (.cells cs e)).ownsRow w.heap.size e size (.slice (some ⟨w.heap.size, 0, none⟩) 1 1) 1 cs.toList := by
  refine ⟨by simp [h], .inr ⟨w.heap.size, 1, cs, rfl, Nat.le_refl _, heap_alloc_new w _, Nat.le_refl _, by decide, by simp [h], ?_⟩⟩
  rw [List.take_of_length_le (by simp [h])]
abbrev noS : Value := .slice none 0 0
def plC (l : List Nd) : List Value := rowsC l (l.map fun _ => noS)
theorem plC_append (l : List Nd) (n : Nd) : plC (l ++ [n]) = plC l ++ nodeC n noS := by
  unfold plC
  rw [List.map_append]
  exact rowsC_append l _ (by rw [List.length_map]) n noS
theorem noS_own (w : World) (lo : Nat) : StyOwn w lo noS [] := ⟨none, 0, rfl, ⟨rfl, .inl ⟨rfl, rfl⟩⟩, by decide⟩
/-- A row of plain nodes of its own. -/
def PlOwn (w : World) (lo : Nat) (A : Option Addr) (n c : Nat) (l : List Nd) : Prop := w.ownsRow lo 32 5 (.slice A n c) n (plC l)
theorem PlOwn.see {w : World} {lo n c : Nat} {A : Option Addr} {l : List Nd} (h : PlOwn w lo A n c l) (hn : l.length = n) (hs : ∀ x ∈ l, x.sty = []) (hl : n ≤ 1000000) : NodesSee w (.slice A n c) l := by
  subst hn
  refine ⟨A, c, l.map fun _ => noS, rfl, by rw [List.length_map], hl, row_of_own h, fun k hk h2 => ?_⟩
  rw [List.getElem_map, hs _ (List.getElem_mem hk)]
  exact (noS_own w 0).at_
theorem PlOwn.low {w : World} {lo n c : Nat} {A : Option Addr} {l : List Nd} (h : PlOwn w lo A n c l) (hn : l.length = n) (hs : ∀ x ∈ l, x.sty = [] ∧ x.dat.size = 0 ∧ 0 ≤ x.id + 1 ∧ x.id ≤ 1000000 ∧ 0 ≤ x.par + 1 ∧ x.par ≤ 1000000) (hl : n ≤ 1000000) : NodesLow w w.heap.size A l (l.map fun _ => noS) := by
  refine ⟨by rw [List.length_map], row_of_own h, fun k hk => ?_, fun x hx => ?_, by omega⟩
  · rw [List.getElem_map, (hs _ (List.getElem_mem hk)).1]
    exact ⟨none, 0, rfl, Row.nil _ _ _, by decide, fun _ => rfl⟩
  · obtain ⟨h1, h2, h3, h4, h5, h6⟩ := hs x hx
    unfold In64i
    omega
theorem rtree_flat : FlatT Tryz.prog 40 2 := ⟨⟨_, Tryz.underlying40, rfl⟩, by kernel_rfl⟩
theorem rnew_any (most : Int) (W : World) : Calls Tryz.prog 27 #[.int .i64 most] W fun e w' => ∃ g, e = .returned (.agg #[.int .i64 (mostZ most), .slice (some ⟨g, 0, none⟩) 1 1]) ∧ PlOwn w' W.heap.size (some ⟨g, 0, none⟩) 1 1 [root0] ∧ Below W.heap.size W w' := by
  have E := Lib.hid (show min (max most 1) 500 = (mostZ most : Int) by unfold mostZ; omega)
  go_enter Tryz.func27, Tryz.ntmps27
  go_wp2_with fail
  rw [E.out]
  refine cells_end (n := 2) rtree_flat rfl W.heap.size rfl [.int .i64 (mostZ most), .slice (some ⟨W.heap.size + 1, 0, none⟩) 1 1] rfl 40 ?_ rfl ⟨W.heap.size + 1, rfl, ?_, ?_⟩
  · exact (Whole.mk W 40 #[.int .i64 (mostZ most), .slice (some ⟨W.heap.size + 1, 0, none⟩) 1 1]).made _
  · have := own_lit6 (W.alloc (.cells #[.int .i64 (mostZ most), .slice (some ⟨W.heap.size + 1, 0, none⟩) 1 1] 40)) 32 5 #[.int .i64 0, .int .i64 (-1), .bool false, .string ⟨#[]⟩, .slice none 0 0] rfl
    have hz : (W.alloc (.cells #[.int .i64 (mostZ most), .slice (some ⟨W.heap.size + 1, 0, none⟩) 1 1] 40)).heap.size = W.heap.size + 1 := by simp
    rw [hz] at this
    exact own_mono this (Nat.le_succ _)
  · exact ((Below.refl _ _).alloc (Nat.le_refl _) _).alloc (by simp) _
end Go.Proofs.YtbhdpfacfgldiaaGreatDoor
/- quoinref6: Find, Parent, Kids, Below, Deep of a list that reads as L. -/
namespace Go.Proofs.YtbhdpfacfgldiaaGreatDoor
open Go Go.RowKit
set_option linter.unusedVariables false
set_option linter.unusedSimpArgs false
set_option maxRecDepth 20000
set_option maxHeartbeats 4000000

def findZ (L : List Nd) (id : Int) : Int := if hasZ L id = true then (rkZ L id : Int) else -1
theorem find_hit {L : List Nd} {id : Int} {k : Nat} (hk : k < L.length) (he : L[k].id = id) (hj : ∀ j (h : j < k), (L[j]'(by omega)).id ≠ id) : findZ L id = k := by
  unfold findZ
  rw [if_pos (has_iff.2 ⟨L[k], List.getElem_mem hk, he⟩)]
  congr 1
  unfold rkZ
  refine (List.findIdx_eq hk).2 ⟨by simp [he], fun j h => ?_⟩
  simp [hj j h]
theorem find_miss {L : List Nd} {id : Int} (h : ∀ j (hj : j < L.length), L[j].id ≠ id) : findZ L id = -1 := by
  unfold findZ
  rw [if_neg]
  intro hc
  obtain ⟨n, hn, e⟩ := has_iff.1 hc
  obtain ⟨i, hi, ei⟩ := List.mem_iff_getElem.1 hn
  exact h i hi (by rw [ei]; exact e)
theorem find_get {L : List Nd} {id : Int} (h : hasZ L id = true) : ∃ (hk : rkZ L id < L.length), L[rkZ L id].id = id ∧ atZ L id = some L[rkZ L id] := by
  obtain ⟨n, hn, e⟩ := has_iff.1 h
  have hk : rkZ L id < L.length := List.findIdx_lt_length_of_exists ⟨n, hn, by simp [e]⟩
  have h1 : (L[rkZ L id].id == id) = true := List.findIdx_getElem (xs := L) (p := fun (n : Nd) => n.id == id) (w := hk)
  refine ⟨hk, by simpa using h1, ?_⟩
  unfold atZ
  have h2 := List.find?_eq_some_iff_getElem (p := fun (n : Nd) => n.id == id) (b := L[rkZ L id]) (xs := L)
  refine h2.2 ⟨h1, rkZ L id, hk, rfl, fun j hj => ?_⟩
  have := List.not_of_lt_findIdx (p := fun (n : Nd) => n.id == id) (xs := L) (i := j) hj
  simpa using this
theorem find_neg {L : List Nd} {id : Int} : (findZ L id < 0) ↔ hasZ L id = false := by
  unfold findZ
  cases hasZ L id
  · simp
  · simp
theorem nodes_see_behind {w w' : World} {v : Value} {l : List Nd} (h : NodesSee w v l) (hb : Below w.heap.size w w') : NodesSee w' v l := by
  obtain ⟨A, c, svs, e, h1, h2, h3, h4⟩ := h
  exact ⟨A, c, svs, e, h1, h2, (h3.below hb).more hb.size, fun k hk hk2 => (h4 k hk hk2).below hb⟩
abbrev r6V (m : Int) (v : Value) : Value := .agg #[.int .i64 m, v]
theorem rfind_any (m : Int) (v : Value) (L : List Nd) (id : Int) (W : World) (h : NodesSee W v L) :
    Calls Tryz.prog 17 #[r6V m v, .int .i64 id] W fun e w' => e = .returned (.int .i64 (findZ L id)) ∧ Below W.heap.size W w' := by
  obtain ⟨A, c, svs, rfl, hs, hl, hR, -⟩ := h
  have HR := Lib.hid (hR.below ((Below.refl W.heap.size W).alloc (Nat.le_refl _) (.cells #[.int .i64 m, .slice A L.length c] 40)))
  have B0 := Lib.hid ((Below.refl W.heap.size W).alloc (Nat.le_refl _) (.cells #[.int .i64 m, .slice A L.length c] 40))
  have X0 := Lib.hid (Whole.mk W 40 #[.int .i64 m, .slice A L.length c])
  have HS := Lib.hid hs
  clear hR hs
  go_enter Tryz.func17, Tryz.ntmps17
  go_upto_region 2 with fail
  generalize W.alloc _ = w1 at *
  have x1 : w1.cell? ⟨W.heap.size, 1, none⟩ = some (.slice A L.length c) := X0.out.cell 1
  have HM := Lib.hid (find_miss (L := L) (id := id))
  have HH := Lib.hid (fun k hk he hj => find_hit (L := L) (id := id) (k := k) hk he hj)
  go_loopw [5] (fun v5 wr => ∃ k : Nat, k ≤ L.length ∧ v5 = .int .i64 k ∧ wr = w1 ∧ Hid (∀ j (hj : j < k) (hj2 : j < L.length), L[j].id ≠ id)) (fun v5 _ => L.length - (intOf v5).toNat)
  case atStart => exact ⟨0, Nat.zero_le _, rfl, rfl, Lib.hid fun j hj => absurd hj (by omega)⟩
  case round =>
    obtain ⟨k, hk, rfl, rfl, HN⟩ := hrel
    by_cases hlt : k < L.length
    · have hki : (k : Int) < L.length := by omega
      obtain ⟨ad, rfl, -, c0, -⟩ := HR.out.ndr HS.out hlt (by rw [HS.out]; exact hlt)
      by_cases he : L[k].id = id
      · have hb : (L[k].id == id) = true := by rw [beq_iff_eq]; exact he
        have e := HH.out k hlt he (fun j hj => HN.out j hj (by omega))
        go_wp2_with fail
        go_ret
        exact ⟨ret_int (by first | exact e.symm | rfl), B0.out⟩
      · have hb : (L[k].id == id) = false := by rw [beq_eq_false_iff_ne]; exact he
        have HN2 : Hid (∀ j (hj : j < k + 1) (hj2 : j < L.length), L[j].id ≠ id) := Lib.hid fun j hj hj2 => by
          rcases Nat.lt_or_ge j k with h | h
          · exact HN.out j h hj2
          · have : j = k := by omega
            subst this; exact he
        clear HN
        go_wp2_with fail
        go_roundw
        case rel => exact ⟨k + 1, by omega, by go_num, by first | rfl | trivial, HN2⟩
        case measure => simp [intOf]; omega
    · have hq : k = L.length := by omega
      have hki : ¬ (k : Int) < L.length := by omega
      have e := HM.out (fun j hj => HN.out j (by omega) hj)
      go_wp2_with fail
      go_ret
      exact ⟨ret_int (by first | exact e.symm | rfl), B0.out⟩
theorem rparent_any (m : Int) (v : Value) (L : List Nd) (id : Int) (W : World) (h : NodesSee W v L) :
    Calls Tryz.prog 20 #[r6V m v, .int .i64 id] W fun e w' => e = .returned (.int .i64 (parZ L id)) ∧ Below W.heap.size W w' := by
  obtain ⟨A, c, svs, rfl, hs, hl, hR, hst⟩ := h
  have hB := (Below.refl W.heap.size W).alloc (Nat.le_refl _) (.cells #[.int .i64 m, .slice A L.length c] 40)
  have hN : NodesSee W (.slice A L.length c) L := ⟨A, c, svs, rfl, hs, hl, hR, hst⟩
  have F := Lib.hid (rfind_any m _ L id _ (nodes_see_behind hN hB))
  have HR := Lib.hid hR
  have B0 := Lib.hid hB
  have X0 := Lib.hid (Whole.mk W 40 #[.int .i64 m, .slice A L.length c])
  have HS := Lib.hid hs
  clear hR hs hst hN hB
  go_enter Tryz.func20, Tryz.ntmps20
  go_upto_region 1 with fail
  generalize W.alloc _ = w1 at *
  have x0 : w1.cell? ⟨W.heap.size, 0, none⟩ = some (.int .i64 m) := X0.out.cell 0
  have x1 : w1.cell? ⟨W.heap.size, 1, none⟩ = some (.slice A L.length c) := X0.out.cell 1
  go_wp2_with fail
  refine F.out.mono ?_
  rintro e w2 ⟨rfl, hb⟩
  have B2 := Lib.hid (B0.out.trans (hb.mono B0.out.size))
  have x2 : w2.cell? ⟨W.heap.size, 1, none⟩ = some (.slice A L.length c) := (X0.out.under hb X0.out.size).cell 1
  clear hb F x0 x1 X0 B0
  cases hh : hasZ L id
  · have e : findZ L id = -1 := by unfold findZ; rw [hh, if_neg (by decide)]
    have ep : parZ L id = -1 := par_no hh
    rw [e]
    clear x2
    go_wp2_with fail
    go_ret
    exact ⟨ret_int (by first | exact ep.symm | rfl), B2.out⟩
  · obtain ⟨hk, h1, h2⟩ := find_get hh
    have e : findZ L id = (rkZ L id : Int) := by unfold findZ; rw [hh, if_pos rfl]
    have ep : parZ L id = L[rkZ L id].par := by unfold parZ; rw [h2]
    rw [e]
    obtain ⟨ad, rfl, -, -, c1, -⟩ := (HR.out.below B2.out).ndr HS.out hk (by rw [HS.out]; exact hk)
    have hki : (rkZ L id : Int) < L.length := by omega
    have EP := Lib.hid ep
    clear ep e h1 h2
    generalize rkZ L id = k at *
    go_wp2_with fail
    go_ret
    exact ⟨ret_int (by first | exact EP.out.symm | rfl), B2.out⟩
end Go.Proofs.YtbhdpfacfgldiaaGreatDoor
/- quoinref6: Below, Deep, Kids of a list that reads as L. -/
namespace Go.Proofs.YtbhdpfacfgldiaaGreatDoor
open Go Go.RowKit
set_option linter.unusedVariables false
set_option linter.unusedSimpArgs false
set_option maxRecDepth 20000
set_option maxHeartbeats 4000000

theorem find_yes {L : List Nd} {id : Int} (h : hasZ L id = true) : ∃ a : Nat, findZ L id = a := ⟨rkZ L id, by unfold findZ; rw [if_pos h]⟩
theorem find_no {L : List Nd} {id : Int} (h : hasZ L id = false) : findZ L id = -1 := by unfold findZ; rw [if_neg (by rw [h]; decide)]
theorem TreeOk.below_out {L : List Nd} (hOK : TreeOk L) {id of_ : Int} (h : hasZ L id = false) : belowZ L id of_ = false := by
  cases ho : hasZ L of_
  · unfold belowZ; rw [ho]; rfl
  · have hne : id ≠ of_ := fun e => by subst e; rw [h] at ho; cases ho
    rw [hOK.below_step ho hne, par_no h]
    exact hOK.below_nobody ho
theorem NodesSee.tmp {W : World} {v : Value} {L : List Nd} (h : NodesSee W v L) (o : Obj) : NodesSee (W.alloc o) v L := nodes_see_behind h ((Below.refl _ _).alloc (Nat.le_refl _) o)
theorem NodesSee.one {W : World} {v : Value} {L : List Nd} (h : NodesSee W v L) : ∃ A c, v = .slice A L.length c := by obtain ⟨A, c, svs, e, -⟩ := h; exact ⟨A, c, e⟩
theorem rbelow_any (m : Int) (v : Value) (L : List Nd) (id of_ : Int) (W : World) (hOK : TreeOk L) (h : NodesSee W v L) :
    Calls Tryz.prog 22 #[r6V m v, .int .i64 id, .int .i64 of_] W fun e w' => e = .returned (.bool (belowZ L id of_)) ∧ Below W.heap.size W w' := by
  have OK := Lib.hid hOK
  have B0 := Lib.hid ((Below.refl W.heap.size W).alloc (Nat.le_refl _) (.cells #[.int .i64 m, v] 40))
  have S0 := Lib.hid (h.tmp (.cells #[.int .i64 m, v] 40))
  have X0 := Lib.hid (Whole.mk W 40 #[.int .i64 m, v])
  obtain ⟨A, c, rfl⟩ := h.one
  have FI := Lib.hid (fun w (hs : NodesSee w (.slice A L.length c) L) (x : Int) => rfind_any m _ L x w hs)
  have PA := Lib.hid (fun w (hs : NodesSee w (.slice A L.length c) L) (x : Int) => rparent_any m _ L x w hs)
  clear hOK h
  go_enter Tryz.func22, Tryz.ntmps22
  go_upto_region 1 with fail
  generalize W.alloc _ = w1 at *
  have x0 : w1.cell? ⟨W.heap.size, 0, none⟩ = some (.int .i64 m) := X0.out.cell 0
  have x1 : w1.cell? ⟨W.heap.size, 1, none⟩ = some (.slice A L.length c) := X0.out.cell 1
  go_wp2_with fail
  refine (FI.out _ S0.out id).mono ?_
  rintro e w2 ⟨rfl, hb⟩
  have B2 := Lib.hid (B0.out.trans (hb.mono B0.out.size))
  have S2 := Lib.hid (nodes_see_behind S0.out hb)
  have X2 := Lib.hid (X0.out.under hb X0.out.size)
  clear hb B0 S0 X0 x0 x1
  have x0 : w2.cell? ⟨W.heap.size, 0, none⟩ = some (.int .i64 m) := X2.out.cell 0
  have x1 : w2.cell? ⟨W.heap.size, 1, none⟩ = some (.slice A L.length c) := X2.out.cell 1
  cases hi : hasZ L id
  · have e := OK.out.below_out (of_ := of_) hi
    rw [find_no hi]
    go_wp2_with fail
    go_ret
    exact ⟨ret_bool (by first | exact e.symm | rfl), B2.out⟩
  obtain ⟨a, ha⟩ := find_yes hi
  rw [ha]
  clear ha
  go_wp2_with fail
  refine (FI.out _ S2.out of_).mono ?_
  rintro e w3 ⟨rfl, hb⟩
  have B3 := Lib.hid (B2.out.trans (hb.mono B2.out.size))
  have S3 := Lib.hid (nodes_see_behind S2.out hb)
  have X3 := Lib.hid (X2.out.under hb X2.out.size)
  clear hb B2 S2 X2 x0 x1
  cases ho : hasZ L of_
  · have e : belowZ L id of_ = false := by unfold belowZ; rw [ho]; rfl
    rw [find_no ho]
    go_wp2_with fail
    go_ret
    exact ⟨ret_bool (by first | exact e.symm | rfl), B3.out⟩
  obtain ⟨b, hb⟩ := find_yes ho
  rw [hb]
  clear hb
  have h0 : 0 ≤ of_ := by
    obtain ⟨n, hn, e⟩ := has_iff.1 ho
    have := OK.out.rng n hn
    omega
  have HO := Lib.hid ho
  clear ho hi FI
  go_upto_region 3 with fail
  go_loopw [1] (fun v1 wr => ∃ x : Int, v1 = .int .i64 x ∧ Hid (belowZ L x of_ = belowZ L id of_) ∧ Hid (Below W.heap.size W wr) ∧ Hid (NodesSee wr (.slice A L.length c) L) ∧ Hid (Whole wr W.heap.size 40 [.int .i64 m, .slice A L.length c])) (fun v1 _ => upZ L (intOf v1))
  case atStart => exact ⟨id, rfl, Lib.hid rfl, B3, S3, X3⟩
  case round =>
    clear B3 S3 X3
    obtain ⟨x, rfl, hb, B, S, X⟩ := hrel
    by_cases hx : 0 ≤ x
    · by_cases h1 : x = of_
      · subst h1
        have e : belowZ L id x = true := by rw [← hb.out]; exact below_self HO.out
        go_wp2_with fail
        go_ret
        exact ⟨ret_bool (by first | exact e.symm | rfl), B.out⟩
      · have b1 : (x == of_) = false := by rw [beq_eq_false_iff_ne]; exact h1
        have hb2 := Lib.hid ((OK.out.below_step HO.out h1).symm.trans hb.out)
        have hm := Lib.hid (OK.out.up_less (x := x) (by omega))
        have x0 : wr.cell? ⟨W.heap.size, 0, none⟩ = some (.int .i64 m) := X.out.cell 0
        have x1 : wr.cell? ⟨W.heap.size, 1, none⟩ = some (.slice A L.length c) := X.out.cell 1
        go_wp2_with fail
        refine (PA.out _ S.out x).mono ?_
        rintro e w4 ⟨rfl, hbb⟩
        have B4 := Lib.hid (B.out.trans (hbb.mono B.out.size))
        have S4 := Lib.hid (nodes_see_behind S.out hbb)
        have X4 := Lib.hid (X.out.under hbb X.out.size)
        clear hbb B S X x0 x1
        go_wp2_with fail
        go_roundw
        case rel => exact ⟨_, rfl, hb2, B4, S4, X4⟩
        case measure => simpa [intOf] using hm.out
    · have e : belowZ L id of_ = false := by rw [← hb.out]; exact OK.out.below_out (OK.out.not_nobody (by omega))
      go_wp2_with fail
      go_ret
      exact ⟨ret_bool (by first | exact e.symm | rfl), B.out⟩
theorem rdeep_any (m : Int) (v : Value) (L : List Nd) (id : Int) (W : World) (hOK : TreeOk L) (hL : L.length ≤ 1000) (h : NodesSee W v L) :
    Calls Tryz.prog 21 #[r6V m v, .int .i64 id] W fun e w' => e = .returned (.int .i64 (deepZ L id)) ∧ Below W.heap.size W w' := by
  have OK := Lib.hid hOK
  have B0 := Lib.hid ((Below.refl W.heap.size W).alloc (Nat.le_refl _) (.cells #[.int .i64 m, v] 40))
  have S0 := Lib.hid (h.tmp (.cells #[.int .i64 m, v] 40))
  have X0 := Lib.hid (Whole.mk W 40 #[.int .i64 m, v])
  obtain ⟨A, c, rfl⟩ := h.one
  have FI := Lib.hid (fun w (hs : NodesSee w (.slice A L.length c) L) (x : Int) => rfind_any m _ L x w hs)
  have PA := Lib.hid (fun w (hs : NodesSee w (.slice A L.length c) L) (x : Int) => rparent_any m _ L x w hs)
  clear hOK h
  go_enter Tryz.func21, Tryz.ntmps21
  go_upto_region 2 with fail
  generalize W.alloc _ = w1 at *
  go_loopw [1, 5] (fun v1 v5 wr => ∃ (x d : Int), v1 = .int .i64 x ∧ v5 = .int .i64 d ∧ Hid (deepZ L id = d + 1 + deepZ L x) ∧ (-1 ≤ d ∧ d + (if hasZ L x = true then rkZ L x + 1 else 0 : Nat) ≤ 1000) ∧
    Hid (Below W.heap.size W wr) ∧ Hid (NodesSee wr (.slice A L.length c) L) ∧ Hid (Whole wr W.heap.size 40 [.int .i64 m, .slice A L.length c])) (fun v1 _ _ => upZ L (intOf v1))
  case atStart =>
    refine ⟨id, -1, rfl, rfl, Lib.hid (by omega), ⟨by omega, ?_⟩, B0, S0, X0⟩
    split
    · rename_i hh
      have := (OK.out.step hh).1
      omega
    · omega
  case round =>
    clear B0 S0 X0
    obtain ⟨x, d, rfl, rfl, hd, ⟨hd1, hd2⟩, B, S, X⟩ := hrel
    have x0 : wr.cell? ⟨W.heap.size, 0, none⟩ = some (.int .i64 m) := X.out.cell 0
    have x1 : wr.cell? ⟨W.heap.size, 1, none⟩ = some (.slice A L.length c) := X.out.cell 1
    by_cases hh : hasZ L x = true
    · obtain ⟨a, ha⟩ := find_yes hh
      have F1 := Lib.hid (FI.out wr S.out x)
      rw [ha] at F1
      rw [if_pos hh] at hd2
      have hne : x ≠ -1 := fun e => by subst e; rw [OK.out.not_nobody (by omega)] at hh; cases hh
      have hs := OK.out.step hh
      have hd3 := Lib.hid (show deepZ L id = d + 1 + 1 + deepZ L (parZ L x) by rw [hd.out, OK.out.deep_has hh]; omega)
      have hm := Lib.hid (OK.out.up_less hne)
      have hd4 := Lib.hid (show -1 ≤ d + 1 ∧ d + 1 + (if hasZ L (parZ L x) = true then rkZ L (parZ L x) + 1 else 0 : Nat) ≤ 1000 by
        refine ⟨by omega, ?_⟩
        rcases hs.2 with ⟨e1, e2⟩ | ⟨e1, e2⟩
        · rw [e2, if_neg (by rw [OK.out.not_nobody (by omega)]; decide)]; omega
        · rw [if_pos e1]; omega)
      have hd5 : d ≤ 1000 := by omega
      clear hs hh hd2 ha
      go_wp2_with fail
      refine F1.out.mono ?_
      rintro e w2 ⟨rfl, hb⟩
      have B2 := Lib.hid (B.out.trans (hb.mono B.out.size))
      have S2 := Lib.hid (nodes_see_behind S.out hb)
      have X2 := Lib.hid (X.out.under hb X.out.size)
      clear hb B S X x0 x1
      have x0 : w2.cell? ⟨W.heap.size, 0, none⟩ = some (.int .i64 m) := X2.out.cell 0
      have x1 : w2.cell? ⟨W.heap.size, 1, none⟩ = some (.slice A L.length c) := X2.out.cell 1
      go_wp2_with fail
      refine (PA.out _ S2.out x).mono ?_
      rintro e w3 ⟨rfl, hb⟩
      have B3 := Lib.hid (B2.out.trans (hb.mono B2.out.size))
      have S3 := Lib.hid (nodes_see_behind S2.out hb)
      have X3 := Lib.hid (X2.out.under hb X2.out.size)
      clear hb B2 S2 X2 x0 x1
      go_wp2_with fail
      go_roundw
      case rel => exact ⟨_, _, rfl, rfl, hd3, hd4.out, B3, S3, X3⟩
      case measure => simpa [intOf] using hm.out
    · have hh : hasZ L x = false := by simpa using hh
      have F1 := Lib.hid (FI.out wr S.out x)
      rw [find_no hh] at F1
      have e : deepZ L id = d := by rw [hd.out, deep_no hh]; omega
      clear hd2
      go_wp2_with fail
      refine F1.out.mono ?_
      rintro e w2 ⟨rfl, hb⟩
      have B2 := Lib.hid (B.out.trans (hb.mono B.out.size))
      go_wp2_with fail
      go_ret
      exact ⟨ret_int (by first | exact e.symm | rfl), B2.out⟩
theorem intInfo6 : (Tryz.prog.info? 3).map (fun i => (i.zero, i.size, i.bytes)) = some (some (.int .i64 0), 1, 8) := by kernel_rfl
theorem kids_step (L : List Nd) (id : Int) (k : Nat) (h0 : 0 < k) (hk : k < L.length) : kidsZ (L.take (k + 1)) id = if L[k].par = id then kidsZ (L.take k) id ++ [L[k].id] else kidsZ (L.take k) id := by
  have hne : L.take k ≠ [] := fun e => by
    have h3 : (L.take k).length = 0 := by rw [e]; rfl
    rw [List.length_take] at h3; omega
  rw [List.take_succ_eq_append_getElem hk, kids_append _ _ _ hne]
  by_cases h : L[k].par = id
  · rw [if_pos h, if_pos h.symm]
  · rw [if_neg h, if_neg (fun e => h e.symm)]
theorem rkids_any (m : Int) (v : Value) (L : List Nd) (id : Int) (W : World) (h : NodesSee W v L) (hL : L.length ≤ 1000) :
    Calls Tryz.prog 24 #[r6V m v, .int .i64 id] W fun e w' => ∃ v', e = .returned v' ∧ IdsOwn w' W.heap.size v' (kidsZ L id) ∧ Below W.heap.size W w' := by
  obtain ⟨A, c, svs, rfl, hs, hl, hR, -⟩ := h
  have HR := Lib.hid (hR.below ((Below.refl W.heap.size W).alloc (Nat.le_refl _) (.cells #[.int .i64 m, .slice A L.length c] 40)))
  have B0 := Lib.hid ((Below.refl W.heap.size W).alloc (Nat.le_refl _) (.cells #[.int .i64 m, .slice A L.length c] 40))
  have X0 := Lib.hid (Whole.mk W 40 #[.int .i64 m, .slice A L.length c])
  have HS := Lib.hid hs
  clear hR hs
  go_enter Tryz.func24, Tryz.ntmps24
  go_upto_region 3 with fail
  have hw1 : W.heap.size + 1 = (W.alloc (.cells #[.int .i64 m, .slice A L.length c] 40)).heap.size := by simp
  generalize W.alloc _ = w1 at *
  go_loopw [5, 6] (fun v5 v6 wr => ∃ (A1 : Option Addr) (c1 k n : Nat), 1 ≤ k ∧ v5 = .slice A1 n c1 ∧ v6 = .int .i64 k ∧ Hid (n = (kidsZ (L.take k) id).length) ∧ n ≤ k ∧ (k ≤ L.length ∨ k = 1) ∧ Hid (wr.ownsRow w1.heap.size 3 1 (.slice A1 n c1) n (idC (kidsZ (L.take k) id))) ∧ Hid (Below w1.heap.size w1 wr)) (fun _ v6 _ => (L.length + 1) - (intOf v6).toNat)
  case atStart =>
    have e : kidsZ (L.take 1) id = [] := by cases L <;> rfl
    exact ⟨none, 0, 1, 0, Nat.le_refl _, rfl, rfl, Lib.hid (by rw [e]; rfl), Nat.zero_le _, .inr rfl, Lib.hid (by rw [e]; exact ⟨rfl, .inl ⟨rfl, rfl⟩⟩), Lib.hid (Below.refl _ _)⟩
  case round =>
    obtain ⟨A1, c1, k, n, hk1, rfl, rfl, hn, hnk, hk, HO, HB⟩ := hrel
    have Xr := Lib.hid (X0.out.under HB.out X0.out.size)
    have x1 : wr.cell? ⟨W.heap.size, 1, none⟩ = some (.slice A L.length c) := Xr.out.cell 1
    have hsz := HB.out.size
    by_cases hlt : k < L.length
    · have hki : (k : Int) < L.length := by omega
      obtain ⟨ad, rfl, -, c0, c2, -⟩ := (HR.out.below (HB.out.mono (by omega))).ndr HS.out hlt (by rw [HS.out]; exact hlt)
      have KS := Lib.hid (kids_step L id k (by omega) hlt)
      by_cases he : L[k].par = id
      · have hb : (L[k].par == id) = true := by rw [beq_iff_eq]; exact he
        rw [if_pos he] at KS
        generalize L[k].id = z at *
        generalize L[k].par = z2 at *
        have hal := Lib.hid ((Below.refl wr.heap.size wr).alloc (Nat.le_refl _) (.cells #[.int .i64 z] 3))
        go_wp2_with (at_builtin; refine wpList_pushOne rfl (.tmp 22) (.tmp 29) _ rfl w1.heap.size 3 1 8 (.int .i64 0) Tryz.underlying28 intInfo6 rfl (by decide) n (.slice A1 n c1) _ rfl (own_below HO.out hal.out (Nat.le_refl _)) (by simp; omega) wr.heap.size [.int .i64 z] rfl (Whole.mk wr 3 #[.int .i64 z]) rfl (by simp [Value.oneCell']) (by unfold maxLen; omega) (by omega) ?_; intro A5 c5 w5 h5 ho5 hk5)
        have O5 : Hid (w5.ownsRow w1.heap.size 3 1 (.slice A5 (n + 1) c5) (n + 1) (idC (kidsZ (L.take (k + 1)) id))) := Lib.hid (by rw [KS.out, idC, List.map_append]; exact h5)
        have B5 := Lib.hid (HB.out.trans (Below.trans (hal.out.mono hsz) (ho5.below (fun x hx => ((own_below HO.out hal.out (Nat.le_refl _)).lt x (by simpa using hx)).1) (by simp; omega))))
        have hn5 : Hid (n + 1 = (kidsZ (L.take (k + 1)) id).length) := Lib.hid (by rw [KS.out, List.length_append, ← hn.out]; rfl)
        clear h5 ho5 hk5 HO HB hal KS
        go_wp2_with fail
        go_roundw
        case rel => exact ⟨A5, c5, k + 1, n + 1, by omega, rfl, by go_num, hn5, by omega, .inl (by omega), O5, B5⟩
        case measure => simp [intOf]; omega
      · have hb : (L[k].par == id) = false := by rw [beq_eq_false_iff_ne]; exact he
        rw [if_neg he] at KS
        have HO2 : Hid (wr.ownsRow w1.heap.size 3 1 (.slice A1 n c1) n (idC (kidsZ (L.take (k + 1)) id))) := Lib.hid (by rw [KS.out]; exact HO.out)
        have hn2 : Hid (n = (kidsZ (L.take (k + 1)) id).length) := Lib.hid (by rw [KS.out]; exact hn.out)
        clear KS HO
        go_wp2_with fail
        go_roundw
        case rel => exact ⟨A1, c1, k + 1, n, by omega, rfl, by go_num, hn2, by omega, .inl (by omega), HO2, HB⟩
        case measure => simp [intOf]; omega
    · have hki : ¬ (k : Int) < L.length := by omega
      have e : L.take k = L := List.take_of_length_le (by omega)
      rw [e] at hn HO
      have F := Lib.hid (show IdsOwn wr W.heap.size (.slice A1 n c1) (kidsZ L id) from ⟨A1, c1, by rw [← hn.out], by rw [← hn.out]; exact own_mono HO.out (by omega), by rw [← hn.out]; omega⟩)
      have B := Lib.hid (B0.out.trans (HB.out.mono (by omega)))
      clear HO hn
      go_wp2_with fail
      go_ret
      exact ⟨_, rfl, F.out, B.out⟩
end Go.Proofs.YtbhdpfacfgldiaaGreatDoor
/- quoinref6: where a node's part of the list ends. -/
namespace Go.Proofs.YtbhdpfacfgldiaaGreatDoor
open Go Go.RowKit
set_option linter.unusedVariables false
set_option linter.unusedSimpArgs false
set_option maxRecDepth 20000
set_option maxHeartbeats 4000000

theorem tail_len {L : List Nd} {k : Nat} (q : Nd → Bool) (hk : k < L.length) : ((L.drop k).takeWhile q).length = if q L[k] = true then ((L.drop (k + 1)).takeWhile q).length + 1 else 0 := by
  rw [List.drop_eq_getElem_cons hk]
  cases hq : q L[k]
  · rw [List.takeWhile_cons_of_neg (by rw [hq]; decide), if_neg (by decide)]; rfl
  · rw [List.takeWhile_cons_of_pos hq, if_pos rfl, List.length_cons]
theorem rend_any (m : Int) (v : Value) (L : List Nd) (id : Int) (W : World) (hOK : TreeOk L) (hh : hasZ L id = true) (h : NodesSee W v L) (hL : L.length ≤ 1000) :
    Calls Tryz.prog 50 #[r6V m v, .int .i64 id] W fun e w' => e = .returned (.int .i64 (endZ L id)) ∧ Below W.heap.size W w' := by
  have OK := Lib.hid hOK
  have hrk := (hOK.step hh).1
  have B0 := Lib.hid ((Below.refl W.heap.size W).alloc (Nat.le_refl _) (.cells #[.int .i64 m, v] 40))
  have S0 := Lib.hid (h.tmp (.cells #[.int .i64 m, v] 40))
  have X0 := Lib.hid (Whole.mk W 40 #[.int .i64 m, v])
  obtain ⟨A, c, svs, rfl, hs, hl, hR, hst⟩ := h
  have NS := Lib.hid (fun w (hw : Below W.heap.size W w) => nodes_see_behind (⟨A, c, svs, rfl, hs, hl, hR, hst⟩ : NodesSee W (.slice A L.length c) L) hw)
  have HR := Lib.hid hR
  have HS := Lib.hid hs
  have FI := Lib.hid (rfind_any m _ L id _ S0.out)
  have EF : findZ L id = (rkZ L id : Int) := by unfold findZ; rw [hh, if_pos rfl]
  rw [EF] at FI
  have EZ := Lib.hid (show endZ L id = rkZ L id + 1 + ((L.drop (rkZ L id + 1)).takeWhile fun x => belowZ L x.id id).length from rfl)
  clear hOK hh hR hs hst EF
  generalize endZ L id = E at *
  generalize rkZ L id = k0 at *
  go_enter Tryz.func50, Tryz.ntmps50
  go_upto_region 1 with fail
  generalize W.alloc _ = w1 at *
  have hW.heap.size : W.heap.size < w1.heap.size := X0.out.size
  have x0 : w1.cell? ⟨W.heap.size, 0, none⟩ = some (.int .i64 m) := X0.out.cell 0
  have x1 : w1.cell? ⟨W.heap.size, 1, none⟩ = some (.slice A L.length c) := X0.out.cell 1
  go_wp2_with fail
  refine FI.out.mono ?_
  rintro e w2 ⟨rfl, hb⟩
  have B2 := Lib.hid (B0.out.trans (hb.mono B0.out.size))
  have X2 := Lib.hid (X0.out.under hb X0.out.size)
  clear hb B0 S0 X0 x0 x1 FI
  go_upto_region 2 with fail
  go_loopw [5] (fun v5 wr => ∃ k : Nat, k ≤ L.length ∧ v5 = .int .i64 k ∧ Hid (k + ((L.drop k).takeWhile fun x => belowZ L x.id id).length = E) ∧ Hid (Below W.heap.size W wr) ∧ Hid (Whole wr W.heap.size 40 [.int .i64 m, .slice A L.length c])) (fun v5 _ => L.length - (intOf v5).toNat)
  case atStart => exact ⟨k0 + 1, by omega, by go_num, Lib.hid EZ.out.symm, B2, X2⟩
  case round =>
    clear B2 X2 EZ
    obtain ⟨k, hk, rfl, HE, B, X⟩ := hrel
    have ZT := Lib.hid (fun w (hw : Behind wr w) => X.out.under hw X.out.size)
    have y0 : ∀ t : Later wr.heap.size wr, t.w.cell? ⟨W.heap.size, 0, none⟩ = some (.int .i64 m) := fun t => (ZT.out t.w t.h).cell 0
    have y1 : ∀ t : Later wr.heap.size wr, t.w.cell? ⟨W.heap.size, 1, none⟩ = some (.slice A L.length c) := fun t => (ZT.out t.w t.h).cell 1
    by_cases hlt : k < L.length
    · have hki : (k : Int) < L.length := by omega
      have d1 : decide ((k : Int) < L.length) = true := by rw [decide_eq_true_eq]; exact hki
      have Y : Hid (∀ t : Later wr.heap.size wr, ∃ ad, A = some ad ∧ t.w.cell? (ad.add (k * 5)) = some (.int .i64 L[k].id)) := Lib.hid fun t => by
        obtain ⟨ad, e, -, c0, -⟩ := (HR.out.below (B.out.trans (t.h.mono B.out.size))).ndr HS.out hlt (by rw [HS.out]; exact hlt)
        exact ⟨ad, e, c0⟩
      obtain ⟨ad, hA, -⟩ := Y.out ⟨wr, Below.refl _ _⟩
      subst hA
      have y2 : ∀ t : Later wr.heap.size wr, t.w.cell? (ad.add (k * 5)) = some (.int .i64 L[k].id) := fun t => by
        obtain ⟨ad', e, h⟩ := Y.out t
        injection e with e; subst e; exact h
      have TL := Lib.hid (tail_len (fun x => belowZ L x.id id) hlt)
      clear Y
      obtain ⟨b, hb⟩ : ∃ b, belowZ L L[k].id id = b := ⟨_, rfl⟩
      have BL := Lib.hid (fun w (hw : Behind wr w) => by
        have := rbelow_any m (.slice (some ad) L.length c) L L[k].id id w OK.out (NS.out w (B.out.trans (Below.mono hw B.out.size)))
        rw [hb] at this; exact this)
      have TL2 := Lib.hid (show ((L.drop k).takeWhile fun x => belowZ L x.id id).length = if b = true then ((L.drop (k + 1)).takeWhile fun x => belowZ L x.id id).length + 1 else 0 by rw [TL.out, hb])
      clear TL
      generalize L[k].id = z at *
      go_upto_region 2 with fail
      refine region_lane [] (List.range 15) [15] (by kernel_rfl) (by kernel_rfl) (fun _ _ _ _ _ h => h) ?_
      simp only [pick, List.map_nil]
      refine wpQuiet_nil ⟨rfl, ?_⟩
      rw [show List.range 15 = [0, 1, 2, 3, 4, 5, 6, 7, 8, 9, 10, 11, 12, 13, 14] from rfl]
      simp only [List.map_cons, List.map_nil, List.getD_cons_zero, List.getD_cons_succ, List.drop_succ_cons, List.drop_zero]
      refine laneO_run 3 (by kernel_rfl) ?_
      simp only [List.take_succ_cons, List.take_zero, List.drop_succ_cons, List.drop_zero]
      repeat (go_big_quiet_step (fail))
      refine wpQuiet_nil ?_
      refine laneO_fixed (v := .int .i64 L.length) (by kernel_rfl) (fun w hw => .inl ⟨by rfl, ?_⟩) ?_
      focus (unfold gives; simp [go_sem]; exact Behind.refl w)
      simp only [Act.put, List.setIfInBounds_toArray, List.set_cons_zero, List.set_cons_succ]
      refine laneO_run 2 (by kernel_rfl) ?_
      simp only [List.take_succ_cons, List.take_zero, List.drop_succ_cons, List.drop_zero]
      repeat (go_big_quiet_step (fail))
      refine wpQuiet_nil ?_
      refine laneO_fixed (v := .agg #[.int .i64 m, .slice (some ad) L.length c]) (by kernel_rfl) (fun w hw => .inl ⟨by rfl, cells_gives rtree_flat (.tmp 2) rfl W.heap.size rfl [.int .i64 m, .slice (some ad) L.length c] rfl 40 (ZT.out w hw)⟩) ?_
      simp only [Act.put, List.setIfInBounds_toArray, List.set_cons_zero, List.set_cons_succ]
      refine laneO_run 7 (by kernel_rfl) ?_
      simp only [List.take_succ_cons, List.take_zero, List.drop_succ_cons, List.drop_zero]
      repeat (go_big_quiet_step (fail))
      refine wpQuiet_nil ?_
      refine laneO_call (v := .bool b) (by kernel_rfl) (by rfl) (fun C hC h0 => ?_) ?_
      focus (go_big_quiet_op; exact ⟨_, fun w hw => (BL.out w (h0 _ hw)).mono fun e w' ⟨he, hb⟩ => ⟨he, hC _ _ hw hb⟩, rfl⟩)
      simp only [Act.put, List.setIfInBounds_toArray, List.set_cons_zero, List.set_cons_succ]
      refine laneO_end0 rfl rfl fun w3 hb0 => ?_
      have B3 := Lib.hid (B.out.trans (Below.mono hb0 B.out.size))
      have X3 := Lib.hid (X.out.under hb0 X.out.size)
      clear y0 y1 y2 ZT BL hb0 B X
      cases b
      · have hE := Lib.hid (show k = E by have h1 := TL2.out; have h2 := HE.out; rw [if_neg (by decide)] at h1; omega)
        go_wp2_with fail
        go_ret
        exact ⟨ret_int (by rw [hE.out]), B3.out⟩
      · have hE : Hid ((k + 1) + ((L.drop (k + 1)).takeWhile fun x => belowZ L x.id id).length = E) := Lib.hid (by have h1 := TL2.out; have h2 := HE.out; rw [if_pos rfl] at h1; omega)
        clear TL2 HE
        go_wp2_with fail
        go_roundw
        case rel => exact ⟨k + 1, by omega, by go_num, hE, B3, X3⟩
        case measure => simp [intOf]; omega
    · have hki : ¬ (k : Int) < L.length := by omega
      have d1 : decide ((k : Int) < L.length) = false := by rw [decide_eq_false_iff_not]; exact hki
      have hE := Lib.hid (show k = E by
        have h2 := HE.out
        rw [List.drop_eq_nil_of_le (by omega)] at h2
        simpa using h2)
      clear HE
      go_upto_region 2 with fail
      refine region_lane [] (List.range 15) [15] (by kernel_rfl) (by kernel_rfl) (fun _ _ _ _ _ h => h) ?_
      simp only [pick, List.map_nil]
      refine wpQuiet_nil ⟨rfl, ?_⟩
      rw [show List.range 15 = [0, 1, 2, 3, 4, 5, 6, 7, 8, 9, 10, 11, 12, 13, 14] from rfl]
      simp only [List.map_cons, List.map_nil, List.getD_cons_zero, List.getD_cons_succ, List.drop_succ_cons, List.drop_zero]
      refine laneO_run 3 (by kernel_rfl) ?_
      simp only [List.take_succ_cons, List.take_zero, List.drop_succ_cons, List.drop_zero]
      repeat (go_big_quiet_step (fail))
      refine wpQuiet_nil ?_
      refine laneO_fixed (v := .int .i64 L.length) (by kernel_rfl) (fun w hw => .inl ⟨by rfl, ?_⟩) ?_
      focus (unfold gives; simp [go_sem]; exact Behind.refl w)
      simp only [Act.put, List.setIfInBounds_toArray, List.set_cons_zero, List.set_cons_succ]
      refine laneO_run 2 (by kernel_rfl) ?_
      simp only [List.take_succ_cons, List.take_zero, List.drop_succ_cons, List.drop_zero]
      repeat (go_big_quiet_step (fail))
      refine wpQuiet_nil ?_
      refine laneO_skip (by kernel_rfl) (by rfl) ?_
      simp only [Act.put, List.setIfInBounds_toArray, List.set_cons_zero, List.set_cons_succ]
      refine laneO_skip (by kernel_rfl) (by rfl) ?_
      simp only [Act.put, List.setIfInBounds_toArray, List.set_cons_zero, List.set_cons_succ]
      refine laneO_skip (by kernel_rfl) (by rfl) ?_
      simp only [Act.put, List.setIfInBounds_toArray, List.set_cons_zero, List.set_cons_succ]
      refine laneO_skip (by kernel_rfl) (by rfl) ?_
      simp only [Act.put, List.setIfInBounds_toArray, List.set_cons_zero, List.set_cons_succ]
      refine laneO_skip (by kernel_rfl) (by rfl) ?_
      simp only [Act.put, List.setIfInBounds_toArray, List.set_cons_zero, List.set_cons_succ]
      refine laneO_skip (by kernel_rfl) (by rfl) ?_
      simp only [Act.put, List.setIfInBounds_toArray, List.set_cons_zero, List.set_cons_succ]
      refine laneO_skip (by kernel_rfl) (by rfl) ?_
      simp only [Act.put, List.setIfInBounds_toArray, List.set_cons_zero, List.set_cons_succ]
      refine laneO_skip (by kernel_rfl) (by rfl) ?_
      simp only [Act.put, List.setIfInBounds_toArray, List.set_cons_zero, List.set_cons_succ]
      refine laneO_skip (by kernel_rfl) (by rfl) ?_
      simp only [Act.put, List.setIfInBounds_toArray, List.set_cons_zero, List.set_cons_succ]
      refine laneO_end0 rfl rfl fun w3 hb0 => ?_
      have B3 := Lib.hid (B.out.trans (Below.mono hb0 B.out.size))
      clear y0 y1 ZT hb0 B X
      go_wp2_with fail
      go_ret
      exact ⟨ret_int (by rw [hE.out]), B3.out⟩
end Go.Proofs.YtbhdpfacfgldiaaGreatDoor
/- FormatInt at base 10, whatever the table of powers holds: a text of 22 bytes at most. -/
namespace Go.Proofs.YtbhdpfacfgldiaaGreatDoor
open Go Go.RowKit
set_option linter.unusedVariables false
set_option linter.unusedSimpArgs false
set_option maxRecDepth 20000
set_option maxHeartbeats 4000000

/-- The table of powers holds some numbers. -/
def PowTab (w : World) : Prop := ∀ i : Nat, i < 20 → ∃ z : Int, w.cell? ⟨3, i, none⟩ = some (.int .u64 z)
theorem PowTab.below {B : Nat} {w w' : World} (h : PowTab w) (hb : Below B w w') (hg : 3 < B) : PowTab w' := fun i hi => by
  obtain ⟨z, hz⟩ := h i hi
  exact ⟨z, (hb.cell (p := ⟨3, i, none⟩) hg).trans hz⟩
theorem numDigits_some (u : Nat) (h1 : 1 ≤ u) (h2 : u < 18446744073709551616) (w : World) (hP : PowTab w) :
    Calls Tryz.prog 129 #[.int .u64 u] w fun e w' => ∃ d : Nat, e = .returned (.int .i64 d) ∧ d ≤ 20 ∧ w' = w := by
  have hL : Lib.bitLen u ≤ 64 := Lib.bitLen_le u 64 (Nat.le_refl _) h2
  have hl : Lib.l10 (Lib.bitLen u) ≤ 19 := by unfold Lib.l10; omega
  have CL := Lib.hid (Tryz.bits_Len64 u w (by omega) (by omega))
  rw [Int.toNat_natCast] at CL
  have CT := Lib.hid (Tryz.internal_strconv_log10Pow2 (Lib.bitLen u) hL w)
  have CB := Lib.hid (fun b => Tryz.internal_strconv_bool2_int b w)
  generalize Lib.bitLen u = L at *
  generalize Lib.l10 L = q at *
  obtain ⟨z, hz⟩ := hP q (by omega)
  have hq : (q : Int) < 20 := by omega
  have hq2 : q < 20 := by omega
  clear hL hP
  by_cases hzu : z ≤ (u : Int)
  · have zz : decide (z ≤ (u : Int)) = true := decide_eq_true hzu
    go_enter Tryz.func129, Tryz.ntmps129
    go_wp2_with fail
    refine CL.out.mono ?_
    rintro e w' ⟨rfl, rfl⟩
    go_wp2_with fail
    refine CT.out.mono ?_
    rintro e w' ⟨rfl, rfl⟩
    go_wp2_with fail
    refine (CB.out true).mono ?_
    rintro e w' ⟨rfl, rfl⟩
    go_wp2_with fail
    go_ret
    exact ⟨q + 1, ret_int (by simp), by omega, rfl⟩
  · have zz : decide (z ≤ (u : Int)) = false := decide_eq_false hzu
    go_enter Tryz.func129, Tryz.ntmps129
    go_wp2_with fail
    refine CL.out.mono ?_
    rintro e w' ⟨rfl, rfl⟩
    go_wp2_with fail
    refine CT.out.mono ?_
    rintro e w' ⟨rfl, rfl⟩
    go_wp2_with fail
    refine (CB.out false).mono ?_
    rintro e w' ⟨rfl, rfl⟩
    go_wp2_with fail
    go_ret
    exact ⟨q, ret_int (by simp), by omega, rfl⟩
theorem Byt.list {w : World} {g N : Nat} {t : TypeId} (h : Byt w g t N) : ∃ l : List UInt8, l.length = N ∧ ∀ j (hj : j < l.length), w.cell? ⟨g, j, none⟩ = some (.int .u8 (l[j].toNat : Int)) := by
  obtain ⟨cs, h1, h2, h3⟩ := h
  have key : ∀ cs : List Value, (∀ v ∈ cs, ∃ z : Int, v = .int .u8 z ∧ 0 ≤ z ∧ z < 256) → ∃ l : List UInt8, cs = l.map fun b => .int .u8 (b.toNat : Int) := fun cs => by
    induction cs with
    | nil => intro _; exact ⟨[], rfl⟩
    | cons v cs ih =>
      intro hv
      obtain ⟨l, hl⟩ := ih fun x hx => hv x (List.mem_cons_of_mem _ hx)
      obtain ⟨z, rfl, z0, z1⟩ := hv _ (List.mem_cons_self ..)
      refine ⟨UInt8.ofNat z.toNat :: l, ?_⟩
      rw [List.map_cons, ← hl]
      have : ((UInt8.ofNat z.toNat).toNat : Int) = z := by
        rw [UInt8.toNat_ofNat']; omega
      rw [this]
  obtain ⟨l, rfl⟩ := key cs h3
  refine ⟨l, by simpa using h2, fun j hj => ?_⟩
  rw [h1.cell j]
  simp [hj]
/-- Some bytes of a row as a text. -/
theorem byt_text {w : World} {g N : Nat} {t : TypeId} (h : Byt w g t N) (off n cap : Nat) (hn : off + n ≤ N) :
    ∃ s : ByteArray, s.size = n ∧ (convert 116 9 (.slice (some ⟨g, off, none⟩) n cap)).run Tryz.prog w = .ok (.string s) w := by
  obtain ⟨l, hl, hc⟩ := h.list
  have hlen : ((l.drop off).take n).length = n := by simp; omega
  have h := run_convert_bytes_back (P := Tryz.prog) w 116 9 5 ⟨g, off, none⟩ cap ((l.drop off).take n) Tryz.underlying116 Tryz.underlying5 Tryz.underlying9 (fun j hj => by
    rw [hlen] at hj
    have e : ((⟨g, off, none⟩ : Addr).add j) = ⟨g, off + j, none⟩ := by unfold Addr.add; simp
    rw [e, hc (off + j) (by omega)]
    simp)
  rw [hlen] at h
  exact ⟨_, by show ((l.drop off).take n).toArray.size = n; simp; omega, h⟩
theorem arr24 : Tryz.prog.arrayLen 180 = 24 := by simp [Program.arrayLen, Tryz.underlying180]
theorem byt_zeros (w : World) : Byt (w.alloc (.cells Lib.zeros24 180)) w.heap.size 180 24 :=
  ⟨Lib.zeros24.toList, Whole.mk w _ _, rfl, fun v hv => ⟨0, by simp [Lib.zeros24] at hv; exact hv, by omega, by omega⟩⟩
theorem fint_small (n : Nat) (hn : n < 100) (W : World) : Calls Tryz.prog 128 #[.int .i64 n] W fun e w' => ∃ s : ByteArray, e = .returned (.string s) ∧ s.size ≤ 22 ∧ w' = W := by
  refine (Tryz.internal_strconv_small n hn W).mono ?_
  rintro e w' ⟨rfl, rfl⟩
  refine ⟨_, rfl, ?_, rfl⟩
  show (Lib.decDigits n).toArray.size ≤ 22
  rw [List.size_toArray, Lib.decDigits_length]
  by_cases h0 : n = 0
  · subst h0; decide +kernel
  · have := Lib.numDigits_eq n (by omega) (by omega)
    split at this <;> omega
theorem fint_any (n : Int) (h0 : -4611686018427387904 ≤ n) (h1 : n ≤ 4611686018427387904) (W : World) (hP : PowTab W) (hg : 3 < W.heap.size) :
    Calls Tryz.prog 127 #[.int .i64 n, .int .i64 10] W fun e w' => ∃ s : ByteArray, e = .returned (.string s) ∧ s.size ≤ 22 ∧ Below W.heap.size W w' := by
  by_cases hs : 0 ≤ n ∧ n < 100
  · obtain ⟨i, rfl⟩ : ∃ i : Nat, n = i := ⟨n.toNat, by omega⟩
    have SM := Lib.hid (fint_small i (by omega) W)
    have z1 : decide ((0 : Int) ≤ (i : Int)) = true := decide_eq_true (by omega)
    have z2 : decide ((i : Int) < 100) = true := decide_eq_true (by omega)
    go_enter Tryz.func127, Tryz.ntmps127
    go_wp2_with fail
    refine SM.out.mono ?_
    rintro e w' ⟨s, rfl, hs2, rfl⟩
    go_wp2_with fail
    go_ret
    exact ⟨s, rfl, hs2, Below.refl _ _⟩
  · by_cases hneg : n < 0
    · obtain ⟨u, rfl⟩ : ∃ u : Nat, n = -(u : Int) := ⟨n.natAbs, by omega⟩
      have hwr : IntKind.u64.wrap (-IntKind.u64.wrap (-(u : Int))) = (u : Int) := by rw [IntKind.wrap_u64, IntKind.wrap_u64]; omega
      have zn : decide (-(u : Int) < 0) = true := decide_eq_true (by omega)
      have zm : decide ((0 : Int) ≤ -(u : Int)) = false := decide_eq_false (by omega)
      have B0 := Lib.hid ((Below.refl W.heap.size W).alloc (Nat.le_refl _) (.cells Lib.zeros24 180))
      have Y0 := Lib.hid (byt_zeros W)
      have ND := Lib.hid (numDigits_some u (by omega) (by omega) _ (hP.below B0.out hg))
      have hu64 : (0 : Int) ≤ (u : Int) ∧ (u : Int) < 18446744073709551616 := by omega
      clear hs
      go_enter Tryz.func127, Tryz.ntmps127
      go_wp2_with fail
      refine ND.out.mono ?_
      rintro e w1 ⟨d, rfl, hd, rfl⟩
      have hd2 : (d : Int) ≤ 20 := by omega
      have hsl1 : ∀ w, (Instr.sliceAt 180 (.pointer (some ⟨W.heap.size, 0, none⟩)) (some (.int .i64 1)) (some (.int .i64 (1 + (d : Int)))) none).run Tryz.prog w = .ok (.slice (some ⟨W.heap.size, 1, none⟩) d 23) w := fun w => by
        rw [run_sliceAt_array_lh w 180 ⟨W.heap.size, 0, none⟩ Tryz.underlying180 .i64 .i64 1 (1 + (d : Int)) (by omega) (by omega) (by rw [arr24]; omega)]
        go_simp
        omega
      have FB := Lib.hid (fb_any W.heap.size 1 d 24 23 180 (by omega) (by omega) (by omega) u hu64 _ Y0.out)
      go_wp2_with fail
      refine FB.out.mono ?_
      rintro e w2 ⟨rfl, y2, o2⟩
      have Y2 := Lib.hid y2
      have B2 := Lib.hid (B0.out.trans (o2.below (B := W.heap.size) (by simp) (by simp)))
      clear y2 o2 FB Y0 B0 hsl1 ND
      obtain ⟨z0, c0, -⟩ := Y2.out.cell (j := 0) (by omega)
      have f0 := Y2.out.free 0
      have Y3 := Lib.hid (Y2.out.put 0 45 (by omega))
      have B3 := Lib.hid (B2.out.setCell (p := ⟨W.heap.size, 0, none⟩) (by simp) (.int .u8 45))
      obtain ⟨s, hsz, hcv⟩ := byt_text Y3.out 0 (1 + d) 24 (by omega)
      have hsl2 : ∀ w, (Instr.sliceAt 180 (.pointer (some ⟨W.heap.size, 0, none⟩)) none (some (.int .i64 (1 + (d : Int)))) none).run Tryz.prog w = .ok (.slice (some ⟨W.heap.size, 0, none⟩) (1 + d) 24) w := fun w => by
        rw [run_sliceAt_array_h w 180 ⟨W.heap.size, 0, none⟩ Tryz.underlying180 .i64 (1 + (d : Int)) (by omega) (by rw [arr24]; omega)]
        go_simp
        omega
      go_wp2
      go_ret
      exact ⟨s, rfl, by omega, B3.out⟩
    · obtain ⟨u, rfl⟩ : ∃ u : Nat, n = (u : Int) := ⟨n.toNat, by omega⟩
      have hwr : IntKind.u64.wrap (u : Int) = (u : Int) := by rw [IntKind.wrap_u64]; omega
      have zn : decide ((u : Int) < 0) = false := decide_eq_false (by omega)
      have zm : decide ((0 : Int) ≤ (u : Int)) = true := decide_eq_true (by omega)
      have zk : decide ((u : Int) < 100) = false := decide_eq_false (by omega)
      have B0 := Lib.hid ((Below.refl W.heap.size W).alloc (Nat.le_refl _) (.cells Lib.zeros24 180))
      have Y0 := Lib.hid (byt_zeros W)
      have ND := Lib.hid (numDigits_some u (by omega) (by omega) _ (hP.below B0.out hg))
      have hu64 : (0 : Int) ≤ (u : Int) ∧ (u : Int) < 18446744073709551616 := by omega
      clear hs
      go_enter Tryz.func127, Tryz.ntmps127
      go_wp2_with fail
      refine ND.out.mono ?_
      rintro e w1 ⟨d, rfl, hd, rfl⟩
      have hd2 : (d : Int) ≤ 20 := by omega
      have hsl1 : ∀ w, (Instr.sliceAt 180 (.pointer (some ⟨W.heap.size, 0, none⟩)) (some (.int .i64 1)) (some (.int .i64 (1 + (d : Int)))) none).run Tryz.prog w = .ok (.slice (some ⟨W.heap.size, 1, none⟩) d 23) w := fun w => by
        rw [run_sliceAt_array_lh w 180 ⟨W.heap.size, 0, none⟩ Tryz.underlying180 .i64 .i64 1 (1 + (d : Int)) (by omega) (by omega) (by rw [arr24]; omega)]
        go_simp
        omega
      have FB := Lib.hid (fb_any W.heap.size 1 d 24 23 180 (by omega) (by omega) (by omega) u hu64 _ Y0.out)
      go_wp2_with fail
      refine FB.out.mono ?_
      rintro e w2 ⟨rfl, y2, o2⟩
      have Y2 := Lib.hid y2
      have B2 := Lib.hid (B0.out.trans (o2.below (B := W.heap.size) (by simp) (by simp)))
      clear y2 o2 FB Y0 B0 hsl1 ND
      obtain ⟨s, hsz, hcv⟩ := byt_text Y2.out 1 d 23 (by omega)
      have hsl1 : ∀ w, (Instr.sliceAt 180 (.pointer (some ⟨W.heap.size, 0, none⟩)) (some (.int .i64 1)) (some (.int .i64 (1 + (d : Int)))) none).run Tryz.prog w = .ok (.slice (some ⟨W.heap.size, 1, none⟩) d 23) w := fun w => by
        rw [run_sliceAt_array_lh w 180 ⟨W.heap.size, 0, none⟩ Tryz.underlying180 .i64 .i64 1 (1 + (d : Int)) (by omega) (by omega) (by rw [arr24]; omega)]
        go_simp
        omega
      go_wp2
      go_ret
      exact ⟨s, rfl, by omega, B2.out⟩
end Go.Proofs.YtbhdpfacfgldiaaGreatDoor
/- decl: has a length's form a declaration? -/
namespace Go.Proofs.YtbhdpfacfgldiaaGreatDoor
open Go Go.RowKit
set_option linter.unusedVariables false
set_option linter.unusedSimpArgs false
set_option maxRecDepth 20000
set_option maxHeartbeats 4000000

def lenB (em pc mn : Bool) (w k n : Int) : Bool := decide (w = 0 ∧ ((k = 0 ∧ em = false ∧ n = 0) ∨ (k = 1 ∧ holdsB mn n 6400000 = true) ∨ (k = 2 ∧ pc = true ∧ holdsB mn n 999999 = true)))
theorem px_most : pxZ 99999999 = 6400000 := by decide
theorem pxm_any (w : World) : Calls Tryz.prog 143 #[.int .i64 99999999] w fun e w' => e = .returned (.int .i64 6400000) ∧ w = w' := by
  have := px_any 99999999 w (by omega) (by omega)
  rwa [px_most] at this
theorem holds_val (a : ByteArray) (pc mn : Bool) (n most : Int) (h0 : 0 ≤ most) (h1 : most ≤ 6400000) (b : Bool) (hb : holdsB mn n most = b) (W : World) : Calls Tryz.prog 140 #[.agg #[.string a, .bool pc, .bool mn], .int .i64 n, .int .i64 most] W fun e w' => e = .returned (.bool b) ∧ Below W.heap.size W w' :=
  hb ▸ holds_any a pc mn n most h0 h1 W
theorem lengthHas_any (a : ByteArray) (em : Bool) (ha : (a = ⟨#[]⟩ ∧ em = true) ∨ (a = ⟨#[110, 111, 110, 101]⟩ ∧ em = false) ∨ (a = ⟨#[97, 117, 116, 111]⟩ ∧ em = false)) (pc mn : Bool) (p w k n : Int) (W : World) :
    Calls Tryz.prog 139 #[.agg #[.string a, .bool pc, .bool mn], .agg #[.int .i64 p, .int .i64 w, .int .i64 k, .int .i64 n]] W fun e w' => e = .returned (.bool (lenB em pc mn w k n)) ∧ Below W.heap.size W w' := by
  have HBW := Lib.hid (show Below W.heap.size W ((W.alloc (.cells #[.string a, .bool pc, .bool mn] 135)).alloc (.cells #[.int .i64 p, .int .i64 w, .int .i64 k, .int .i64 n] 70)) from ((Below.refl _ _).alloc (Nat.le_refl _) _).alloc (by simp) _)
  by_cases hw : w = 0
  · subst hw
    rcases (show k = 0 ∨ k = 1 ∨ k = 2 ∨ (k ≠ 0 ∧ k ≠ 1 ∧ k ≠ 2) by omega) with rfl | rfl | rfl | ⟨k0, k1, k2⟩
    · have hr : lenB em pc mn 0 0 n = (!em && decide (n = 0)) := by unfold lenB; cases em <;> simp
      have HR := Lib.hid hr
      clear hr
      rcases ha with ⟨rfl, rfl⟩ | ⟨rfl, rfl⟩ | ⟨rfl, rfl⟩
      all_goals
        go_enter Tryz.func139, Tryz.ntmps139
        go_wp2
        all_goals
          go_ret
          exact ⟨ret_bool (Eq.trans (by first | (simp; done) | (rw [Bool.eq_iff_iff]; simp)) HR.out.symm), HBW.out⟩
    · have hr : lenB em pc mn 0 1 n = holdsB mn n 6400000 := by unfold lenB; simp
      have HR := Lib.hid hr
      clear hr ha
      go_enter Tryz.func139, Tryz.ntmps139
      go_upto_region 7 with fail
      generalize hW1 : (W.alloc (.cells #[.string a, .bool pc, .bool mn] 135)).alloc (.cells #[.int .i64 p, .int .i64 0, .int .i64 1, .int .i64 n] 70) = W1 at *
      have E0 := (Whole.mk W 135 #[.string a, .bool pc, .bool mn]).made (.cells #[.int .i64 p, .int .i64 0, .int .i64 1, .int .i64 n] 70)
      have E1 := Whole.mk (W.alloc (.cells #[.string a, .bool pc, .bool mn] 135)) 70 #[.int .i64 p, .int .i64 0, .int .i64 1, .int .i64 n]
      rw [hW1] at E0 E1
      rw [World.size_alloc] at E1
      have K0 : ∀ s : Later W1.heap.size W1, s.w.cell? ⟨W.heap.size, 0, none⟩ = some (.string a) := fun s => (E0.under s.h E0.size).cell 0
      have K1 : ∀ s : Later W1.heap.size W1, s.w.cell? ⟨W.heap.size, 1, none⟩ = some (.bool pc) := fun s => (E0.under s.h E0.size).cell 1
      have K2 : ∀ s : Later W1.heap.size W1, s.w.cell? ⟨W.heap.size, 2, none⟩ = some (.bool mn) := fun s => (E0.under s.h E0.size).cell 2
      have K3 : ∀ s : Later W1.heap.size W1, s.w.cell? ⟨W.heap.size + 1, 3, none⟩ = some (.int .i64 n) := fun s => (E1.under s.h E1.size).cell 3
      have HS := Lib.hid HBW.out.size
      clear E0 E1 hW1
      refine region_lane [1, 2] [0, 3, 4, 5] [6] (by kernel_rfl) (by kernel_rfl) (fun _ _ _ _ _ h => h) ?_
      simp only [pick, List.map_cons, List.map_nil, List.getD_cons_zero, List.getD_cons_succ, List.drop_succ_cons, List.drop_zero]
      repeat (go_big_quiet_step (fail))
      refine wpQuiet_nil ?_
      refine ⟨rfl, ?_⟩
      refine laneO_run 2 (by kernel_rfl) ?_
      simp only [List.take_succ_cons, List.take_zero, List.drop_succ_cons, List.drop_zero]
      repeat (go_big_quiet_step (fail))
      refine wpQuiet_nil ?_
      refine laneO_call (v := .int .i64 6400000) (by kernel_rfl) (by rfl) (fun C hC h0 => ?_) ?_
      focus (go_big_quiet_op; exact ⟨_, fun w hw => (pxm_any w).mono fun e w' ⟨he, hb⟩ => ⟨he, hb ▸ hw⟩, rfl⟩)
      simp only [Act.put, List.setIfInBounds_toArray, List.set_cons_zero, List.set_cons_succ]
      refine laneO_call (v := .bool (holdsB mn n 6400000)) (by kernel_rfl) (by rfl) (fun C hC h0 => ?_) ?_
      focus (go_big_quiet_op; exact ⟨_, fun w hw => (holds_any a pc mn n 6400000 (by omega) (by omega) w).mono fun e w' ⟨he, hb⟩ => ⟨he, hC _ _ hw hb⟩, rfl⟩)
      simp only [Act.put, List.setIfInBounds_toArray, List.set_cons_zero, List.set_cons_succ]
      refine laneO_end0 rfl rfl fun w2 hb0 => ?_
      have hb2 : Below W1.heap.size W1 w2 := hb0
      have HB2 := Lib.hid (HBW.out.trans (hb2.mono HS.out))
      clear hb0 hb2 K0 K1 K2 K3
      go_wp2
      go_ret
      exact ⟨ret_bool HR.out.symm, HB2.out⟩
    · have hr : lenB em pc mn 0 2 n = (pc && holdsB mn n 999999) := by unfold lenB; cases pc <;> simp
      have HR := Lib.hid hr
      clear hr ha
      cases pc with
      | false =>
        go_enter Tryz.func139, Tryz.ntmps139
        go_wp2
        go_ret
        exact ⟨ret_bool HR.out.symm, HBW.out⟩
      | true =>
        go_enter Tryz.func139, Tryz.ntmps139
        go_wp2_with (go_at_call 140; refine (holds_any a true mn n 999999 (by omega) (by omega) _).mono ?_; rintro e w1 ⟨rfl, b⟩; have B := Lib.hid b; clear b)
        go_ret
        exact ⟨ret_bool HR.out.symm, HBW.out.trans (B.out.mono HBW.out.size)⟩
    · have hr : lenB em pc mn 0 k n = false := by unfold lenB; simp [k0, k1, k2]
      have HR := Lib.hid hr
      clear hr ha
      go_enter Tryz.func139, Tryz.ntmps139
      go_wp2
      go_ret
      exact ⟨ret_bool HR.out.symm, HBW.out⟩
  · have hr : lenB em pc mn w k n = false := by unfold lenB; simp [hw]
    have HR := Lib.hid hr
    clear hr ha
    go_enter Tryz.func139, Tryz.ntmps139
    go_wp2
    go_ret
    exact ⟨ret_bool HR.out.symm, HBW.out⟩
end Go.Proofs.YtbhdpfacfgldiaaGreatDoor
/- The forms' has, as mayZ. -/
namespace Go.Proofs.YtbhdpfacfgldiaaGreatDoor
open Go Go.RowKit
set_option linter.unusedVariables false
set_option linter.unusedSimpArgs false
set_option maxRecDepth 20000
set_option maxHeartbeats 4000000

def emB (p : Int) : Bool := decide ((12 ≤ p ∧ p ≤ 19) ∨ p = 31 ∨ p = 4 ∨ p = 5)
theorem autoS_ways (p : Int) : (autoS p = ⟨#[]⟩ ∧ emB p = true) ∨ (autoS p = ⟨#[110, 111, 110, 101]⟩ ∧ emB p = false) ∨ (autoS p = ⟨#[97, 117, 116, 111]⟩ ∧ emB p = false) := by
  unfold autoS emB
  by_cases h : (12 ≤ p ∧ p ≤ 19) ∨ p = 31 ∨ p = 4 ∨ p = 5
  · exact .inl ⟨if_pos h, decide_eq_true h⟩
  · rw [if_neg h, decide_eq_false h]
    by_cases h6 : p = 6 ∨ p = 7
    · exact .inr (.inl ⟨if_pos h6, rfl⟩)
    · exact .inr (.inr ⟨if_neg h6, rfl⟩)
theorem may_lenB (p w k n : Int) (h : lenP p) : lenB (emB p) (pctF p) (minF p) w k n = mayZ p w k n := by
  unfold lenP at h
  rcases (show (((12 ≤ p ∧ p ≤ 19) ∨ p = 31) ∨ (8 ≤ p ∧ p ≤ 11) ∨ (p = 4 ∨ p = 5) ∨ (p = 2 ∨ p = 3 ∨ p = 6 ∨ p = 7 ∨ p = 22)) by omega) with h1 | h1 | h1 | h1
  · rw [may_px h1, Bool.eq_iff_iff]
    unfold lenB emB pctF minF holdsB pxB
    simp only [Bool.and_eq_true, decide_eq_true_iff, Bool.not_eq_true', decide_eq_false_iff_not]
    omega
  · rw [may_margin h1, Bool.eq_iff_iff]
    unfold lenB emB pctF minF holdsB pxB pctB autoB
    simp only [Bool.and_eq_true, Bool.or_eq_true, decide_eq_true_iff, Bool.not_eq_true', decide_eq_false_iff_not]
    omega
  · rw [may_min h1, Bool.eq_iff_iff]
    unfold lenB emB pctF minF holdsB pxB pctB
    simp only [Bool.and_eq_true, Bool.or_eq_true, decide_eq_true_iff, Bool.not_eq_true', decide_eq_false_iff_not]
    omega
  · rw [may_rest h1, Bool.eq_iff_iff]
    unfold lenB emB pctF minF holdsB pxB pctB autoB
    simp only [Bool.and_eq_true, Bool.or_eq_true, decide_eq_true_iff, Bool.not_eq_true', decide_eq_false_iff_not]
    omega
theorem wordsHas_val (A : Option Addr) (p w k n : Int) (h : p = 1 ∨ p = 20 ∨ p = 21 ∨ p = 26 ∨ p = 27 ∨ p = 28 ∨ p = 29 ∨ p = 30 ∨ p = 32) (b : Bool) (hb : mayZ p w k n = b) (W : World) : Calls Tryz.prog 119 #[.slice A (wordsS p).length (wordsS p).length, .agg #[.int .i64 p, .int .i64 w, .int .i64 k, .int .i64 n]] W fun e w' => e = .returned (.bool b) ∧ Below W.heap.size W w' := by
  have hw := wordsN_pos h
  rw [← wordsS_length] at hw
  have := wordsHas_any A (wordsS p).length p w k n (by omega) W
  have e : wordsB (wordsS p).length w k n = b := by rw [← hb, may_words h, ← wordsS_length]; rfl
  rwa [e] at this
theorem wholeHas_val (p w k n : Int) (h : p = 23 ∨ p = 24) (b : Bool) (hb : mayZ p w k n = b) (W : World) : Calls Tryz.prog 122 #[.agg #[.int .i64 0, .int .i64 100], .agg #[.int .i64 p, .int .i64 w, .int .i64 k, .int .i64 n]] W fun e w' => e = .returned (.bool b) ∧ Below W.heap.size W w' := by
  have := wholeHas_any 0 100 p w k n W
  have e : wholeB 0 100 w k n = b := by rw [← hb, may_whole h]; rfl
  rwa [e] at this
theorem orderHas_val (w k n : Int) (b : Bool) (hb : mayZ 25 w k n = b) (W : World) : Calls Tryz.prog 122 #[.agg #[.int .i64 (-1000), .int .i64 1000], .agg #[.int .i64 25, .int .i64 w, .int .i64 k, .int .i64 n]] W fun e w' => e = .returned (.bool b) ∧ Below W.heap.size W w' := by
  have := wholeHas_any (-1000) 1000 25 w k n W
  have e : wholeB (-1000) 1000 w k n = b := by rw [← hb, may_order rfl]; rfl
  rwa [e] at this
theorem lenHas_val (p w k n : Int) (h : lenP p) (b : Bool) (hb : mayZ p w k n = b) (W : World) : Calls Tryz.prog 139 #[.agg #[.string (autoS p), .bool (pctF p), .bool (minF p)], .agg #[.int .i64 p, .int .i64 w, .int .i64 k, .int .i64 n]] W fun e w' => e = .returned (.bool b) ∧ Below W.heap.size W w' := by
  have := lengthHas_any (autoS p) (emB p) (autoS_ways p) (pctF p) (minF p) p w k n W
  rw [may_lenB p w k n h, hb] at this
  exact this
theorem mayp_range {p w k n : Int} (h : mayZ p w k n = true) : 1 ≤ p ∧ p ≤ 32 := by
  refine Classical.byContradiction fun hc => ?_
  rw [may_out (by omega)] at h
  cases h
end Go.Proofs.YtbhdpfacfgldiaaGreatDoor
/- quoinlaw6.awake answers true. -/
namespace Go.Proofs.YtbhdpfacfgldiaaGreatDoor
open Go Go.RowKit
set_option linter.unusedVariables false
set_option linter.unusedSimpArgs false
set_option maxRecDepth 20000
set_option maxHeartbeats 4000000

def awL : List Nd := [root0, ⟨5, 0, false, ⟨#[]⟩, []⟩, ⟨7, 5, true, ⟨#[97]⟩, []⟩, ⟨2, 0, false, ⟨#[]⟩, []⟩]
def awC : Array Value := #[.int .i64 0, .int .i64 (-1), .bool false, .string ⟨#[]⟩, .slice none 0 0, .int .i64 5, .int .i64 0, .bool false, .string ⟨#[]⟩, .slice none 0 0,
  .int .i64 7, .int .i64 5, .bool true, .string ⟨#[97]⟩, .slice none 0 0, .int .i64 2, .int .i64 0, .bool false, .string ⟨#[]⟩, .slice none 0 0]
theorem awC_row : plC awL = awC.toList := rfl
theorem aw_low (w : World) (g : Nat) (h : Whole w g 32 awC.toList) : NodesLow w w.heap.size (some ⟨g, 0, none⟩) awL (awL.map fun _ => noS) := by
  refine ⟨rfl, fun _ => ⟨_, rfl, h.size, fun i hi => ?_⟩, fun k hk => ?_, fun x hx => ?_, by decide⟩
  · rw [head_add, h.cell i, ← awC_row]; exact List.getElem?_eq_getElem hi
  · have : awL[k].sty = [] := (show ∀ x ∈ awL, x.sty = [] by intro x hx; simp [awL] at hx; rcases hx with rfl | rfl | rfl | rfl <;> rfl) _ (List.getElem_mem hk)
    rw [this, List.getElem_map]
    exact ⟨none, 0, rfl, Row.nil _ _ _, by decide, fun _ => rfl⟩
  · simp [awL] at hx
    unfold In64i
    rcases hx with rfl | rfl | rfl | rfl <;> simp [root0, ByteArray.size]
theorem aw_no : ∀ n ∈ awL, n.tx = false → ∀ d ∈ n.sty, UntoldOK d := by
  intro n hn _ d hd
  simp [awL] at hn
  rcases hn with rfl | rfl | rfl | rfl <;> simp [root0] at hd
theorem aw_of9 (A : Option Addr) (c : Nat) (w : World) (h : NodesLow w w.heap.size A awL (awL.map fun _ => noS)) (hc : 4 ≤ c) :
    Calls Tryz.prog 7 #[.int .i64 9, .slice A 4 c] w fun e w' => (∃ t, e = .returned (.tuple #[.pointer (some ⟨t, 0, none⟩), .bool true]) ∧ Tree w' w.heap.size t 9 awL) ∧ Below w.heap.size w w' := by
  refine (tof_any 9 A c awL _ w h hc aw_no).mono ?_
  rintro e w' ⟨h1, h2⟩
  unfold OfPost at h1
  rw [if_pos (by decide +kernel)] at h1
  exact ⟨h1, h2⟩
theorem aw_of3 (A : Option Addr) (c : Nat) (w : World) (h : NodesLow w w.heap.size A awL (awL.map fun _ => noS)) (hc : 4 ≤ c) :
    Calls Tryz.prog 7 #[.int .i64 3, .slice A 4 c] w fun e w' => e = .returned (.tuple #[.pointer none, .bool false]) ∧ Below w.heap.size w w' := by
  refine (tof_any 3 A c awL _ w h hc aw_no).mono ?_
  rintro e w' ⟨h1, h2⟩
  unfold OfPost at h1
  rw [if_neg (by decide +kernel)] at h1
  exact ⟨h1, h2⟩
theorem lawake6_any (W : World) : Calls Tryz.prog 13 #[] W fun e w' => e = .returned (.bool true) ∧ Below W.heap.size W w' := by
  have X1 := Lib.hid (Whole.mk W 32 awC)
  have B1 := Lib.hid ((Below.refl W.heap.size W).alloc (Nat.le_refl _) (.cells awC 32))
  go_enter Tryz.func13, Tryz.ntmps13
  go_upto_region 2 with fail
  have Z1 := X1.out.size
  unfold awC at X1 B1 Z1
  generalize W.alloc _ = w1 at *
  have X1 : Hid (Whole w1 W.heap.size 32 awC.toList) := X1
  go_wp2_with fail
  refine (aw_of9 _ 4 w1 (aw_low w1 _ X1.out) (by decide)).mono ?_
  rintro e w2 ⟨⟨t, rfl, hT⟩, hb⟩
  have X2 := Lib.hid (X1.out.under hb Z1)
  have Z2 := X2.out.size
  have B2 := Lib.hid (B1.out.trans (hb.mono (by omega)))
  have T2 := Lib.hid hT
  clear hb hT X1 Z1 B1
  go_wp2_with fail
  refine (aw_of3 _ 4 w2 (aw_low w2 _ X2.out) (by decide)).mono ?_
  rintro e w3 ⟨rfl, hb⟩
  have X3 := Lib.hid (X2.out.under hb Z2)
  have Z3 := X3.out.size
  have B3 := Lib.hid (B2.out.trans (hb.mono (by omega)))
  have T3 := Lib.hid (T2.out.behind hb)
  clear hb X2 Z2 B2 T2
  go_wp2_with fail
  refine (tkids_any T3.out (id := 0) (by unfold In64i; omega) (Int.le_refl _) (by decide)).mono ?_
  rw [show kidsZ awL 0 = [5, 2] by decide +kernel]
  rintro e w4 ⟨v, rfl, ⟨A, ck, rfl, ho, -⟩, hb⟩
  have X4 := Lib.hid (X3.out.under hb Z3)
  have Z4 := X4.out.size
  have B4 := Lib.hid (B3.out.trans (hb.mono (by omega)))
  have T4 := Lib.hid (T3.out.behind hb)
  obtain ⟨g, c', hv, -, -, -⟩ := owns_some ho (by decide)
  injection hv with e1 e2 e3
  subst e1 e3
  clear e2
  have K4 := Lib.hid (row_of_own ho)
  clear hb X3 Z3 B3 T3 ho
  have h7 : atZ awL 7 = some ⟨7, 5, true, ⟨#[97]⟩, []⟩ := rfl
  go_wp2_with fail
  refine (tnode_any T4.out (id := 7) (by unfold In64i; omega) h7).mono ?_
  rintro e w5 ⟨⟨A5, c5, rfl, -⟩, hb⟩
  have X5 := Lib.hid (X4.out.under hb Z4)
  have Z5 := X5.out.size
  have B5 := Lib.hid (B4.out.trans (hb.mono (by omega)))
  have T5 := Lib.hid (T4.out.behind hb)
  have K5 := Lib.hid ((K4.out.below hb).more hb.size)
  clear hb X4 Z4 B4 T4 K4 h7
  go_upto_region 8 with fail
  have hal : Below w5.heap.size w5 (w5.alloc (.cells #[.int .i64 7, .int .i64 5, .bool true, .string ⟨#[97]⟩, .slice A5 0 c5] 32)) := (Below.refl _ _).alloc (Nat.le_refl _) _
  have N6 := Lib.hid (Whole.mk w5 32 #[.int .i64 7, .int .i64 5, .bool true, .string ⟨#[97]⟩, .slice A5 0 c5])
  have X6 := Lib.hid (X5.out.under hal Z5)
  have B6 := Lib.hid (B5.out.trans (hal.mono (by omega)))
  have T6 := Lib.hid (T5.out.behind hal)
  have K6 := Lib.hid (K5.out.below hal)
  have sz : w5.heap.size < (w5.alloc (.cells #[.int .i64 7, .int .i64 5, .bool true, .string ⟨#[97]⟩, .slice A5 0 c5] 32)).heap.size := by simp
  clear hal X5 B5 T5 K5
  generalize w5.alloc _ = w6 at *
  generalize w5.heap.size = gn at *
  have Z6 := X6.out.size
  have n3 : w6.cell? ⟨gn, 3, none⟩ = some (.string ⟨#[97]⟩) := N6.out.cell 3
  obtain ⟨ad, e1, -, hc⟩ := K6.out (by decide)
  injection e1 with e1
  subst e1
  have k0 : w6.cell? ⟨g, 0, none⟩ = some (.int .i64 5) := by have := hc 0 (by decide); rw [head_add] at this; exact this
  have k1 : w6.cell? ⟨g, 1, none⟩ = some (.int .i64 2) := by have := hc 1 (by decide); rw [head_add] at this; exact this
  clear hc K6 N6
  go_wp2_with fail
  refine (tlen_any T6.out).mono ?_
  rintro e w' ⟨rfl, rfl⟩
  rw [show ((awL.length : Nat) : Int) = 4 from rfl]
  go_wp2_with fail
  refine (tparent_any T6.out (id := 7) (by unfold In64i; omega)).mono ?_
  rintro e w' ⟨rfl, rfl⟩
  rw [show parZ awL 7 = 5 by decide +kernel]
  go_wp2_with fail
  refine (tbelow_any T6.out (id := 7) (of_ := 0) (by unfold In64i; omega) (by unfold In64i; omega)).mono ?_
  rintro e w' ⟨rfl, rfl⟩
  rw [show belowZ awL 7 0 = true by decide +kernel]
  go_wp2_with fail
  refine (tbelow_any T6.out (id := 5) (of_ := 7) (by unfold In64i; omega) (by unfold In64i; omega)).mono ?_
  rintro e w' ⟨rfl, rfl⟩
  rw [show belowZ awL 5 7 = false by decide +kernel]
  go_wp2_with fail
  refine (tdeep_any T6.out (id := 7) (by unfold In64i; omega) (by decide)).mono ?_
  rintro e w' ⟨rfl, rfl⟩
  rw [show deepZ awL 7 = 2 by decide +kernel]
  go_wp2_with fail
  refine (tdeep_any T6.out (id := 9) (by unfold In64i; omega) (by decide)).mono ?_
  rintro e w' ⟨rfl, rfl⟩
  rw [show deepZ awL 9 = -1 by decide +kernel]
  obtain ⟨Tr, f1, f2, f3⟩ := of_tree 9 awL (by decide +kernel)
  go_wp2_with fail
  refine (tsay_any T6.out (by decide) f1 f2 f3).mono ?_
  rintro e w7 ⟨v, rfl, hN, -, hb⟩
  have X7 := Lib.hid (X6.out.under hb Z6)
  have B7 := Lib.hid (B6.out.trans (hb.mono (by omega)))
  have S7 := Lib.hid (hN.see (by decide))
  clear f1 f2 f3 hb hN n3 k0 k1 X6 B6 T6
  go_wp2_with fail
  refine (nsame_any awL v (.slice (some ⟨W.heap.size, 0, none⟩) 4 4) w7 S7.out ((aw_low w7 _ X7.out).see (c := 4) (Nat.le_refl _))).mono ?_
  rintro e w8 ⟨rfl, hb⟩
  have B8 := Lib.hid (B7.out.trans (hb.mono (by have := X7.out.size; omega)))
  clear hb
  go_wp2_with fail
  go_ret
  exact ⟨rfl, B8.out⟩
end Go.Proofs.YtbhdpfacfgldiaaGreatDoor
