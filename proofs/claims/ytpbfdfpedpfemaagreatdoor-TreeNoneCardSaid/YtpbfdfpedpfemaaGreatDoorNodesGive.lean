import Derived.Test.YtpbfdfpedpfemaaGreatDoorNodesPut
import Derived.BigQuiet
/- nodes.Give. -/
namespace Go.Proofs.YtpbfdfpedpfemaaGreatDoor
open Go Go.RowKit
set_option linter.unusedVariables false
set_option linter.unusedSimpArgs false
set_option maxRecDepth 20000
set_option maxHeartbeats 4000000

def giveN (n m : Nd) : Nd := if m.id = n.id then ⟨m.id, m.par, m.tx, n.dat, n.sty⟩ else m
def giveZ (L : List Nd) (n : Nd) : List Nd := L.map (giveN n)
theorem giveN_id (n m : Nd) : (giveN n m).id = m.id := by unfold giveN; split <;> rfl
theorem giveN_par (n m : Nd) : (giveN n m).par = m.par := by unfold giveN; split <;> rfl
theorem giveN_tx (n m : Nd) : (giveN n m).tx = m.tx := by unfold giveN; split <;> rfl
theorem give_length (L : List Nd) (n : Nd) : (giveZ L n).length = L.length := by simp [giveZ]
theorem give_has (L : List Nd) (n : Nd) (id : Int) : hasZ (giveZ L n) id = hasZ L id := by
  rw [Bool.eq_iff_iff, has_iff, has_iff]
  unfold giveZ
  constructor
  · rintro ⟨m, hm, e⟩
    obtain ⟨k, hk, rfl⟩ := List.mem_map.1 hm
    exact ⟨k, hk, by rw [← e, giveN_id]⟩
  · rintro ⟨m, hm, e⟩
    exact ⟨giveN n m, List.mem_map_of_mem hm, by rw [giveN_id]; exact e⟩
theorem give_kids (L : List Nd) (n : Nd) (id : Int) : kidsZ (giveZ L n) id = kidsZ L id := by
  unfold kidsZ giveZ
  rw [← List.map_tail, List.filter_map, List.map_map]
  have e1 : ((fun m : Nd => m.par == id) ∘ giveN n) = fun m => m.par == id := by funext m; simp [giveN_par]
  have e2 : (Nd.id ∘ giveN n) = Nd.id := by funext m; simp [giveN_id]
  rw [e1, e2]
theorem TreeOk.give {L : List Nd} (h : TreeOk L) (n : Nd) : TreeOk (giveZ L n) := by
  refine ⟨?_, ?_, ?_, ?_⟩
  · have e : (giveZ L n).map Nd.id = L.map Nd.id := by
      unfold giveZ
      rw [List.map_map]
      exact List.map_congr_left fun m _ => giveN_id n m
    rw [e]; exact h.nd
  · intro m hm
    obtain ⟨k, hk, rfl⟩ := List.mem_map.1 hm
    rw [giveN_id]; exact h.rng k hk
  · obtain ⟨r, R, rfl, e1, e2, e3⟩ := h.root
    exact ⟨giveN n r, R.map (giveN n), rfl, by rw [giveN_id]; exact e1, by rw [giveN_par]; exact e2, by rw [giveN_tx]; exact e3⟩
  · intro i hi h0
    have hi' : i < L.length := by rw [give_length] at hi; exact hi
    obtain ⟨j, hj, e⟩ := h.up i hi' h0
    refine ⟨j, hj, ?_⟩
    simp only [giveZ, List.getElem_map, giveN_id, giveN_par]
    exact e
theorem TreeAt.give {W w : World} {base t b : Nat} {most : Int} {L : List Nd} {f : Int → Option Nat} {sv kv : Int → Value} (h : TreeAt W base t b most L f sv kv) (n : Nd) {p : Nd} (hp : p ∈ L) (hpi : p.id = n.id) {g : Nat} (hg : f n.id = some g)
    (hO : Only [g] W w) {sn : Value} (hG : Whole w g 90 (ndC ⟨p.id, p.par, p.tx, n.dat, n.sty⟩ sn (kv n.id))) (hS : StyOwn w base sn n.sty) : TreeAt w base t b most (giveZ L n) f (fun x => if x = n.id then sn else sv x) kv := by
  have hgp : f p.id = some g := by rw [hpi]; exact hg
  have bO := (h.nod p hp g hgp).2
  have one : ∀ m ∈ L, m.id = n.id → m = p := fun m hm e => by
    have e1 := h.ok.at_mem hm
    have e2 := h.ok.at_mem hp
    rw [e, ← hpi, e2] at e1
    injection e1 with e1; exact e1.symm
  refine ⟨h.ok.give n, h.low, ?_, ?_, fun id => by rw [give_has]; exact h.dom id, fun m hm k hk => ?_, fun m hm => ?_, fun m hm => ?_, h.inj, fun m hm m' hm' k hk hk' => ?_⟩
  · exact hO.whole h.hd (by simp; intro e; subst e; exact absurd (whole_two h.hd bO) (by decide))
  · rw [give_length]; exact h.mp.only hO (by simp; intro e; subst e; exact map_no_cells h.mp bO)
  · obtain ⟨m, hm2, rfl⟩ := List.mem_map.1 hm
    rw [giveN_id] at hk ⊢
    obtain ⟨k1, k2⟩ := h.nod m hm2 k hk
    refine ⟨k1, ?_⟩
    by_cases e : m.id = n.id
    · have em := one m hm2 e
      subst em
      rw [hgp] at hk
      injection hk with hk
      subst hk
      rw [if_pos e]
      unfold giveN
      rw [if_pos e, e]
      rw [e] at hG
      exact hG
    · rw [if_neg e]
      unfold giveN
      rw [if_neg e]
      exact hO.whole k2 (by simp; intro e'; subst e'; exact e (h.inj _ _ _ hk hg))
  · obtain ⟨m, hm2, rfl⟩ := List.mem_map.1 hm
    rw [giveN_id]
    by_cases e : m.id = n.id
    · rw [if_pos e]
      unfold giveN
      rw [if_pos e]; exact hS
    · rw [if_neg e]
      unfold giveN
      rw [if_neg e]
      exact (h.sty m hm2).only hO (by intro k hk hx; simp at hx; subst hx; exact (h.sty m hm2).other bO (by decide) hk)
  · obtain ⟨m, hm2, rfl⟩ := List.mem_map.1 hm
    rw [giveN_id, give_kids]
    exact hO.owns (h.kid m hm2) (by intro k hk hx; simp at hx; subst hx; exact whole_ne bO (h.kid m hm2) (by decide) hk)
  · obtain ⟨m, hm2, rfl⟩ := List.mem_map.1 hm
    obtain ⟨m', hm2', rfl⟩ := List.mem_map.1 hm'
    rw [giveN_id] at hk hk' ⊢
    rw [giveN_id]
    exact h.apart m hm2 m' hm2' k hk hk'
theorem look_gives {P : Program} {o : Oper} {a : Act} {w : World} {t : TypeId} {b : Nat} {id : Int} {v : Value} (x y : Operand) (ho : o.op = .lookup t x y false) (hx : a.eval x = .map (some b)) (hy : a.eval y = .int .i64 id)
    (hl : (Instr.lookup t (.map (some b)) (.int .i64 id) false).run P w = .ok v w) : gives P o a w fun u _ => u = v := by
  unfold gives execOp
  simp only [ho, hx, hy, Sem.run_bind, hl, Result.andThen_ok, Sem.run_pure]
  exact ⟨Behind.refl w, trivial⟩
/-- A list of declarations in blocks ahead of B. -/
def StyLow (w : World) (B : Nat) (sv : Value) (l : List Dc) : Prop := ∃ A c, sv = .slice A l.length c ∧ Row w B A (i64s (dCells l)) ∧ l.length ≤ 1000000 ∧ (A = none → c = 0)
theorem StyLow.at_ {w : World} {B : Nat} {sv : Value} {l : List Dc} (h : StyLow w B sv l) (hB : B ≤ w.heap.size) : StyAt w sv l := by
  obtain ⟨A, c, e, hr, hl, hn⟩ := h
  exact ⟨A, c, e, hr.more hB, hl, hn⟩
theorem StyLow.below {w w' : World} {B : Nat} {sv : Value} {l : List Dc} (h : StyLow w B sv l) (hb : Below B w w') : StyLow w' B sv l := by
  obtain ⟨A, c, e, hr, hl, hn⟩ := h
  exact ⟨A, c, e, hr.below hb, hl, hn⟩
theorem ngive_any {W : World} {base t : Nat} {most : Int} {L : List Nd} (hT : Tree W base t most L) (hb0 : base ≤ W.heap.size) {n : Nd} {sv : Value} (hs : StyLow W base sv n.sty) (h2 : hasZ L n.id = true) :
    Calls Tryz.prog 36 #[.pointer (some ⟨t, 0, none⟩), .agg (nodeC n sv).toArray] W fun e w' => e = .returned (.tuple #[]) ∧ Tree w' base t most (giveZ L n) ∧ Below base W w' := by
  have B0 := Lib.hid ((Below.refl W.heap.size W).alloc (Nat.le_refl _) (.cells (nodeC n sv).toArray 32))
  have P0 := Lib.hid (Whole.mk W 32 (nodeC n sv).toArray)
  obtain ⟨b, f, svs, kvs, hT⟩ := hT.behind B0.out
  have HS := Lib.hid (hs.below (B0.out.mono hb0))
  have HT := Lib.hid hT
  obtain ⟨A0, c0, rfl, -⟩ := hs
  obtain ⟨p, hp, hpi⟩ := has_iff.1 h2
  obtain ⟨g, hg⟩ := hT.there hp
  rw [hpi] at hg
  have hI : In64i n.id := by have := hT.ok.rng p hp; unfold In64i; omega
  clear hT
  go_enter Tryz.func36, Tryz.ntmps36
  go_upto_region 1 with fail
  generalize W.alloc _ = w0 at *
  have YL := Lib.hid (fun w (hb : Behind w0 w) => (show (Instr.lookup 86 (.map (some b)) (.int .i64 n.id) false).run Tryz.prog w = .ok (.pointer (some ⟨g, 0, none⟩)) w from by have := (HT.out.behind hb).look hI; rw [hg] at this; exact this))
  have y1 : ∀ x : Later w0.heap.size w0, x.w.cell? ⟨t, 1, none⟩ = some (.map (some b)) := fun x => (HT.out.hd.under x.h HT.out.hd.size).cell 1
  have y2 : ∀ x : Later w0.heap.size w0, x.w.cell? ⟨W.heap.size, 0, none⟩ = some (.int .i64 n.id) := fun x => (P0.out.under x.h P0.out.size).cell 0
  refine region_lane [] [0, 1, 2, 3, 4, 5, 6] [7] (by kernel_rfl) (by kernel_rfl) (fun _ _ _ _ _ h => h) ?_
  simp only [pick, List.map_nil]
  refine wpQuiet_nil ⟨rfl, ?_⟩
  simp only [List.map_cons, List.map_nil, List.getD_cons_zero, List.getD_cons_succ, List.drop_succ_cons, List.drop_zero]
  refine laneO_run 6 (by kernel_rfl) ?_
  simp only [List.take_succ_cons, List.take_zero, List.drop_succ_cons, List.drop_zero]
  repeat (go_big_quiet_step (fail))
  refine wpQuiet_nil ?_
  refine laneO_fixed (v := .pointer (some ⟨g, 0, none⟩)) (by kernel_rfl) (fun w hw => .inl ⟨by rfl, look_gives (.tmp 8) (.tmp 10) rfl rfl rfl (YL.out w hw)⟩) ?_
  simp only [Act.put, List.setIfInBounds_toArray, List.set_cons_zero, List.set_cons_succ]
  refine laneO_end0 rfl rfl fun w1 hb1 => ?_
  clear y1 y2 YL
  have H1 := HT.out.behind hb1
  have P1 := Lib.hid (P0.out.under hb1 P0.out.size)
  have B1 := Lib.hid (B0.out.trans (Below.mono hb1 B0.out.size))
  have S1 := Lib.hid (HS.out.below (Below.mono hb1 (by have := B0.out.size; omega)))
  have hG := (H1.nod p hp g (by rw [hpi]; exact hg)).2
  have hPn : W.heap.size ≠ g := fun e => by have x1 := P1.out; rw [e] at x1; exact absurd (whole_two x1 hG) (by decide)
  have q3 : w1.cell? ⟨W.heap.size, 3, none⟩ = some (.string n.dat) := P1.out.cell 3
  have d3 : w1.cell? ⟨g, 3, none⟩ = some (.string p.dat) := hG.cell 3
  have f3 := hG.free 3
  have G2 := Lib.hid (hG.put 3 (.string n.dat))
  have P2 := Lib.hid (P1.out.other (p := ⟨g, 3, none⟩) hPn (.string n.dat))
  have O2 : Hid (Only [g] w1 (w1.setCell ⟨g, 3, none⟩ (.string n.dat))) := Lib.hid ((Only.refl _ _).setCell _ (.inl (by simp)) _)
  have HH1 := Lib.hid H1
  clear H1 hG
  go_upto_region 3 with fail
  clear q3 d3 f3
  generalize w1.setCell _ _ = w2 at *
  have hgb : base ≤ g := (HT.out.nod p hp g (by rw [hpi]; exact hg)).1
  have z2 : base ≤ w2.heap.size := by have := B1.out.size; have := O2.out.size; omega
  have S2 := Lib.hid ((S1.out.below (O2.out.below (by simp; exact hgb) (by have := B1.out.size; omega))).at_ z2)
  have q4 : w2.cell? ⟨W.heap.size, 4, none⟩ = some (.slice A0 n.sty.length c0) := P2.out.cell 4
  go_wp2_with fail
  refine (cloneD_any _ n.sty w2 S2.out).mono ?_
  rintro e w3 ⟨sv', rfl, hs3, hb3⟩
  obtain ⟨A3, c3, rfl, -⟩ := id hs3
  have G3 := Lib.hid (G2.out.under hb3 G2.out.size)
  have H3 := Lib.hid (hs3.other G3.out (by decide))
  have S3 := Lib.hid (hs3.mono z2)
  have O3 := Lib.hid (O2.out.trans (T := []) (Only.of_below hb3) (by simp))
  have e4 : w3.cell? ⟨g, 4, none⟩ = some (svs p.id) := G3.out.cell 4
  have f4 := G3.out.free 4
  have G4 : Hid (Whole (w3.setCell ⟨g, 4, none⟩ (.slice A3 n.sty.length c3)) g 90 (ndC ⟨p.id, p.par, p.tx, n.dat, n.sty⟩ (.slice A3 n.sty.length c3) (kvs p.id))) := Lib.hid (G3.out.put 4 (.slice A3 n.sty.length c3))
  have O4 : Hid (Only [g] w1 (w3.setCell ⟨g, 4, none⟩ (.slice A3 n.sty.length c3))) := Lib.hid (O3.out.setCell _ (.inl (by simp)) _)
  have S4 := Lib.hid (S3.out.only (S := [g]) ((Only.refl _ _).setCell ⟨g, 4, none⟩ (.inl (by simp)) (.slice A3 n.sty.length c3)) (by intro k hk hx; simp at hx; subst hx; exact H3.out hk))
  clear hb3 hs3 q4 P1 P2 S1 S2 S3 G2 G3 O2 O3
  go_wp2
  refine bodyPost_end (v := .tuple #[]) (results_none (by kernel_rfl) _ _ _) rfl ⟨rfl, ⟨b, f, _, kvs, HH1.out.give n hp hpi hg O4.out (by rw [← hpi]; exact G4.out) S4.out⟩, ?_⟩
  exact (B1.out.mono hb0).trans (O4.out.below (by simp; exact hgb) (by have := B1.out.size; omega))
end Go.Proofs.YtpbfdfpedpfemaaGreatDoor
