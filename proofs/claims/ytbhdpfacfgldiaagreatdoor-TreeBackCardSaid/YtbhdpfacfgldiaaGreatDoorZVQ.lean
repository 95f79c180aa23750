import Derived.Test.YtbhdpfacfgldiaaGreatDoorRef6FreshQ
import Derived.Test.YtbhdpfacfgldiaaGreatDoorZSQ
import Derived.Test.YtbhdpfacfgldiaaGreatDoorZRQ
/- A node made keeps a list a tree's. -/
namespace Go.Proofs.YtbhdpfacfgldiaaGreatDoor
open Go Go.RowKit
set_option linter.unusedVariables false
set_option linter.unusedSimpArgs false

theorem given_new (op : Op6) : (givenN op (newN op)).id = op.id ∧ (givenN op (newN op)).par = op.at_ ∧ (givenN op (newN op)).tx = (op.k == 2) := by
  unfold givenN newN
  simp only
  split
  · split <;> exact ⟨rfl, rfl, rfl⟩
  · split <;> exact ⟨rfl, rfl, rfl⟩
theorem given_fit (op : Op6) (h : givenE op (newN op) = 0) : fitB (givenN op (newN op)) = true := by
  unfold givenE givenN at *
  unfold newN at *
  simp only at h ⊢
  by_cases ht : (op.k == 2) = true
  · rw [if_pos ht] at h ⊢
    by_cases hs : 1000 < op.tx.size
    · rw [if_pos hs] at h; cases h
    · rw [if_neg hs]
      unfold fitB
      simp only
      rw [if_pos ht]
      have : op.tx.size ≤ 1000 := by omega
      simp [this]
  · rw [if_neg ht] at h ⊢
    cases hq : parseR (bytesOf op.tx) with
    | bad a er =>
      unfold fitB
      simp only
      rw [if_neg ht]
      rfl
    | ok ds =>
      have hm := parse_may _ ds hq
      unfold fitB
      simp only
      rw [if_neg ht]
      have : (ds.all fun d => mayZ d.p d.w d.k d.n) = true := List.all_eq_true.2 hm
      rw [this]; rfl
theorem fresh_of (most : Int) (L : List Nd) (op : Op6) (h : ofB most L = true) : ofB most (freshL (mostZ most) L op) = true := by
  have hOK := of_ok most L h
  unfold freshL
  by_cases he : freshE (mostZ most) L op = 0
  · rw [if_pos he]
    unfold freshE at he
    split at he
    · cases he
    rename_i hid
    split at he
    · cases he
    rename_i hh
    split at he
    · cases he
    rename_i hm
    split at he
    · rename_i hw; exact absurd he hw
    rename_i hw
    have hw : whereZ L op 1 = 0 := Decidable.byContradiction hw
    obtain ⟨w1, w2, w3, w4⟩ := where_ok hw
    obtain ⟨p1, p2, p3⟩ := place_ok hOK w1 w3
    obtain ⟨g1, g2, g3⟩ := given_new op
    have hf := given_fit op he
    have hh' : hasZ L op.id = false := by simpa using hh
    have hrng : 0 ≤ op.id ∧ op.id ≤ 1000 := by omega
    rw [List.append_assoc, List.singleton_append]
    unfold placeN
    by_cases hb : 0 ≤ op.bf
    · rw [if_pos hb]
      obtain ⟨q1, q2⟩ := p1 hb
      exact before_of most L op.bf _ h q1 (by rw [g2]; exact q2) (by rw [g1]; exact hrng) (by rw [g1]; exact hh') hf (by rw [g2]; exact w1) (by rw [g2]; exact w2) (by rw [g2]; omega) (by omega)
    · rw [if_neg hb]
      have := (end_of most L (givenN op (newN op)) h (by rw [g1]; exact hrng) (by rw [g1]; exact hh') hf (by rw [g2]; exact w1) (by rw [g2]; exact w2) (by rw [g2]; omega) (by omega)).1
      rw [g2] at this
      exact this
  · rw [if_neg he]; exact h
end Go.Proofs.YtbhdpfacfgldiaaGreatDoor
/- quoinref6: Do, of an Op that makes a node. -/
namespace Go.Proofs.YtbhdpfacfgldiaaGreatDoor
open Go Go.RowKit
set_option linter.unusedVariables false
set_option linter.unusedSimpArgs false
set_option maxRecDepth 20000
set_option maxHeartbeats 4000000

theorem R6.slice {w : World} {v : Value} {L : List Nd} (h : R6 w v L) : ∃ A n c, v = .slice A n c := by
  obtain ⟨A, c, svs, e, -⟩ := h
  exact ⟨A, _, c, e⟩
theorem rdo_make (m : Int) (v : Value) (L : List Nd) (op : Op6) (W0 W : World) (hk : op.k = 1 ∨ op.k = 2) (hOK : TreeOk L) (hL : L.length ≤ 1000) (h : R6 W0 v L) (hW : Below W0.heap.size W0 W) (hz : W0.heap.size ≤ W.heap.size) :
    Calls Tryz.prog 30 #[r6V m v, opV op] W fun e w' => ∃ v', e = .returned (.tuple #[r6V m v', .int .i64 (freshE m L op)]) ∧ (∃ A' n' c', v' = .slice A' n' c') ∧ (∀ w2 S, Only S w' w2 → (∀ g ∈ S, W0.heap.size ≤ g ∧ g < W.heap.size) → R6 w2 v' (freshL m L op)) ∧ Below W.heap.size W w' := by
  obtain ⟨A, n0, c, rfl⟩ := h.slice
  have FR := Lib.hid (fun w (hw : Below W0.heap.size W0 w) (hz : W0.heap.size ≤ w.heap.size) => rfresh_any m (.slice A n0 c) L op W0 w hOK hL h hw hz)
  have HW := Lib.hid hW
  clear h hW
  generalize freshE m L op = fe at *
  generalize freshL m L op = fl at *
  obtain ⟨k, id, at_, bf, tx⟩ := op
  simp only at hk
  have hal := ((((Below.refl W.heap.size W).alloc (Nat.le_refl _) (.cells #[.int .i64 m, .slice A n0 c] 40)).alloc (by simp) (.cells #[.int .i64 k, .int .i64 id, .int .i64 at_, .int .i64 bf, .string tx] 54))).alloc (by simp; omega) (.cells #[.int .i64 0, .slice none 0 0] 40)
  have B0 := Lib.hid hal
  have hsz : (((W.alloc (.cells #[.int .i64 m, .slice A n0 c] 40)).alloc (.cells #[.int .i64 k, .int .i64 id, .int .i64 at_, .int .i64 bf, .string tx] 54)).alloc (.cells #[.int .i64 0, .slice none 0 0] 40)).heap.size = W.heap.size + 1 + 1 + 1 := by simp
  have T0 := Lib.hid (((Whole.mk W 40 #[.int .i64 m, .slice A n0 c]).made (.cells #[.int .i64 k, .int .i64 id, .int .i64 at_, .int .i64 bf, .string tx] 54)).made (.cells #[.int .i64 0, .slice none 0 0] 40))
  have P0 : Hid (Whole (((W.alloc (.cells #[.int .i64 m, .slice A n0 c] 40)).alloc (.cells #[.int .i64 k, .int .i64 id, .int .i64 at_, .int .i64 bf, .string tx] 54)).alloc (.cells #[.int .i64 0, .slice none 0 0] 40)) (W.heap.size + 1) 54 [.int .i64 k, .int .i64 id, .int .i64 at_, .int .i64 bf, .string tx]) := Lib.hid (by
    have h := (Whole.mk (W.alloc (.cells #[.int .i64 m, .slice A n0 c] 40)) 54 #[.int .i64 k, .int .i64 id, .int .i64 at_, .int .i64 bf, .string tx]).made (.cells #[.int .i64 0, .slice none 0 0] 40)
    simpa using h)
  have Y0 : Hid (Whole (((W.alloc (.cells #[.int .i64 m, .slice A n0 c] 40)).alloc (.cells #[.int .i64 k, .int .i64 id, .int .i64 at_, .int .i64 bf, .string tx] 54)).alloc (.cells #[.int .i64 0, .slice none 0 0] 40)) (W.heap.size + 1 + 1) 40 [.int .i64 0, .slice none 0 0]) := Lib.hid (by
    have h := Whole.mk ((W.alloc (.cells #[.int .i64 m, .slice A n0 c] 40)).alloc (.cells #[.int .i64 k, .int .i64 id, .int .i64 at_, .int .i64 bf, .string tx] 54)) 40 #[.int .i64 0, .slice none 0 0]
    simpa using h)
  clear hal
  go_enter Tryz.func30, Tryz.ntmps30
  go_upto_region 1 with fail
  generalize ((W.alloc _).alloc _).alloc _ = w0 at *
  have t0 : w0.cell? ⟨W.heap.size, 0, none⟩ = some (.int .i64 m) := T0.out.cell 0
  have t1 : w0.cell? ⟨W.heap.size, 1, none⟩ = some (.slice A n0 c) := T0.out.cell 1
  have o0 : w0.cell? ⟨W.heap.size + 1, 0, none⟩ = some (.int .i64 k) := P0.out.cell 0
  have o1 : w0.cell? ⟨W.heap.size + 1, 1, none⟩ = some (.int .i64 id) := P0.out.cell 1
  have o2 : w0.cell? ⟨W.heap.size + 1, 2, none⟩ = some (.int .i64 at_) := P0.out.cell 2
  have o3 : w0.cell? ⟨W.heap.size + 1, 3, none⟩ = some (.int .i64 bf) := P0.out.cell 3
  have o4 : w0.cell? ⟨W.heap.size + 1, 4, none⟩ = some (.string tx) := P0.out.cell 4
  have b1 : decide (k < 1) = false := by rw [decide_eq_false_iff_not]; omega
  have b2 : decide (6 < k) = false := by rw [decide_eq_false_iff_not]; omega
  have FC := Lib.hid (FR.out w0 (HW.out.trans (B0.out.mono hz)) (by omega))
  clear FR
  rcases hk with hk | hk
  · have b3 : (k == 1) = true := by rw [beq_iff_eq]; exact hk
    clear hk
    go_wp2_with fail
    refine FC.out.mono ?_
    rintro e w1 ⟨v', rfl, ⟨A', n', c', rfl⟩, hR, hb⟩
    have HR := Lib.hid hR
    have B1 := Lib.hid (B0.out.trans (hb.mono (by omega)))
    have Y1 := Lib.hid (Y0.out.under hb (by omega))
    have hb1 := hb.size
    clear hR hb FC B0 T0 P0 Y0 t0 t1 o0 o1 o2 o3 o4
    go_wp2_with (refine cells_store rtree_flat (.tmp 4) (.tmp 35) rfl rfl (W.heap.size + 1 + 1) rfl [.int .i64 m, .slice A' n' c'] rfl (by simp [Value.oneCell']) rfl 40 [.int .i64 0, .slice none 0 0] ?_ rfl ?_; (focus (exact Y1.out)); intro w9 h9 o9; have R9 := Lib.hid h9; have O9 := Lib.hid o9; clear h9 o9)
    have b9 := O9.out.below (B := W.heap.size) (by simp; omega) B1.out.size
    refine cells_end2 rtree_flat rfl (W.heap.size + 1 + 1) rfl [.int .i64 m, .slice A' n' c'] rfl 40 R9.out rfl ⟨.slice A' n' c', rfl, ⟨_, _, _, rfl⟩, fun w2 S ho hS => ?_, B1.out.trans b9⟩
    refine HR.out w2 ((W.heap.size + 1 + 1) :: S) ((O9.out.mono (T := (W.heap.size + 1 + 1) :: S) (fun x hx => .inl (by simp at hx; simp [hx]))).trans ho fun x hx => .inl (by simp [hx])) fun g hg => ?_
    rcases List.mem_cons.1 hg with rfl | hg
    · omega
    · have := hS g hg; omega
  · have b3 : (k == 1) = false := by rw [beq_eq_false_iff_ne]; omega
    have b4 : (k == 2) = true := by rw [beq_iff_eq]; exact hk
    clear hk
    go_wp2_with fail
    refine FC.out.mono ?_
    rintro e w1 ⟨v', rfl, ⟨A', n', c', rfl⟩, hR, hb⟩
    have HR := Lib.hid hR
    have B1 := Lib.hid (B0.out.trans (hb.mono (by omega)))
    have Y1 := Lib.hid (Y0.out.under hb (by omega))
    have hb1 := hb.size
    clear hR hb FC B0 T0 P0 Y0 t0 t1 o0 o1 o2 o3 o4
    go_wp2_with (refine cells_store rtree_flat (.tmp 4) (.tmp 35) rfl rfl (W.heap.size + 1 + 1) rfl [.int .i64 m, .slice A' n' c'] rfl (by simp [Value.oneCell']) rfl 40 [.int .i64 0, .slice none 0 0] ?_ rfl ?_; (focus (exact Y1.out)); intro w9 h9 o9; have R9 := Lib.hid h9; have O9 := Lib.hid o9; clear h9 o9)
    have b9 := O9.out.below (B := W.heap.size) (by simp; omega) B1.out.size
    refine cells_end2 rtree_flat rfl (W.heap.size + 1 + 1) rfl [.int .i64 m, .slice A' n' c'] rfl 40 R9.out rfl ⟨.slice A' n' c', rfl, ⟨_, _, _, rfl⟩, fun w2 S ho hS => ?_, B1.out.trans b9⟩
    refine HR.out w2 ((W.heap.size + 1 + 1) :: S) ((O9.out.mono (T := (W.heap.size + 1 + 1) :: S) (fun x hx => .inl (by simp at hx; simp [hx]))).trans ho fun x hx => .inl (by simp [hx])) fun g hg => ?_
    rcases List.mem_cons.1 hg with rfl | hg
    · omega
    · have := hS g hg; omega
end Go.Proofs.YtbhdpfacfgldiaaGreatDoor
/- A document's tree in a variable: what is written there leaves the rows of nodes as they are. -/
namespace Go.Proofs.YtbhdpfacfgldiaaGreatDoor
open Go Go.RowKit
set_option linter.unusedVariables false
set_option linter.unusedSimpArgs false

theorem Row.past {w w' : World} {g B : Nat} {A : Option Addr} {xs : List Value} {t : TypeId} {m : Int} {A1 : Option Addr} {n1 c1 : Nat} (h : Row w B A xs) (hB : B ≤ w.heap.size) (hg : Whole w g t [.int .i64 m, .slice A1 n1 c1]) (ho : Only [g] w w') (hx : xs ≠ [] → ∃ a b r, xs = .int .i64 a :: .int .i64 b :: r) : Row w' B A xs := fun hne => by
  obtain ⟨ad, e, hb, hc⟩ := h hne
  obtain ⟨a, b, r, ex⟩ := hx (by intro h0; rw [h0] at hne; exact absurd hne (by simp))
  have hn : ad.block ≠ g := fun hm => by
    subst hm
    have hg2 : w.heap[ad.block]? = some (.cells #[.int .i64 m, .slice A1 n1 c1] t (0, 0)) := hg
    have h0 := hc 0 hne
    have h1 := hc 1 (by rw [ex]; simp)
    subst ex
    obtain ⟨bl, off, sp⟩ := ad
    simp only [World.cell?, Addr.add] at h0 h1 hg2
    simp only [if_true, Nat.one_ne_zero, if_false] at h0 h1
    rw [hg2] at h0 h1
    rcases off with _ | _ | off
    · simp at h1
    · cases sp <;> simp at h0
    · cases sp <;> simp at h0
  exact ⟨ad, e, hb, fun i hi => (ho.cell (by rw [add_block]; omega) (by rw [add_block]; simpa using hn)).trans (hc i hi)⟩
theorem R6.past {w w' : World} {g : Nat} {v : Value} {L : List Nd} {t : TypeId} {m : Int} {A1 : Option Addr} {n1 c1 : Nat} (h : R6 w v L) (hg : Whole w g t [.int .i64 m, .slice A1 n1 c1]) (ho : Only [g] w w') : R6 w' v L := by
  obtain ⟨A, c, svs, e, hc, hs⟩ := h
  refine ⟨A, c, svs, e, hc, hs.len, hs.few, (hs.row.past (Nat.le_refl _) hg ho fun hne => ?_).more ho.size, fun k hk h2 => ?_⟩
  · cases L with
    | nil => exact absurd (show rowsC [] svs = [] by cases svs <;> rfl) hne
    | cons n r =>
      cases svs with
      | nil => exact absurd (show rowsC (n :: r) [] = [] from rfl) hne
      | cons s q => exact ⟨_, _, _, rfl⟩
  · obtain ⟨A2, c2, e2, hr, hl, hn⟩ := hs.sty k hk h2
    refine ⟨A2, c2, e2, (hr.past (Nat.le_refl _) hg ho fun hne => ?_).more ho.size, hl, hn⟩
    cases hd : L[k].sty with
    | nil => rw [hd] at hne; exact absurd rfl hne
    | cons d r => exact ⟨_, _, _, rfl⟩
/-- The list that a tree's variable holds: its length, and where a node's number lies. -/
theorem R6.at_ {w : World} {v : Value} {L : List Nd} (h : R6 w v L) : ∃ A c, v = .slice A L.length c ∧ ∀ k (hk : k < L.length), ∃ ad, A = some ad ∧ ad.block < w.heap.size ∧ w.cell? (ad.add (k * 5)) = some (.int .i64 L[k].id) := by
  obtain ⟨A, c, svs, e, hc, hs⟩ := h
  refine ⟨A, c, e, fun k hk => ?_⟩
  obtain ⟨ad, ea, hb, h0, -⟩ := hs.row.ndr hs.len hk (by have := hs.len; omega)
  exact ⟨ad, ea, hb, h0⟩
theorem PlOwn.r6 {w : World} {lo n c : Nat} {A : Option Addr} {l : List Nd} (h : PlOwn w lo A n c l) (hn : l.length = n) (hc : n ≤ c) (hs : ∀ x ∈ l, x.sty = []) (hl : n ≤ 1000000) : R6 w (.slice A n c) l := by
  subst hn
  refine ⟨A, c, l.map fun _ => noS, rfl, hc, by rw [List.length_map], hl, row_of_own h, fun k hk h2 => ?_⟩
  rw [List.getElem_map, hs _ (List.getElem_mem hk)]
  exact (noS_own w 0).at_
/-- A call in the tail, of whatever it is given, that answers what is not told beforehand. -/
theorem tail_callN {P : Program} {ops : Array Oper} {Q : Exit → Act → World → Prop} {C : World → Prop} {o : Oper} {r : List Oper} {a : Act} {w : World} {f : FuncId} {fn : Func} {c : Code} {args : Array Operand} {xs : Array Value} {ts : Array TypeId} {X : Ending → World → Prop}
    (hop : o.op = .call { callee := .value (.func f), args := args, argTypes := ts }) (hw : Region.wanted o (yielded ops a.tmps) = true) (hx : args.map a.eval = xs) (hf : P.funcs[f]? = some fn) (hname : (fn.name == "runtime.NumGoroutine") = false) (hb : fn.body = some c)
    (h : Calls P f xs w X) (hr : ∀ e w', X e w' → ∃ v, e = .returned v ∧ C w' ∧ wpTail P ops Q C r (a.put o.dst v) w') : wpTail P ops Q C (o :: r) a w :=
  tail_step hw fun K hK => by
    unfold Oper.wp
    rw [run_enter hop hf hname hb, hx]
    simp only [Oper.upon]
    refine h.mono fun e w' he => ?_
    obtain ⟨v, rfl, h1, h2⟩ := hr e w' he
    exact hK _ _ h1 h2
end Go.Proofs.YtbhdpfacfgldiaaGreatDoor
