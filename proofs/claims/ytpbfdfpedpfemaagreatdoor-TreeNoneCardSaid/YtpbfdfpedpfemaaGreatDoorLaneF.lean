import Derived.Test.YtpbfdfpedpfemaaGreatDoorLaneW
/- .. where some operations of the region float: they read what no other one of it turns, and may come up anywhere, among the tail, too. No program is named here. -/
namespace Go.Proofs.YtpbfdfpedpfemaaGreatDoor
set_option linter.unusedVariables false
set_option linter.unusedSimpArgs false
open Go Go.RowKit

section
variable {P : Program} {ops : Array Oper} {Q : Exit → Act → World → Prop} {md : Region.Mode} {C : World → Prop}

/-- Whatever order is picked, and every world between is one of the class. -/
def wpAnyC (P : Program) (md : Region.Mode) (ops : Array Oper) (Q : Exit → Act → World → Prop) (C : World → Prop) : Nat → Array Bool → Act → World → Prop
  | 0, listed, a, w => Region.ready md ops listed = [] ∧ Q .normal a w
  | f + 1, listed, a, w => (Region.ready md ops listed = [] → Q .normal a w) ∧ ∀ i ∈ Region.ready md ops listed, wpOp P ops Q i (fun a' w' => C w' ∧ wpAnyC P md ops Q C f (listed.setIfInBounds i true) a' w') a w
theorem wpAny_of_C : ∀ (f : Nat) (listed : Array Bool) (a : Act) (w : World), wpAnyC P md ops Q C f listed a w → wpAny P md ops Q f listed a w := by
  intro f
  induction f with
  | zero => intro listed a w h; exact h
  | succ f ih => intro listed a w h; exact ⟨h.1, fun i hi => wpOp_mono (fun a' w' h' => ih _ _ _ h'.2) (h.2 i hi)⟩

def YieldsC (P : Program) (ops : Array Oper) (C : World → Prop) (o : Oper) (v : Value) (a : Act) : Prop :=
  (Region.wanted o (yielded ops a.tmps) = true ∧ ∀ w, C w → (execOp a.eval o).run P w = .ok (.value v) w) ∨ (Region.wanted o (yielded ops a.tmps) = false ∧ v = undef)
theorem YieldsC.at_ {i : Nat} {o : Oper} {v : Value} {a : Act} (hi : ops[i]? = some o) (hy : YieldsC P ops C o v a) {K : Act → World → Prop} {w : World} (hC : C w) (h : K (a.put o.dst v) w) : wpOp P ops Q i K a w := by
  unfold wpOp
  simp only [hi]
  rcases hy with ⟨hw, hv⟩ | ⟨hw, rfl⟩
  · rw [if_pos hw]
    refine .inl ?_
    unfold Oper.wp
    rw [hv w hC]
    exact h
  · rw [if_neg (by rw [hw]; exact Bool.false_ne_true)]; exact h
theorem YieldsC.same {o : Oper} {v : Value} {a a' : Act} (hy : YieldsC P ops C o v a) (he : execOp a'.eval o = execOp a.eval o) (hw : Region.wanted o (yielded ops a'.tmps) = Region.wanted o (yielded ops a.tmps)) : YieldsC P ops C o v a' := by
  unfold YieldsC at *
  rw [he, hw]; exact hy
theorem wpOp_putC {j : Nat} {oi oj : Oper} {v : Value} (hj : ops[j]? = some oj) (hap : oi.apart ops oj = true) (hsi : ∀ cs b, oi.op ≠ .select cs b) (hsj : ∀ cs b, oj.op ≠ .select cs b)
    (hQ : ∀ c a w, Q (.panic c) (a.put oi.dst v) w → Q (.panic c) a w) {K : Act → World → Prop} {a : Act} {w : World} (hy : YieldsC P ops C oi v a) (h : wpOp P ops Q j K (a.put oi.dst v) w) :
    wpOp P ops Q j (fun a' w' => YieldsC P ops C oi v a' ∧ K (a'.put oi.dst v) w') a w := by
  obtain ⟨h1, h2, h3⟩ := Oper.apart_spec hap
  have keep : ∀ (b : Act), YieldsC P ops C oi v b → ∀ u, YieldsC P ops C oi v (b.put oj.dst u) := fun b hy u => hy.same (execOp_put oi hsi b oj.dst u h3) (wanted_put oi b oj.dst u h3)
  have hd : ∀ d, YieldsC P ops C oi v { a with defers := d :: a.defers } := fun d => hy.same rfl rfl
  unfold wpOp at *
  simp only [hj] at *
  rw [wanted_put oj a oi.dst v h1] at h
  by_cases hw : Region.wanted oj (yielded ops a.tmps) = true
  · rw [if_pos hw] at h ⊢
    rcases h with h | ⟨ha, hl⟩
    · refine .inl ?_
      unfold Oper.wp at *
      rw [execOp_put oj hsj a oi.dst v h1] at h
      generalize (execOp a.eval oj).run P w = r at *
      cases r with
      | halt x w' =>
        cases x <;> simp only [Oper.upon] at h ⊢
        exact hQ _ _ _ h
      | ok n w' =>
        cases n <;> simp only [Oper.upon] at h ⊢
        case value u => exact ⟨keep a hy u, by rw [← Act.put_comm a v u h2]; exact h⟩
        case skip => exact ⟨keep a hy _, by rw [← Act.put_comm a v undef h2]; exact h⟩
        case defer d =>
          refine ⟨keep _ (hd d) _, ?_⟩
          rw [← Act.put_comm _ v undef h2, ← Act.put_defers]
          exact h
        case enter f args =>
          refine Calls.mono h fun e w'' he => ?_
          cases e with
          | returned u => exact ⟨keep a hy u, by rw [← Act.put_comm a v u h2]; exact he⟩
          | panicked c => exact hQ _ _ _ he
          | outgrown => exact he
        case row row args => exact Rows.mono h fun u w'' he => ⟨keep a hy u, by rw [← Act.put_comm a v u h2]; exact he⟩
    · exact .inr ⟨by unfold Oper.asks at *; rw [execOp_put oj hsj a oi.dst v h1] at ha; exact ha, hl⟩
  · rw [if_neg hw] at h ⊢
    exact ⟨keep a hy _, by rw [← Act.put_comm a v undef h2]; exact h⟩
theorem floatC_first {i : Nat} {oi : Oper} {v : Value} (hi : ops[i]? = some oi) (hsel : ∀ (j : Nat) (o : Oper) cs b, ops[j]? = some o → o.op ≠ .select cs b) (hQ : ∀ c a w, Q (.panic c) (a.put oi.dst v) w → Q (.panic c) a w) (f : Nat) :
    ∀ (listed : Array Bool) (a : Act) (w : World), (∀ j oj, ops[j]? = some oj → j ≠ i → listed.getD j true = false → (∀ e ∈ oj.after, Region.binds md e = true → e.on ≠ i) → oi.apart ops oj = true) →
      i ∈ Region.ready md ops listed → YieldsC P ops C oi v a → C w → wpAnyC P md ops Q C f (listed.setIfInBounds i true) (a.put oi.dst v) w → wpAnyC P md ops Q C (f + 1) listed a w := by
  induction f with
  | zero =>
    intro listed a w _ hr hy hC H
    refine ⟨fun h => (by rw [h] at hr; cases hr), fun j hj => ?_⟩
    by_cases e : j = i
    · subst e; exact hy.at_ hi hC ⟨hC, H⟩
    · have := ready_mono hj e
      rw [H.1] at this; cases this
  | succ f ih =>
    intro listed a w hfree hr hy hC H
    refine ⟨fun h => (by rw [h] at hr; cases hr), fun j hj => ?_⟩
    by_cases e : j = i
    · subst e; exact hy.at_ hi hC ⟨hC, H⟩
    · have h1 := H.2 j (ready_mono hj e)
      obtain ⟨hjun, oj, hoj, hall⟩ := mem_ready.1 hj
      have hnot : ∀ x ∈ oj.after, Region.binds md x = true → x.on ≠ i := fun x hx hb heq => by
        have h2 := hall x hx hb
        rw [heq, getD_both (mem_ready.1 hr).1] at h2
        cases h2
      refine wpOp_mono (fun a' w' h3 => ⟨h3.2.1, ih (listed.setIfInBounds j true) a' w' (fun k ok hk hki hk1 hno => hfree k ok hk hki ?_ hno) (ready_mono hr (Ne.symm e)) h3.1 h3.2.1 ?_⟩)
        (wpOp_putC hoj (hfree j oj hoj e hjun hnot) (fun cs b => hsel i oi cs b hi) (fun cs b => hsel j oj cs b hoj) hQ hy h1)
      · by_cases hjk : j = k
        · subst hjk; exact hjun
        · rw [getD_set_ne true hjk] at hk1; exact hk1
      · rw [Array.setIfInBounds_comm _ _ e]; exact h3.2.2

/-- The tail, and every world between is one of the class. -/
def wpTail (P : Program) (ops : Array Oper) (Q : Exit → Act → World → Prop) (C : World → Prop) : List Oper → Act → World → Prop
  | [], a, w => Q .normal a w
  | o :: r, a, w => if Region.wanted o (yielded ops a.tmps) = true then o.wp P a w (fun a' w' => C w' ∧ wpTail P ops Q C r a' w') Q else C w ∧ wpTail P ops Q C r (a.put o.dst undef) w
theorem tail_step {o : Oper} {r : List Oper} {a : Act} {w : World} (hw : Region.wanted o (yielded ops a.tmps) = true) (h : ∀ K : Act → World → Prop, (∀ a' w', C w' → wpTail P ops Q C r a' w' → K a' w') → o.wp P a w K Q) : wpTail P ops Q C (o :: r) a w := by
  unfold wpTail
  rw [if_pos hw]
  exact h _ fun a' w' h1 h2 => ⟨h1, h2⟩
theorem tail_end {a : Act} {w : World} (h : Q .normal a w) : wpTail P ops Q C [] a w := h
/-- A call of one argument in the tail. -/
theorem tail_call1 {o : Oper} {r : List Oper} {a : Act} {w : World} {f : FuncId} {fn : Func} {c : Code} {t : Tmp} {x v : Value} {ts : Array TypeId} {X : World → Prop} (hop : o.op = .call { callee := .value (.func f), args := #[.tmp t], argTypes := ts })
    (hw : Region.wanted o (yielded ops a.tmps) = true) (hx : a.tmps.getD t undef = x) (hf : P.funcs[f]? = some fn) (hname : (fn.name == "runtime.NumGoroutine") = false) (hb : fn.body = some c)
    (h : Calls P f #[x] w fun e w' => e = .returned v ∧ X w') (hX : ∀ w', X w' → C w') (hr : ∀ w', X w' → wpTail P ops Q C r (a.put o.dst v) w') : wpTail P ops Q C (o :: r) a w :=
  tail_step hw fun K hK => by
    unfold Oper.wp
    rw [run_enter hop hf hname hb]
    have e : (#[Operand.tmp t]).map a.eval = #[x] := by simp [Act.eval, ← hx]
    rw [e]
    simp only [Oper.upon]
    refine h.mono fun e w' he => ?_
    obtain ⟨rfl, hx'⟩ := he
    exact hK _ _ (hX _ hx') (hr _ hx')
theorem anyC_of_turn : ∀ (ts : List Nat) (L : Array Bool) (a : Act) (w : World), turnB md ops ts L = true → wpTail P ops Q C (ts.filterMap (ops[·]?)) a w → wpAnyC P md ops Q C ts.length L a w
  | [], _, _, _, hB, h => ⟨by simpa [turnB] using hB, h⟩
  | t :: r, L, a, w, hB, h => by
    simp only [turnB, Bool.and_eq_true, decide_eq_true_eq] at hB
    have ht : t ∈ Region.ready md ops L := by rw [hB.1]; simp
    have ho : ops[t]? = some (ops[t]'(mem_ready'.1 ht).2.1) := Array.getElem?_eq_getElem _
    rw [List.filterMap_cons_some ho] at h
    refine ⟨fun h1 => (by rw [hB.1] at h1; cases h1), fun i hi => ?_⟩
    rw [hB.1] at hi
    obtain rfl : i = t := by simpa using hi
    have hw : wpOp P ops Q i (fun a' w' => C w' ∧ wpTail P ops Q C (r.filterMap (ops[·]?)) a' w') a w := by
      unfold wpOp
      simp only [ho]
      unfold wpTail at h
      split
      · rename_i hw; rw [if_pos hw] at h; exact .inl h
      · rename_i hw; rw [if_neg hw] at h; exact h
    exact wpOp_mono (fun a' w' h' => ⟨h'.1, anyC_of_turn r _ a' w' hB.2 h'.2⟩) hw

/-- What floats, taken first. -/
theorem float_first {w : World} {f : Nat} {K : Act → Prop} (hs : Region.noSelect ops = true) (hQ : ∀ c (a : Act) (d : Tmp) v w, Q (.panic c) (a.put (some d) v) w → Q (.panic c) a w) (hC : C w) : ∀ (fl : List Nat) (L : Array Bool) (a : Act), pureB md ops fl L = true →
    wpQuiet P ops C K (fl.filterMap (ops[·]?)) a → (∀ a', K a' → wpAnyC P md ops Q C f (fl.foldl (fun L k => L.setIfInBounds k true) L) a' w) → wpAnyC P md ops Q C (fl.length + f) L a w
  | [], L, a, _, h, hK => by rw [show ([] : List Nat).length + f = f by simp]; exact hK a h
  | k :: r, L, a, hB, h, hK => by
    simp only [pureB, Bool.and_eq_true] at hB
    obtain ⟨⟨⟨hr, hf⟩, hp⟩, hB⟩ := hB
    cases ho : ops[k]? with
    | none => rw [ho] at hp; simp at hp
    | some o =>
      rw [ho] at hp
      simp only [Option.map_some, Option.getD_some] at hp
      rw [List.filterMap_cons_some ho] at h
      have hst : ∃ v, YieldsC P ops C o v a ∧ wpQuiet P ops C K (r.filterMap (ops[·]?)) (a.put o.dst v) := by
        simp only [wpQuiet] at h
        by_cases hw : Region.wanted o (yielded ops a.tmps) = true
        · rw [if_pos hw] at h
          obtain ⟨v, h1, h2⟩ := h
          exact ⟨v, .inl ⟨hw, fun w hC => simple_run hp (h1 w hC)⟩, h2⟩
        · rw [if_neg hw] at h
          exact ⟨undef, .inr ⟨by simpa using hw, rfl⟩, h⟩
      obtain ⟨v, hy, hrest⟩ := hst
      rw [show (k :: r).length + f = (r.length + f) + 1 by simp; omega]
      exact floatC_first ho (Region.noSelect_spec hs) (fun c a w h' => by cases hd : o.dst with | none => rw [hd] at h'; exact h' | some d => rw [hd] at h'; exact hQ c a d v w h') _ L a w (Region.free_spec ho hf) (by simpa using hr) hy hC
        (float_first hs hQ hC r _ _ hB hrest (by simpa using hK))

section
variable {w0 : World} {a0 : Act} {L0 : Array Bool} {hs : List Nat} {E0 : Env} {Ts : Nat → Told} {g : Nat}
theorem anyC_of_mid (hB : laneB md ops a0.tmps.size L0 hs = true) (hE : ∀ t, Steady (E0 t)) (hO : ∀ pre k post, hs = pre ++ k :: post → ∃ o, ops[k]? = some o ∧ owes P ops w0 (envAt ops Ts pre E0) o (Ts k))
    (hF : ∀ a w, Behind w0 w → a.defers = a0.defers → a.tmps.size = a0.tmps.size → (∀ t, envAt ops Ts hs E0 t (a.tmps.getD t undef) w) → wpAnyC P md ops Q (Behind w0) g (listedAll ops L0 hs) a w) :
    ∀ (f : Nat) (listed : Array Bool) (a : Act) (w : World), (hs.filter fun k => !listed.getD k false).length = f → Mid md ops w0 a0 L0 hs E0 Ts listed a w → wpAnyC P md ops Q (Behind w0) (f + g) listed a w := by
  have hT : ∀ k ∈ hs, Steady (Ts k) := fun k hk => by
    obtain ⟨pre, post, e⟩ := List.append_of_mem hk
    obtain ⟨o, _, h⟩ := hO pre k post e
    exact h.1
  intro f
  induction f with
  | zero =>
    intro listed a w hf m
    obtain ⟨hL, hend⟩ := m.done hf
    rw [Nat.zero_add, hL]
    exact hF a w m.behind m.defers m.tsize hend
  | succ f ih =>
    intro listed a w hf m
    rw [show f + 1 + g = (f + g) + 1 by omega]
    refine ⟨fun h0 => (m.more hB (by omega) h0).elim, fun k hk => ?_⟩
    obtain ⟨hks, hlen⟩ := m.turn hB (by omega) hk
    obtain ⟨pre, post, e⟩ := List.append_of_mem hks
    obtain ⟨o, ho, _, hob⟩ := hO pre k post e
    have hm := m.meets hB e hk
    have hlk : looksOf ops k = o.looksAt ops := by simp [looksOf, ho]
    have hdk : dstOf ops k = o.dst := by simp [dstOf, ho]
    rw [hlk] at hm
    have hgo : ∀ K : Act → World → Prop, (∀ v w', Behind w w' → Ts k v w' → K (a.put o.dst v) w') → wpOp P ops Q k K a w := fun K hK => (hob a w m.behind hm).elim (fun h => wpOp_of_gives ho h hK) fun h => wpOp_of_givesBy ho h hK
    refine hgo _ fun v w' hb hv => ⟨m.behind.trans hb, ?_⟩
    rw [← hdk]
    exact ih _ _ _ (by omega) (m.step hB hE hT hks hk hb hv)
end
end

def finTail (P : Program) (ops : Array Oper) (w0 : World) (Q : Exit → Act → World → Prop) (tail : List Oper) (a1 : Act) (E : Env) : Prop :=
  ∀ a' w', Behind w0 w' → a'.defers = a1.defers → a'.tmps.size = a1.tmps.size → (∀ t, E t (a'.tmps.getD t undef) w') → wpTail P ops Q (Behind w0) tail a' w'
theorem laneO_tail {P : Program} {ops : Array Oper} {Q : Exit → Act → World → Prop} {w0 : World} {a : Act} {F : List (Tmp × Told)} {tail : List Oper} {a1 : Act} (hn : (F.map (·.1)).Nodup) (hl : (F.all fun x => decide (x.1 < a.tmps.size)) = true) (hd : a.defers = a1.defers) (hs : a.tmps.size = a1.tmps.size)
    (h : ∀ w', Behind w0 w' → fillAll F a w' fun a'' => wpTail P ops Q (Behind w0) tail a'' w') : laneO P ops w0 (finTail P ops w0 Q tail a1) [] (envOf a F) :=
  fun a' w' hb h1 h2 hm => fill_spec F a hn (by simpa using hl) (h1.trans hd.symm) (h2.trans hs.symm) hm (h w' hb)
def topFB (ops : Array Oper) (size : Nat) (ps fl hs ts : List Nat) : Bool :=
  Region.noSelect ops && pureB .any ops ps (Array.replicate ops.size false) && pureB .any ops fl (firstAll ops.size ps) && laneB .any ops size (firstAll ops.size (ps ++ fl)) hs && turnB .any ops ts (listedAll ops (firstAll ops.size (ps ++ fl)) hs) && decide (ps.length + (fl.length + (hs.length + ts.length)) = ops.size)
/-- A region that draws its order: ps hang on no world; fl read what stands; hs by promises; then the tail ts in its order. -/
theorem region_float {P : Program} {id : Nat} {Q : Exit → Act → World → Prop} {a : Act} {w : World} {l : List Oper} (ps fl hs ts : List Nat) (hm : P.follows .mixedOrders = true) (hB : topFB l.toArray a.tmps.size ps fl hs ts = true)
    (hQ : ∀ c (a : Act) (d : Tmp) v w, Q (.panic c) (a.put (some d) v) w → Q (.panic c) a w)
    (h : wpQuiet P l.toArray (fun _ => True) (fun a1 => wpQuiet P l.toArray (fun w' => ∃ s : Later w.heap.size w, w' = s.w) (fun a2 => a2.tmps.size = a.tmps.size ∧ laneO P l.toArray w (finTail P l.toArray w Q (pick l ts) a2) (pick l hs) (envOf a2 [])) (pick l fl) a1) (pick l ps) a) : (Code.region id l.toArray true).wp P Q a w := by
  simp only [topFB, Bool.and_eq_true, decide_eq_true_eq] at hB
  obtain ⟨⟨⟨⟨⟨hsel, hp⟩, hfl⟩, hl⟩, hseq⟩, hlen⟩ := hB
  refine wp_region_any hm ?_
  have hcl := closed_fold (md := .any) (ops := l.toArray) ps (Array.replicate l.toArray.size false) (by simp) (fun i hi => by rw [getD_replicate_false] at hi; cases hi) hp
  have hcl2 := closed_fold (md := .any) (ops := l.toArray) fl (firstAll l.toArray.size ps) hcl.2 hcl.1 hfl
  have hfold : fl.foldl (fun L k => L.setIfInBounds k true) (firstAll l.toArray.size ps) = firstAll l.toArray.size (ps ++ fl) := by simp [firstAll, List.foldl_append]
  rw [hfold] at hcl2
  have key : ∀ fuel, fuel = ps.length + (fl.length + (hs.length + ts.length)) → wpAny P .any l.toArray Q fuel (Array.replicate l.toArray.size false) a { w with drawn := w.drawn + 1 } := by
    intro fuel hfuel
    rw [hfuel]
    rw [← pick_eq ps (by simpa using pure_lt ps _ hp)] at h
    refine pure_first hsel hQ ps _ a hp h fun a1 h1 => ?_
    rw [← pick_eq fl (by simpa using pure_lt fl _ hfl)] at h1
    refine wpAny_of_C (C := Behind w) _ _ _ _ (float_first hsel hQ (Behind.drawn w) fl _ a1 hfl (wpQuiet_class (fun w' => ⟨fun hb => ⟨⟨w', hb⟩, rfl⟩, fun ⟨s, e⟩ => e ▸ s.h⟩) _ _ h1) fun a2 ⟨hs2, h2⟩ => ?_)
    show wpAnyC P .any l.toArray Q (Behind w) _ (fl.foldl (fun L k => L.setIfInBounds k true) (firstAll l.toArray.size ps)) a2 _
    rw [hfold]
    have hl' : ∀ k ∈ hs, k < l.toArray.size := fun k hk => by
      simp only [laneB, Bool.and_eq_true] at hl
      obtain ⟨⟨⟨_, _⟩, hh⟩, _⟩ := hl
      simp only [headB, List.all_eq_true, Bool.and_eq_true, decide_eq_true_eq] at hh
      exact (hh k hk).1.1
    rw [← pick_eq hs (by simpa using hl'), ← pick_eq ts (by simpa using turn_lt ts _ hseq)] at h2
    have hpairs : hs.Nodup := by
      simp only [laneB, Bool.and_eq_true] at hl
      exact (pairsB_spec hs hl.1.1.1).1
    obtain ⟨Ts, hO, hF⟩ := lane_all hs _ hpairs (lane_of_laneO hs _ hl' h2)
    have hh' : ∀ k ∈ hs, (firstAll l.toArray.size (ps ++ fl)).getD k false = false := fun k hk => by
      simp only [laneB, Bool.and_eq_true] at hl
      obtain ⟨⟨⟨_, _⟩, hh⟩, _⟩ := hl
      simp only [headB, List.all_eq_true, Bool.and_eq_true] at hh
      simpa using (hh k hk).2
    have hfil : (hs.filter fun k => !(firstAll l.toArray.size (ps ++ fl)).getD k false).length = hs.length := by
      rw [List.filter_eq_self.2]
      intro k hk
      simp only [hh' k hk, Bool.not_false]
    refine anyC_of_mid (w0 := w) (a0 := a2) (E0 := envOf a2 []) (Ts := Ts) (g := ts.length) (by rw [hs2]; exact hl) (envOf_steady (by intro x hx; cases hx)) hO (fun a' w' hb hd hsz' hm' => anyC_of_turn ts _ a' w' hseq (hF a' w' hb hd hsz' hm')) hs.length _ a2 _ hfil
      ⟨Behind.drawn w, hcl2.2, rfl, rfl, hcl2.1, fun _ h => h, fun _ h => .inl h, fun t k hk hlk => ?_, fun t _ => by simp [envOf]⟩
    rw [hh' k hk] at hlk
    cases hlk
  exact key _ hlen.symm
end Go.Proofs.YtpbfdfpedpfemaaGreatDoor
