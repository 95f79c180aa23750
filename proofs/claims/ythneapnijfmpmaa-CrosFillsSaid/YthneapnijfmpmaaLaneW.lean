import Derived.Test.YthneapnijfmpmaaLane
/- .. as it is walked: a literal frame, told slots beside it. No program is named here. -/
namespace Go.Proofs.Ythneapnijfmpmaa
set_option linter.unusedVariables false
set_option linter.unusedSimpArgs false
open Go Go.RowKit

section
variable {P : Program} {ops : Array Oper}

/-- Operations that yield a value and leave the world alone. -/
def simpleOp : Op → Bool
  | .move _ | .assign _ | .pick _ _ _ | .binOp _ _ _ _ _ | .unOp _ _ _ | .convert _ _ _ | .extract _ _ | .fieldAddr _ _ _ | .indexAddr _ _ _ | .field _ _ _ | .load _ _ | .index _ _ _ | .slice _ _ _ _ _ | .nilCheck _ | .typeAssert _ _ _ _ | .makeInterface _ _ => true
  | _ => false
theorem quiet_value {C : World → Prop} {w : World} {u : Value} {s : Sem Value} (h : Oper.quietUpon P C w u ((do pure (Next.value (← s)) : Sem Next).run P w)) : (do pure (Next.value (← s)) : Sem Next).run P w = .ok (.value u) w := by
  rw [Sem.run_bind] at h ⊢
  generalize s.run P w = r at *
  cases r with
  | halt x w' => exact h.elim
  | ok v w' =>
    simp only [Result.andThen_ok, Sem.run_pure, Oper.quietUpon] at h ⊢
    rw [h.1, h.2]
theorem quiet_map {α : Type} {C : World → Prop} {w : World} {u : Value} {s : Sem α} {f : α → Value} (h : Oper.quietUpon P C w u ((do let x ← s; pure (Next.value (f x)) : Sem Next).run P w)) : (do let x ← s; pure (Next.value (f x)) : Sem Next).run P w = .ok (.value u) w := by
  rw [Sem.run_bind] at h ⊢
  generalize s.run P w = r at *
  cases r with
  | halt x w' => exact h.elim
  | ok v w' =>
    simp only [Result.andThen_ok, Sem.run_pure, Oper.quietUpon] at h ⊢
    rw [h.1, h.2]
theorem simple_run {C : World → Prop} {o : Oper} {a : Act} {w : World} {u : Value} (hs : simpleOp o.op = true) (h : o.quietAt P a C w u) : (execOp a.eval o).run P w = .ok (.value u) w := by
  unfold Oper.quietAt at h
  obtain ⟨d, op, ty, pos, af, gd⟩ := o
  cases op <;> simp only [simpleOp, Bool.false_eq_true] at hs
  all_goals simp only [execOp] at h ⊢
  all_goals
    first
      | exact quiet_value h
      | exact quiet_map h
      | (simp only [Sem.run_pure, Oper.quietUpon] at h ⊢; rw [h.2])
      | (rename_i x
         generalize a.eval x = z at *
         rcases z with _ | _ | _ | _ | _ | p | _ | _ | _ | ⟨f, first, captured⟩ | _ | _ | _ | _ | _
         case pointer =>
           cases p with
           | none => exfalso; simp [go_sem, Oper.quietUpon] at h
           | some p => simp only [Sem.run_pure, Oper.quietUpon] at h ⊢; rw [h.2]
         case nilFunc => exfalso; simp [go_sem, Oper.quietUpon] at h
         case nilIface => exfalso; simp [go_sem, Oper.quietUpon] at h
         case func =>
           cases f
           case method name =>
             simp only at h ⊢
             split at h
             · exfalso; simp [go_sem, Oper.quietUpon] at h
             · rename_i t v he
               simp only [Sem.run_bind] at h ⊢
               generalize program.run P w = r1 at *
               cases r1 with
               | halt y w' => exact h.elim
               | ok pr w1 =>
                 simp only [Result.andThen_ok] at h ⊢
                 generalize (nilAhead (pr.types.size + Made.depth) t v name).run P w1 = r2 at *
                 cases r2 with
                 | halt y w' => exact h.elim
                 | ok q w2 =>
                   simp only [Result.andThen_ok] at h ⊢
                   split at h
                   · exfalso; simp [go_sem, Oper.quietUpon] at h
                   · rename_i hq
                     rw [if_neg hq]
                     simp only [Sem.run_pure, Oper.quietUpon] at h ⊢
                     rw [h.1, h.2]
             · simp only [Sem.run_pure, Oper.quietUpon] at h
               rw [h.2, Sem.run_pure]
           all_goals (simp only [Sem.run_pure, Oper.quietUpon] at h ⊢; rw [h.2])
         all_goals (simp only [Sem.run_pure, Oper.quietUpon] at h ⊢; rw [h.2]))

variable {md : Region.Mode} {Q : Exit → Act → World → Prop}
/-- What hangs on no world at all, taken ahead of all. -/
def pureB (md : Region.Mode) (ops : Array Oper) : List Nat → Array Bool → Bool
  | [], _ => true
  | k :: r, L => (Region.ready md ops L).contains k && Region.free md ops L k && ((ops[k]?).map fun o => simpleOp o.op).getD false && pureB md ops r (L.setIfInBounds k true)
theorem pure_first {w : World} {f : Nat} {K : Act → Prop} (hs : Region.noSelect ops = true) (hQ : ∀ c (a : Act) (d : Tmp) v w, Q (.panic c) (a.put (some d) v) w → Q (.panic c) a w) : ∀ (ps : List Nat) (L : Array Bool) (a : Act), pureB md ops ps L = true →
    wpQuiet P ops (fun _ => True) K (ps.filterMap (ops[·]?)) a → (∀ a', K a' → wpAny P md ops Q f (ps.foldl (fun L k => L.setIfInBounds k true) L) a' w) → wpAny P md ops Q (ps.length + f) L a w
  | [], L, a, _, h, hK => by rw [show ([] : List Nat).length + f = f by simp]; exact hK a h
  | k :: r, L, a, hB, h, hK => by
    simp only [pureB, Bool.and_eq_true] at hB
    obtain ⟨⟨⟨hr, hf⟩, hp⟩, hB⟩ := hB
    cases ho : ops[k]? with
    | none => rw [ho] at hp; simp at hp
    | some o =>
      rw [ho] at hp
      simp only [Option.map_some, Option.getD_some] at hp
      rw [List.filterMap_cons_some ho] at h
      have hst : ∃ v, Yields P ops o v a ∧ wpQuiet P ops (fun _ => True) K (r.filterMap (ops[·]?)) (a.put o.dst v) := by
        simp only [wpQuiet] at h
        by_cases hw : Region.wanted o (yielded ops a.tmps) = true
        · rw [if_pos hw] at h
          obtain ⟨v, h1, h2⟩ := h
          exact ⟨v, .inl ⟨hw, fun w => simple_run hp (h1 w trivial)⟩, h2⟩
        · rw [if_neg hw] at h
          exact ⟨undef, .inr ⟨by simpa using hw, rfl⟩, h⟩
      obtain ⟨v, hy, hrest⟩ := hst
      rw [show (k :: r).length + f = (r.length + f) + 1 by simp; omega]
      exact wpAny_take ho hs hf hr (fun c a w h' => by cases hd : o.dst with | none => rw [hd] at h'; exact h' | some d => rw [hd] at h'; exact hQ c a d v w h') hy (pure_first hs hQ r _ _ hB hrest (by simpa using hK))

theorem wpQuiet_class {C C' : World → Prop} (h : ∀ w, C' w ↔ C w) {K : Act → Prop} : ∀ (l : List Oper) (a : Act), wpQuiet P ops C K l a → wpQuiet P ops C' K l a := by
  have e : C' = C := funext fun w => propext (h w)
  subst e
  exact fun _ _ h => h
/-- The lane over the operations themselves. -/
def laneO (P : Program) (ops : Array Oper) (w0 : World) (Fin : Env → Prop) : List Oper → Env → Prop
  | [], E => Fin E
  | o :: r, E => ∃ T, owes P ops w0 E o T ∧ laneO P ops w0 Fin r (upd E o.dst T)
theorem lane_of_laneO {w0 : World} {Fin : Env → Prop} : ∀ (hs : List Nat) (E : Env), (∀ k ∈ hs, k < ops.size) → laneO P ops w0 Fin (hs.filterMap (ops[·]?)) E → lane P ops w0 Fin hs E
  | [], _, _, h => h
  | k :: r, E, hl, h => by
    have ho : ops[k]? = some (ops[k]'(hl k (by simp))) := Array.getElem?_eq_getElem (hl k (by simp))
    rw [List.filterMap_cons_some ho] at h
    obtain ⟨T, h1, h2⟩ := h
    exact ⟨_, T, ho, h1, lane_of_laneO r _ (fun j hj => hl j (by simp [hj])) h2⟩

/-- A literal frame, some of whose slots are told another way. -/
def envOf (a : Act) (F : List (Tmp × Told)) : Env := fun t v w => match F.lookup t with | some T => T v w | none => v = a.tmps.getD t undef
def SteadyAll (F : List (Tmp × Told)) : Prop := ∀ x ∈ F, Steady x.2
theorem envOf_steady {a : Act} {F : List (Tmp × Told)} (h : SteadyAll F) (t : Tmp) : Steady (envOf a F t) := fun v w w' hb hv => by
  unfold envOf at hv ⊢
  cases hl : F.lookup t with
  | none => rw [hl] at hv; exact hv
  | some T =>
    rw [hl] at hv
    refine h (t, T) ?_ v w w' hb hv
    obtain ⟨l1, l2, e, _⟩ := List.lookup_eq_some_iff.1 hl
    rw [e]; simp
def clearB (F : List (Tmp × Told)) (ts : List Tmp) : Bool := ts.all fun t => (F.lookup t).isNone
theorem clear_spec {F : List (Tmp × Told)} {ts : List Tmp} (h : clearB F ts = true) {t : Tmp} (ht : t ∈ ts) : F.lookup t = none := by
  simp only [clearB, List.all_eq_true] at h
  simpa using h t ht
def isBool : Value → Option Bool
  | .bool b => some b
  | _ => none
theorem boolAt (x : Array Value) (t : Tmp) : (match x[t]? with | some (.bool b) => some b | _ => none) = isBool (x.getD t undef) := by
  rw [Array.getD_eq_getD_getElem?]
  cases x[t]? with
  | none => rfl
  | some v => cases v <;> rfl
theorem same_exec {a a' : Act} {w : World} {F : List (Tmp × Told)} {o : Oper} (hsel : ∀ cs b, o.op ≠ .select cs b) (hc : clearB F (o.looksAt ops) = true) (h : meets (envOf a F) (o.looksAt ops) a' w) :
    execOp a'.eval o = execOp a.eval o ∧ Region.wanted o (yielded ops a'.tmps) = Region.wanted o (yielded ops a.tmps) := by
  have hg : ∀ t ∈ o.looksAt ops, a'.tmps.getD t undef = a.tmps.getD t undef := fun t ht => by
    have := h t ht
    unfold envOf at this
    rw [clear_spec hc ht] at this
    exact this
  refine ⟨execOp_congr o hsel fun x hx => ?_, ?_⟩
  · cases x with
    | tmp t => exact hg t (List.mem_append_left _ (List.mem_filterMap.2 ⟨.tmp t, by simpa using hx, rfl⟩))
    | _ => rfl
  · unfold Region.wanted
    cases hgd : o.guard with
    | none => rfl
    | some gw =>
      obtain ⟨j, want⟩ := gw
      have hy : yielded ops a'.tmps j = yielded ops a.tmps j := by
        unfold yielded
        cases ht : (ops[j]?).bind (·.dst) with
        | none => rfl
        | some t =>
          have := hg t (List.mem_append_right _ (by simp [hgd, ht]))
          simp only [Option.bind_some]
          exact (boolAt a'.tmps t).trans ((congrArg isBool this).trans (boolAt a.tmps t).symm)
      simp only [hy]
theorem upd_fixed {a : Act} {F : List (Tmp × Told)} {d : Tmp} {v : Value} (hd : d < a.tmps.size) (hF : F.lookup d = none) : upd (envOf a F) (some d) (fun u _ => u = v) = envOf (a.put (some d) v) F := by
  funext t u w
  unfold upd envOf
  by_cases h : d = t
  · subst h
    rw [if_pos rfl, hF]
    simp only [put_getD a d d v hd, if_true]
  · rw [if_neg (fun e => h (Option.some.inj e))]
    cases F.lookup t with
    | some T => rfl
    | none => simp only [put_getD a d t v hd, if_neg h]
theorem upd_told {a : Act} {F : List (Tmp × Told)} {d : Tmp} {T : Told} : upd (envOf a F) (some d) T = envOf a ((d, T) :: F) := by
  funext t u w
  unfold upd envOf
  by_cases h : d = t
  · subst h; simp
  · rw [if_neg (fun e => h (Option.some.inj e)), List.lookup_cons]
    have : (t == d) = false := by rw [beq_eq_false_iff_ne]; exact fun e => h e.symm
    rw [this]

variable {w0 : World} {Fin : Env → Prop} {a : Act} {F : List (Tmp × Told)} {o : Oper} {r : List Oper} {d : Tmp}
def notSelect (o : Oper) : Bool := match o.op with | .select _ _ => false | _ => true
theorem notSelect_spec (h : notSelect o = true) : ∀ cs b, o.op ≠ .select cs b := fun cs b e => by simp [notSelect, e] at h
/-- The operation's own words: it has a slot, within the frame, that nothing is told of; nothing is told of what it looks at. -/
def plainB (ops : Array Oper) (size : Nat) (F : List (Tmp × Told)) (o : Oper) : Bool := notSelect o && clearB F (o.looksAt ops) && match o.dst with | some d => decide (d < size) && (F.lookup d).isNone | none => false
theorem laneO_fixed {v : Value} (hp : plainB ops a.tmps.size F o = true) (h : ∀ w, Behind w0 w → givesIf P ops o a w fun u _ => u = v) (hr : laneO P ops w0 Fin r (envOf (a.put o.dst v) F)) : laneO P ops w0 Fin (o :: r) (envOf a F) := by
  simp only [plainB, Bool.and_eq_true] at hp
  obtain ⟨⟨hsel, hc⟩, hd⟩ := hp
  cases ho : o.dst with
  | none => rw [ho] at hd; simp at hd
  | some d =>
    rw [ho] at hd hr
    simp only [Bool.and_eq_true, decide_eq_true_eq, Option.isNone_iff_eq_none] at hd
    refine ⟨_, ⟨steady_eq v, fun a' w hb hm => .inl ?_⟩, ?_⟩
    · obtain ⟨e1, e2⟩ := same_exec (notSelect_spec hsel) hc hm
      have := h w hb
      unfold givesIf gives at this ⊢
      rw [e1, e2]
      exact this
    · rw [ho, upd_fixed hd.1 hd.2]; exact hr
theorem laneO_told (T : Told) (hT : Steady T) (hp : plainB ops a.tmps.size F o = true) (ho : o.dst = some d) (h : ∀ w, Behind w0 w → givesIf P ops o a w T) (hr : laneO P ops w0 Fin r (envOf a ((d, T) :: F))) : laneO P ops w0 Fin (o :: r) (envOf a F) := by
  simp only [plainB, Bool.and_eq_true] at hp
  obtain ⟨⟨hsel, hc⟩, _⟩ := hp
  refine ⟨T, ⟨hT, fun a' w hb hm => .inl ?_⟩, ?_⟩
  · obtain ⟨e1, e2⟩ := same_exec (notSelect_spec hsel) hc hm
    have := h w hb
    unfold givesIf gives at this ⊢
    rw [e1, e2]
    exact this
  · rw [ho, upd_told]; exact hr
/-- A run of operations that leave the world alone, by the quiet walk. -/
theorem laneO_quiet : ∀ (l : List Oper) (a : Act), (l.all fun o => simpleOp o.op && plainB ops a.tmps.size F o) = true →
    wpQuiet P ops (fun w' => ∃ s : Later w0.heap.size w0, w' = s.w) (fun a' => laneO P ops w0 Fin r (envOf a' F)) l a → laneO P ops w0 Fin (l ++ r) (envOf a F)
  | [], a, _, h => h
  | o :: l, a, hB, h => by
    simp only [List.all_cons, Bool.and_eq_true] at hB
    obtain ⟨⟨hs, hp⟩, hB⟩ := hB
    simp only [wpQuiet] at h
    have hsz : ∀ v, (a.put o.dst v).tmps.size = a.tmps.size := fun v => by cases o.dst <;> simp [Act.put]
    by_cases hw : Region.wanted o (yielded ops a.tmps) = true
    · rw [if_pos hw] at h
      obtain ⟨v, h1, h2⟩ := h
      refine laneO_fixed hp (fun w hb => .inl ⟨hw, ?_⟩) (laneO_quiet l _ (by rw [hsz]; exact hB) h2)
      have := simple_run hs (h1 w ⟨⟨w, hb⟩, rfl⟩)
      unfold gives
      rw [this]
      exact ⟨Behind.refl w, rfl⟩
    · rw [if_neg hw] at h
      exact laneO_fixed hp (fun w hb => .inr ⟨by simpa using hw, rfl⟩) (laneO_quiet l _ (by rw [hsz]; exact hB) h)
theorem laneO_run (n : Nat) {l : List Oper} (hB : ((l.take n).all fun o => simpleOp o.op && plainB ops a.tmps.size F o) = true)
    (h : wpQuiet P ops (fun w' => ∃ s : Later w0.heap.size w0, w' = s.w) (fun a' => laneO P ops w0 Fin (l.drop n) (envOf a' F)) (l.take n) a) : laneO P ops w0 Fin l (envOf a F) := by
  have := laneO_quiet (r := l.drop n) (l.take n) a hB h
  rwa [List.take_append_drop] at this
/-- A call whose arguments are told by the frame: one value, in whatever world that lies behind. -/
theorem laneO_call {v : Value} (hp : plainB ops a.tmps.size F o = true) (hw : Region.wanted o (yielded ops a.tmps) = true)
    (h : ∀ C : World → Prop, (∀ w w', C w → Behind w w' → C w') → (∀ w, C w → Behind w0 w) → o.quiet P a C fun a' => a' = a.put o.dst v) (hr : laneO P ops w0 Fin r (envOf (a.put o.dst v) F)) : laneO P ops w0 Fin (o :: r) (envOf a F) := by
  refine laneO_fixed hp (fun w hb => .inl ⟨hw, ?_⟩) hr
  obtain ⟨u, h1, h2⟩ := h (Behind w) (fun w1 w2 h1 h2 => h1.trans h2) (fun w1 h1 => hb.trans h1)
  have hq := h1 w (Behind.refl w)
  have hu : u = v := by
    simp only [plainB, Bool.and_eq_true] at hp
    obtain ⟨_, hd⟩ := hp
    cases ho : o.dst with
    | none => rw [ho] at hd; simp at hd
    | some d =>
      rw [ho] at hd h2
      simp only [Bool.and_eq_true, decide_eq_true_eq] at hd
      have := congrArg (fun x : Act => x.tmps.getD d undef) h2
      simpa only [put_getD a d d _ hd.1, if_true] using this
  subst hu
  unfold Oper.quietAt at hq
  unfold gives
  generalize (execOp a.eval o).run P w = x at *
  cases x with
  | halt x w' => exact hq.elim
  | ok n w' =>
    cases n <;> simp only [Oper.quietUpon] at hq ⊢
    case value x => exact ⟨hq.1 ▸ Behind.refl w, hq.2⟩
    case skip => exact ⟨hq.1 ▸ Behind.refl w, hq.2.symm⟩
    case enter f args =>
      obtain ⟨rfl, hq⟩ := hq
      exact ⟨Behind.refl _, hq.mono fun e w'' ⟨he, hb⟩ => ⟨_, he, hb, rfl⟩⟩
/-- A call that hands back what is told. -/
theorem laneO_use {v : Value} (hsel : notSelect o = true) (ho : o.dst = some d) (hd : d < a.tmps.size) (hF : F.lookup d = none)
    (h : ∀ a' w, Behind w0 w → meets (envOf a F) (o.looksAt ops) a' w → givesIf P ops o a' w fun u _ => u = v) (hr : laneO P ops w0 Fin r (envOf (a.put (some d) v) F)) : laneO P ops w0 Fin (o :: r) (envOf a F) :=
  ⟨_, ⟨steady_eq v, fun a' w hb hm => .inl (h a' w hb hm)⟩, by rw [ho, upd_fixed hd hF]; exact hr⟩
/-- An operation that the walk's own law runs, on what is told. -/
theorem laneO_by (T : Told) (hT : Steady T) (ho : o.dst = some d) (h : ∀ a' w, Behind w0 w → meets (envOf a F) (o.looksAt ops) a' w → givesBy P ops o a' w T) (hr : laneO P ops w0 Fin r (envOf a ((d, T) :: F))) : laneO P ops w0 Fin (o :: r) (envOf a F) :=
  ⟨T, ⟨hT, fun a' w hb hm => .inr (h a' w hb hm)⟩, by rw [ho, upd_told]; exact hr⟩

/-- An operation that is not wanted. -/
theorem laneO_skip (hp : plainB ops a.tmps.size F o = true) (hw : Region.wanted o (yielded ops a.tmps) = false) (hr : laneO P ops w0 Fin r (envOf (a.put o.dst undef) F)) : laneO P ops w0 Fin (o :: r) (envOf a F) :=
  laneO_fixed hp (fun _ _ => .inr ⟨hw, rfl⟩) hr
def guardSlots (ops : Array Oper) (o : Oper) : List Tmp := match o.guard with | some (g, _) => ((ops[g]?).bind (·.dst)).toList | none => []
theorem same_wanted {a' : Act} (h : ∀ t ∈ guardSlots ops o, a'.tmps.getD t undef = a.tmps.getD t undef) : Region.wanted o (yielded ops a'.tmps) = Region.wanted o (yielded ops a.tmps) := by
  unfold Region.wanted
  cases hgd : o.guard with
  | none => rfl
  | some gw =>
    obtain ⟨j, want⟩ := gw
    have hy : yielded ops a'.tmps j = yielded ops a.tmps j := by
      unfold yielded
      cases ht : (ops[j]?).bind (·.dst) with
      | none => rfl
      | some t =>
        have := h t (by simp [guardSlots, hgd, ht])
        simp only [Option.bind_some]
        exact (boolAt a'.tmps t).trans ((congrArg isBool this).trans (boolAt a.tmps t).symm)
    simp only [hy]
theorem run_enter {f : FuncId} {fn : Func} {c : Code} {xs : Array Operand} {ts : Array TypeId} {a' : Act} {w : World} (hop : o.op = .call { callee := .value (.func f), args := xs, argTypes := ts }) (hf : P.funcs[f]? = some fn) (hname : (fn.name == "runtime.NumGoroutine") = false) (hb : fn.body = some c) :
    (execOp a'.eval o).run P w = .ok (.enter f (xs.map a'.eval)) w := by
  have hn : ¬ (fn.name = "runtime.NumGoroutine") := by simpa using hname
  simp [execOp, hop, resolve, Act.eval, Deferred.ofValue, invoke, callFunc, hf, hn, hb]
/-- A call of one argument that is told. -/
theorem laneO_useCall {f : FuncId} {fn : Func} {c : Code} {t : Tmp} {T : Told} {v : Value} {ts : Array TypeId} (hop : o.op = .call { callee := .value (.func f), args := #[.tmp t], argTypes := ts }) (ho : o.dst = some d) (hd : d < a.tmps.size) (hF : F.lookup d = none)
    (hw : Region.wanted o (yielded ops a.tmps) = true) (hg : clearB F (guardSlots ops o) = true) (hT : F.lookup t = some T) (hf : P.funcs[f]? = some fn) (hname : (fn.name == "runtime.NumGoroutine") = false) (hb : fn.body = some c)
    (h : ∀ x w, Behind w0 w → T x w → Calls P f #[x] w fun e w' => e = .returned v ∧ Below w.heap.size w w') (hr : laneO P ops w0 Fin r (envOf (a.put (some d) v) F)) : laneO P ops w0 Fin (o :: r) (envOf a F) := by
  refine laneO_use (by simp [notSelect, hop]) ho hd hF (fun a' w hb' hm => .inl ⟨?_, ?_⟩) hr
  · rw [same_wanted (a := a) fun s hs => ?_]
    · exact hw
    · have h1 := hm s (by
        unfold guardSlots at hs
        unfold Oper.looksAt
        exact List.mem_append_right _ hs)
      unfold envOf at h1
      rw [clear_spec hg hs] at h1
      exact h1
  · unfold gives
    rw [run_enter hop hf hname hb]
    have h1 := hm t (by simp [Oper.looksAt, hop, Op.operands, Call.operands])
    unfold envOf at h1
    rw [hT] at h1
    refine ⟨Behind.refl w, ?_⟩
    have e : (#[Operand.tmp t]).map a'.eval = #[a'.tmps.getD t undef] := by simp [Act.eval]
    rw [e]
    exact (h _ w hb' h1).mono fun e w' ⟨he, hb⟩ => ⟨v, he, hb, rfl⟩
/-- A slice that was just made: a block of its own. -/
def madeT (n : Nat) (t : TypeId) (cs : List Value) : Told := fun v w => ∃ g, v = .slice (some ⟨g, 0, none⟩) n n ∧ w.heap[g]? = some (.cells cs.toArray t (0, 0))
theorem madeT_steady (n : Nat) (t : TypeId) (cs : List Value) : Steady (madeT n t cs) := fun v w w' hb ⟨g, h1, h2⟩ => ⟨g, h1, (hb.block g (Array.getElem?_eq_some_iff.1 h2).1).trans h2⟩
theorem madeT_new (n : Nat) (t : TypeId) (cs : Array Value) (w : World) : Behind w (w.alloc (.cells cs t)) ∧ madeT n t cs.toList (.slice (some ⟨w.heap.size, 0, none⟩) n n) (w.alloc (.cells cs t)) :=
  ⟨(Below.refl _ _).alloc (Nat.le_refl _) _, _, rfl, by simpa using heap_alloc_new w (.cells cs t)⟩

/-- What is told is filled in. -/
def fillAll : List (Tmp × Told) → Act → World → (Act → Prop) → Prop
  | [], a, _, K => K a
  | (t, T) :: F, a, w, K => ∀ x, T x w → fillAll F (a.put (some t) x) w K
theorem fill_spec {w : World} {K : Act → Prop} {a' : Act} : ∀ (F : List (Tmp × Told)) (a : Act), (F.map (·.1)).Nodup → (∀ x ∈ F, x.1 < a.tmps.size) → a'.defers = a.defers → a'.tmps.size = a.tmps.size →
    (∀ t, envOf a F t (a'.tmps.getD t undef) w) → fillAll F a w K → K a'
  | [], a, _, _, hd, hs, hm, h => by
    have : a' = a := by
      obtain ⟨t1, d1⟩ := a'
      obtain ⟨t2, d2⟩ := a
      simp only at hd hs
      subst hd
      congr 1
      refine Array.ext hs fun i h1 h2 => ?_
      have := hm i
      simp only [envOf, List.lookup_nil] at this
      simpa [h1, h2] using this
    rw [this]; exact h
  | (t, T) :: F, a, hn, hl, hd, hs, hm, h => by
    simp only [List.map_cons, List.nodup_cons] at hn
    have ht : t < a.tmps.size := hl (t, T) (by simp)
    have hx : T (a'.tmps.getD t undef) w := by have := hm t; simpa [envOf] using this
    have hnone : F.lookup t = none := by
      rw [List.lookup_eq_none_iff]
      intro p hp
      have : t ≠ p.1 := fun e => hn.1 (List.mem_map.2 ⟨p, hp, e.symm⟩)
      simpa using this
    refine fill_spec F (a.put (some t) (a'.tmps.getD t undef)) hn.2 (fun x hx => by simpa [Act.put] using hl x (by simp [hx])) (by simpa [Act.put] using hd) (by simpa [Act.put] using hs) (fun s => ?_) (h _ hx)
    have := hm s
    unfold envOf at this ⊢
    by_cases hst : s = t
    · subst hst
      rw [hnone]
      simp only [put_getD a s s _ ht, if_true]
    · have hb : (s == t) = false := by rw [beq_eq_false_iff_ne]; exact hst
      rw [List.lookup_cons, hb] at this
      simp only at this
      cases hF : F.lookup s with
      | some U => rw [hF] at this; exact this
      | none => rw [hF] at this; simp only [put_getD a t s _ ht, if_neg (Ne.symm hst)]; exact this

def finOf (P : Program) (ops : Array Oper) (w0 : World) (Q : Exit → Act → World → Prop) (tail : List Oper) (a1 : Act) (E : Env) : Prop :=
  ∀ a' w', Behind w0 w' → a'.defers = a1.defers → a'.tmps.size = a1.tmps.size → (∀ t, E t (a'.tmps.getD t undef) w') → wpList P ops Q tail a' w'
theorem laneO_end {tail : List Oper} {a1 : Act} (hn : (F.map (·.1)).Nodup) (hl : (F.all fun x => decide (x.1 < a.tmps.size)) = true) (hd : a.defers = a1.defers) (hs : a.tmps.size = a1.tmps.size) (h : ∀ w', Behind w0 w' → fillAll F a w' fun a'' => wpList P ops Q tail a'' w') :
    laneO P ops w0 (finOf P ops w0 Q tail a1) [] (envOf a F) := fun a' w' hb h1 h2 hm => fill_spec F a hn (by simpa using hl) (h1.trans hd.symm) (h2.trans hs.symm) hm (h w' hb)
theorem laneO_end0 {tail : List Oper} {a1 : Act} (hd : a.defers = a1.defers) (hs : a.tmps.size = a1.tmps.size) (h : ∀ w', Behind w0 w' → wpList P ops Q tail a w') :
    laneO P ops w0 (finOf P ops w0 Q tail a1) [] (envOf a []) := laneO_end (by simp) rfl hd hs h
end

def firstAll (size : Nat) (ps : List Nat) : Array Bool := ps.foldl (fun L k => L.setIfInBounds k true) (Array.replicate size false)
def topB (ops : Array Oper) (size : Nat) (ps hs ts : List Nat) : Bool :=
  Region.noSelect ops && pureB .any ops ps (Array.replicate ops.size false) && laneB .any ops size (firstAll ops.size ps) hs && turnB .any ops ts (listedAll ops (firstAll ops.size ps) hs) && decide (ps.length + hs.length + ts.length = ops.size)
theorem closed_fold {md : Region.Mode} {ops : Array Oper} : ∀ (ps : List Nat) (L : Array Bool), L.size = ops.size → Closed md ops L → pureB md ops ps L = true → Closed md ops (ps.foldl (fun L k => L.setIfInBounds k true) L) ∧ (ps.foldl (fun L k => L.setIfInBounds k true) L).size = ops.size
  | [], _, hs, h, _ => ⟨h, hs⟩
  | k :: r, L, hs, h, hB => by
    simp only [pureB, Bool.and_eq_true] at hB
    obtain ⟨⟨⟨hr, _⟩, _⟩, hB⟩ := hB
    obtain ⟨_, hlt, hed⟩ := mem_ready'.1 (by simpa using hr)
    refine closed_fold r _ (by simp [hs]) (fun i hi j hj => (set_getD (by rw [hs]; exact hlt)).2 (.inr ?_)) hB
    rcases (set_getD (by rw [hs]; exact hlt)).1 hi with rfl | hi
    · exact hed j hj
    · exact h i hi j hj

def pick (l : List Oper) (ks : List Nat) : List Oper := ks.map fun k => l.getD k default
theorem pick_eq {l : List Oper} : ∀ (ks : List Nat), (∀ k ∈ ks, k < l.length) → ks.filterMap (l.toArray[·]?) = pick l ks
  | [], _ => rfl
  | k :: r, h => by
    have hk := h k (by simp)
    rw [List.filterMap_cons_some (b := l.getD k default) (by simp [hk]), pick_eq r fun j hj => h j (by simp [hj])]
    rfl
theorem pure_lt {md : Region.Mode} {ops : Array Oper} : ∀ (ps : List Nat) (L : Array Bool), pureB md ops ps L = true → ∀ k ∈ ps, k < ops.size
  | [], _, _ => by simp
  | k :: r, L, h => by
    simp only [pureB, Bool.and_eq_true] at h
    intro j hj
    rcases List.mem_cons.1 hj with rfl | hj
    · exact (mem_ready'.1 (by simpa using h.1.1.1)).2.1
    · exact pure_lt r _ h.2 j hj
theorem turn_lt {md : Region.Mode} {ops : Array Oper} : ∀ (ts : List Nat) (L : Array Bool), turnB md ops ts L = true → ∀ k ∈ ts, k < ops.size
  | [], _, _ => by simp
  | k :: r, L, h => by
    simp only [turnB, Bool.and_eq_true, decide_eq_true_eq] at h
    intro j hj
    rcases List.mem_cons.1 hj with rfl | hj
    · exact (mem_ready'.1 (by rw [h.1]; simp)).2.1
    · exact turn_lt r _ h.2 j hj
/-- A region that draws its order: ps hang on no world; hs by promises; then the tail ts in its order. -/
theorem region_lane {P : Program} {id : Nat} {Q : Exit → Act → World → Prop} {a : Act} {w : World} {l : List Oper} (ps hs ts : List Nat) (hm : P.follows .mixedOrders = true) (hB : topB l.toArray a.tmps.size ps hs ts = true)
    (hQ : ∀ c (a : Act) (d : Tmp) v w, Q (.panic c) (a.put (some d) v) w → Q (.panic c) a w)
    (h : wpQuiet P l.toArray (fun _ => True) (fun a1 => a1.tmps.size = a.tmps.size ∧ laneO P l.toArray w (finOf P l.toArray w Q (pick l ts) a1) (pick l hs) (envOf a1 [])) (pick l ps) a) : (Code.region id l.toArray true).wp P Q a w := by
  simp only [topB, firstAll, Bool.and_eq_true, decide_eq_true_eq] at hB
  obtain ⟨⟨⟨⟨hsel, hp⟩, hl⟩, hseq⟩, hlen⟩ := hB
  refine wp_region_any hm ?_
  have hsz : l.toArray.size = ps.length + (hs.length + ts.length) := by omega
  have key : ∀ fuel, fuel = ps.length + (hs.length + ts.length) → wpAny P .any l.toArray Q fuel (Array.replicate l.toArray.size false) a { w with drawn := w.drawn + 1 } := by
    intro fuel hfuel
    rw [hfuel]
    rw [← pick_eq ps (by simpa using pure_lt ps _ hp)] at h
    refine pure_first hsel hQ ps _ a hp h fun a1 ⟨hs1, h1⟩ => ?_
    have hl' : ∀ k ∈ hs, k < l.toArray.size := fun k hk => by
      simp only [laneB, Bool.and_eq_true] at hl
      obtain ⟨⟨⟨_, _⟩, hh⟩, _⟩ := hl
      simp only [headB, List.all_eq_true, Bool.and_eq_true, decide_eq_true_eq] at hh
      exact (hh k hk).1.1
    rw [← pick_eq hs (by simpa using hl'), ← pick_eq ts (by simpa using turn_lt ts _ hseq)] at h1
    have hpairs : hs.Nodup := by
      simp only [laneB, Bool.and_eq_true] at hl
      exact (pairsB_spec hs hl.1.1.1).1
    obtain ⟨Ts, hO, hF⟩ := lane_all hs _ hpairs (lane_of_laneO hs _ hl' h1)
    have hcl := closed_fold (md := .any) (ops := l.toArray) ps (Array.replicate l.toArray.size false) (by simp) (fun i hi => by rw [getD_replicate_false] at hi; cases hi) hp
    have hfil : (hs.filter fun k => !(ps.foldl (fun L k => L.setIfInBounds k true) (Array.replicate l.toArray.size false)).getD k false).length = hs.length := by
      rw [List.filter_eq_self.2]
      intro k hk
      simp only [laneB, Bool.and_eq_true] at hl
      obtain ⟨⟨⟨_, _⟩, hh⟩, _⟩ := hl
      simp only [headB, List.all_eq_true, Bool.and_eq_true] at hh
      exact (hh k hk).2
    refine wpAny_of_mid (w0 := w) (a0 := a1) (E0 := envOf a1 []) (Ts := Ts) (g := ts.length) (by rw [hs1]; exact hl) (envOf_steady (by intro x hx; cases hx)) hO (fun a' w' hb hd hsz' hm' => ?_) hs.length _ a1 _ hfil
      ⟨Behind.drawn w, hcl.2, rfl, rfl, hcl.1, fun _ h => h, fun _ h => .inl h, fun t k hk hlk => ?_, fun t _ => by simp [envOf]⟩
    · exact wpAny_of_turn ts _ a' w' hseq (hF a' w' hb hd hsz' hm')
    · simp only [laneB, Bool.and_eq_true] at hl
      obtain ⟨⟨⟨_, _⟩, hh⟩, _⟩ := hl
      simp only [headB, List.all_eq_true, Bool.and_eq_true] at hh
      have := (hh k hk).2
      rw [hlk] at this
      cases this
  exact key _ hsz
end Go.Proofs.Ythneapnijfmpmaa
