import Derived.Deep.Quiet
import Derived.StillTail
import Derived.Deep.QuietTactic
import Derived.BigQuiet
import Derived.Below
import Derived.Test.YthneapnijfmpmaaTail
/- Regions that draw their order, met by promises: each operation of the head tells, of what it looks at alone, what it yields; then any order goes. No program is named here. -/
namespace Go.Proofs.Ythneapnijfmpmaa
set_option linter.unusedVariables false
set_option linter.unusedSimpArgs false
open Go Go.RowKit

section
variable {P : Program} {ops : Array Oper}

/-- w' lies behind w: what was there is there. -/
def Behind (w w' : World) : Prop := Below w.heap.size w w'
theorem Behind.refl (w : World) : Behind w w := Below.refl _ _
theorem Behind.trans {a b c : World} (h : Behind a b) (k : Behind b c) : Behind a c := Below.trans h (Below.mono k h.size)
theorem Behind.drawn (w : World) : Behind w { w with drawn := w.drawn + 1 } := ⟨rfl, rfl, rfl, Nat.le_refl _, fun _ _ => rfl⟩

/-- What is told of a slot's value. -/
abbrev Told := Value → World → Prop
def Steady (T : Told) : Prop := ∀ v w w', Behind w w' → T v w → T v w'
theorem steady_eq (u : Value) : Steady fun v _ => v = u := fun _ _ _ _ h => h

def gives (P : Program) (o : Oper) (a : Act) (w : World) (T : Told) : Prop :=
  match (execOp a.eval o).run P w with
  | .ok (.value v) w' => Behind w w' ∧ T v w'
  | .ok .skip w' => Behind w w' ∧ T undef w'
  | .ok (.enter f args) w' => Behind w w' ∧ Calls P f args w' fun e w'' => ∃ v, e = .returned v ∧ Behind w' w'' ∧ T v w''
  | _ => False
def givesIf (P : Program) (ops : Array Oper) (o : Oper) (a : Act) (w : World) (T : Told) : Prop :=
  (Region.wanted o (yielded ops a.tmps) = true ∧ gives P o a w T) ∨ (Region.wanted o (yielded ops a.tmps) = false ∧ T undef w)

theorem wpOp_of_gives {Q : Exit → Act → World → Prop} {i : Nat} {o : Oper} {K : Act → World → Prop} {a : Act} {w : World} {T : Told} (hi : ops[i]? = some o) (h : givesIf P ops o a w T)
    (hK : ∀ v w', Behind w w' → T v w' → K (a.put o.dst v) w') : wpOp P ops Q i K a w := by
  unfold wpOp
  simp only [hi]
  rcases h with ⟨hw, h⟩ | ⟨hw, h⟩
  · rw [if_pos hw]
    refine .inl ?_
    unfold Oper.wp
    unfold gives at h
    generalize (execOp a.eval o).run P w = r at *
    cases r with
    | halt x w' => exact h.elim
    | ok n w' =>
      cases n <;> simp only [Oper.upon] at h ⊢
      case value v => exact hK _ _ h.1 h.2
      case skip => exact hK _ _ h.1 h.2
      case enter f args =>
        refine h.2.mono fun e w'' he => ?_
        obtain ⟨v, rfl, h1, h2⟩ := he
        exact hK _ _ (h.1.trans h1) h2
  · rw [if_neg (by rw [hw]; exact Bool.false_ne_true)]
    exact hK _ _ (Behind.refl w) h

/-- .. by the walk's own law, whatever follows. -/
def givesBy (P : Program) (ops : Array Oper) (o : Oper) (a : Act) (w : World) (T : Told) : Prop :=
  Region.wanted o (yielded ops a.tmps) = true ∧ ∀ (K : Act → World → Prop) (Q : Exit → Act → World → Prop), (∀ v w', Behind w w' → T v w' → K (a.put o.dst v) w') → o.wp P a w K Q
theorem wpOp_of_givesBy {Q : Exit → Act → World → Prop} {i : Nat} {o : Oper} {K : Act → World → Prop} {a : Act} {w : World} {T : Told} (hi : ops[i]? = some o) (h : givesBy P ops o a w T)
    (hK : ∀ v w', Behind w w' → T v w' → K (a.put o.dst v) w') : wpOp P ops Q i K a w := by
  unfold wpOp
  simp only [hi]
  rw [if_pos h.1]
  exact .inl (h.2 K Q hK)

/-- What is told of all slots. -/
abbrev Env := Tmp → Told
def upd (E : Env) (d : Option Tmp) (T : Told) : Env := fun t => if d = some t then T else E t
def dstOf (ops : Array Oper) (k : Nat) : Option Tmp := (ops[k]?).bind (·.dst)
def looksOf (ops : Array Oper) (k : Nat) : List Tmp := ((ops[k]?).map (·.looksAt ops)).getD []
def meets (E : Env) (ts : List Tmp) (a : Act) (w : World) : Prop := ∀ t ∈ ts, E t (a.tmps.getD t undef) w
/-- What operation o owes. -/
def owes (P : Program) (ops : Array Oper) (w0 : World) (E : Env) (o : Oper) (T : Told) : Prop :=
  Steady T ∧ ∀ a w, Behind w0 w → meets E (o.looksAt ops) a w → givesIf P ops o a w T ∨ givesBy P ops o a w T

def lane (P : Program) (ops : Array Oper) (w0 : World) (Fin : Env → Prop) : List Nat → Env → Prop
  | [], E => Fin E
  | k :: r, E => ∃ o T, ops[k]? = some o ∧ owes P ops w0 E o T ∧ lane P ops w0 Fin r (upd E o.dst T)

/-- The environment behind the operations pre, by their promises. -/
def envAt (ops : Array Oper) (Ts : Nat → Told) (pre : List Nat) (E : Env) : Env := pre.foldl (fun E j => upd E (dstOf ops j) (Ts j)) E
theorem envAt_congr {Ts Ts' : Nat → Told} (pre : List Nat) : ∀ (E : Env), (∀ j ∈ pre, Ts j = Ts' j) → envAt ops Ts pre E = envAt ops Ts' pre E := by
  induction pre with
  | nil => intro E _; rfl
  | cons j r ih =>
    intro E h
    simp only [envAt, List.foldl_cons]
    rw [h j (by simp)]
    exact ih _ fun i hi => h i (by simp [hi])
theorem lane_all {w0 : World} {Fin : Env → Prop} (hs : List Nat) : ∀ (E : Env), hs.Nodup → lane P ops w0 Fin hs E →
    ∃ Ts : Nat → Told, (∀ pre k post, hs = pre ++ k :: post → ∃ o, ops[k]? = some o ∧ owes P ops w0 (envAt ops Ts pre E) o (Ts k)) ∧ Fin (envAt ops Ts hs E) := by
  induction hs with
  | nil =>
    intro E _ h
    exact ⟨fun _ _ _ => True, fun pre k post e => by simp at e, h⟩
  | cons k r ih =>
    intro E hn h
    obtain ⟨o, T, ho, hT, hr⟩ := h
    obtain ⟨hk, hn⟩ := List.nodup_cons.1 hn
    have hd : dstOf ops k = o.dst := by simp [dstOf, ho]
    obtain ⟨Ts, h1, h2⟩ := ih _ hn hr
    have hne : ∀ j ∈ r, j ≠ k := fun j hj e => hk (e ▸ hj)
    refine ⟨fun i => if i = k then T else Ts i, fun pre k' post e => ?_, ?_⟩
    · cases pre with
      | nil =>
        simp only [List.nil_append, List.cons.injEq] at e
        obtain ⟨rfl, rfl⟩ := e
        exact ⟨o, ho, by simpa [envAt] using hT⟩
      | cons j pre =>
        simp only [List.cons_append, List.cons.injEq] at e
        obtain ⟨rfl, rfl⟩ := e
        obtain ⟨o', ho', h'⟩ := h1 pre k' post rfl
        have hk' : k' ≠ k := hne k' (by simp)
        refine ⟨o', ho', ?_⟩
        have e1 : envAt ops (fun i => if i = k then T else Ts i) (k :: pre) E = envAt ops Ts pre (upd E o.dst T) := by
          simp only [envAt, List.foldl_cons, if_pos, hd]
          exact envAt_congr pre _ fun j hj => by rw [if_neg (hne j (by simp [hj]))]
        rw [e1]
        simpa [hk'] using h'
    · have e1 : envAt ops (fun i => if i = k then T else Ts i) (k :: r) E = envAt ops Ts r (upd E o.dst T) := by
        simp only [envAt, List.foldl_cons, if_pos, hd]
        exact envAt_congr r _ fun j hj => by rw [if_neg (hne j hj)]
      rw [e1]; exact h2

theorem envAt_at {Ts : Nat → Told} {t : Tmp} {v : Value} {w : World} (pre : List Nat) : ∀ (E : Env), (∀ j ∈ pre, dstOf ops j = some t → Ts j v w) → ((∀ j ∈ pre, dstOf ops j ≠ some t) → E t v w) → envAt ops Ts pre E t v w := by
  induction pre with
  | nil => intro E _ h; exact h (by simp)
  | cons j r ih =>
    intro E h1 h2
    simp only [envAt, List.foldl_cons]
    refine ih _ (fun i hi => h1 i (by simp [hi])) fun h3 => ?_
    unfold upd
    split
    · rename_i e; exact h1 j (by simp) e
    · rename_i e; exact h2 fun i hi => by
        rcases List.mem_cons.1 hi with rfl | hi
        · exact e
        · exact h3 i hi

/-- The operations that must come up ahead of the t-th. -/
def edges (md : Region.Mode) (ops : Array Oper) (t : Nat) : List Nat := ((ops[t]?).map fun o => (o.after.toList.filter fun e => Region.binds md e).map (·.on)).getD []
def needsFrom (md : Region.Mode) (ops : Array Oper) : Nat → List Nat → List Nat
  | 0, acc => acc
  | i + 1, acc => needsFrom md ops i (if acc.contains i then edges md ops i ++ acc else acc)
def needs (md : Region.Mode) (ops : Array Oper) (t : Nat) : List Nat := needsFrom md ops ops.size (edges md ops t)

variable {md : Region.Mode}
theorem mem_edges {t j : Nat} : j ∈ edges md ops t ↔ ∃ o, ops[t]? = some o ∧ ∃ e ∈ o.after, Region.binds md e = true ∧ e.on = j := by
  unfold edges
  cases h : ops[t]? with
  | none => simp
  | some o => simp [and_assoc]
theorem mem_ready' {t : Nat} {listed : Array Bool} : t ∈ Region.ready md ops listed ↔ listed.getD t true = false ∧ t < ops.size ∧ ∀ j ∈ edges md ops t, listed.getD j false = true := by
  rw [mem_ready]
  constructor
  · rintro ⟨h0, o, ho, h⟩
    refine ⟨h0, (Array.getElem?_eq_some_iff.1 ho).1, fun j hj => ?_⟩
    obtain ⟨o', ho', e, he, hb, rfl⟩ := mem_edges.1 hj
    obtain rfl : o' = o := Option.some.inj (ho'.symm.trans ho)
    exact h e he hb
  · rintro ⟨h0, hlt, h⟩
    exact ⟨h0, ops[t], Array.getElem?_eq_getElem hlt, fun e he hb => h _ (mem_edges.2 ⟨_, Array.getElem?_eq_getElem hlt, e, he, hb, rfl⟩)⟩
def Closed (md : Region.Mode) (ops : Array Oper) (listed : Array Bool) : Prop := ∀ i, listed.getD i false = true → ∀ j ∈ edges md ops i, listed.getD j false = true
theorem needsFrom_listed {listed : Array Bool} (hc : Closed md ops listed) : ∀ (i : Nat) (acc : List Nat), (∀ j ∈ acc, listed.getD j false = true) → ∀ j ∈ needsFrom md ops i acc, listed.getD j false = true
  | 0, _, h => h
  | i + 1, acc, h => by
    refine needsFrom_listed hc i _ fun j hj => ?_
    split at hj
    · rename_i hi
      rcases List.mem_append.1 hj with hj | hj
      · exact hc i (h i (by simpa using hi)) j hj
      · exact h j hj
    · exact h j hj
theorem needs_listed {listed : Array Bool} (hc : Closed md ops listed) {t : Nat} (h : ∀ j ∈ edges md ops t, listed.getD j false = true) : ∀ j ∈ needs md ops t, listed.getD j false = true := needsFrom_listed hc _ _ h

/-- Who looks at what another one leaves comes behind it, or ahead of it, in every order; no two leave the same. -/
def pairsB (md : Region.Mode) (ops : Array Oper) : List Nat → Bool
  | [] => true
  | k :: r => (r.all fun j => (!((looksOf ops j).any fun t => dstOf ops k == some t) || (needs md ops j).contains k) && (!((looksOf ops k).any fun t => dstOf ops j == some t) || (needs md ops j).contains k) && !(dstOf ops j == dstOf ops k)) && pairsB md ops r
def inTurnB (md : Region.Mode) (ops : Array Oper) (L0 : Array Bool) : List Nat → List Nat → Bool
  | _, [] => true
  | pre, k :: r => ((edges md ops k).all fun j => pre.contains j || L0.getD j false) && inTurnB md ops L0 (pre ++ [k]) r
def headB (ops : Array Oper) (size : Nat) (L0 : Array Bool) (hs : List Nat) : Bool := hs.all fun k => decide (k < ops.size) && (match dstOf ops k with | some d => decide (d < size) | none => false) && !L0.getD k false
def tailB (md : Region.Mode) (ops : Array Oper) (L0 : Array Bool) (hs : List Nat) : Bool := (List.range ops.size).all fun t => hs.contains t || L0.getD t false || hs.all fun k => (needs md ops t).contains k
def laneB (md : Region.Mode) (ops : Array Oper) (size : Nat) (L0 : Array Bool) (hs : List Nat) : Bool := pairsB md ops hs && inTurnB md ops L0 [] hs && headB ops size L0 hs && tailB md ops L0 hs
def listedAll (ops : Array Oper) (L0 : Array Bool) (hs : List Nat) : Array Bool := ((List.range ops.size).map fun i => L0.getD i false || hs.contains i).toArray

theorem pairsB_spec : ∀ (hs : List Nat), pairsB md ops hs = true → hs.Nodup ∧ ∀ pre k post, hs = pre ++ k :: post → ∀ j ∈ post,
    ((∃ t ∈ looksOf ops j, dstOf ops k = some t) → k ∈ needs md ops j) ∧ ((∃ t ∈ looksOf ops k, dstOf ops j = some t) → k ∈ needs md ops j) ∧ dstOf ops j ≠ dstOf ops k
  | [], _ => ⟨List.nodup_nil, fun pre k post e => by simp at e⟩
  | k :: r, h => by
    simp only [pairsB, Bool.and_eq_true, List.all_eq_true] at h
    obtain ⟨h1, h2⟩ := h
    obtain ⟨hn, ih⟩ := pairsB_spec r h2
    have h3 : ∀ j ∈ r, ((∃ t ∈ looksOf ops j, dstOf ops k = some t) → k ∈ needs md ops j) ∧ ((∃ t ∈ looksOf ops k, dstOf ops j = some t) → k ∈ needs md ops j) ∧ dstOf ops j ≠ dstOf ops k := fun j hj => by
      obtain ⟨⟨a1, a2⟩, a3⟩ := h1 j hj
      refine ⟨fun ⟨t, ht, e⟩ => ?_, fun ⟨t, ht, e⟩ => ?_, by simpa using a3⟩
      · simp only [Bool.or_eq_true, Bool.not_eq_true', List.contains_iff_mem] at a1
        exact a1.resolve_left fun hf => by
          rw [List.any_eq_false] at hf
          exact hf t ht (by simp [e])
      · simp only [Bool.or_eq_true, Bool.not_eq_true', List.contains_iff_mem] at a2
        exact a2.resolve_left fun hf => by
          rw [List.any_eq_false] at hf
          exact hf t ht (by simp [e])
    refine ⟨List.nodup_cons.2 ⟨fun hk => (h3 k hk).2.2 rfl, hn⟩, fun pre k' post e j hj => ?_⟩
    cases pre with
    | nil =>
      simp only [List.nil_append, List.cons.injEq] at e
      obtain ⟨rfl, rfl⟩ := e
      exact h3 j hj
    | cons x pre =>
      simp only [List.cons_append, List.cons.injEq] at e
      exact ih pre k' post e.2 j hj
theorem inTurnB_spec (L0 : Array Bool) : ∀ (hs pre0 : List Nat), inTurnB md ops L0 pre0 hs = true → ∀ pre k post, hs = pre ++ k :: post → ∀ j ∈ edges md ops k, j ∈ pre0 ∨ j ∈ pre ∨ L0.getD j false = true
  | [], _, _ => fun pre k post e => by simp at e
  | x :: r, pre0, h => by
    simp only [inTurnB, Bool.and_eq_true, List.all_eq_true, Bool.or_eq_true, List.contains_iff_mem] at h
    obtain ⟨h1, h2⟩ := h
    intro pre k post e j hj
    cases pre with
    | nil =>
      simp only [List.nil_append, List.cons.injEq] at e
      obtain ⟨rfl, rfl⟩ := e
      rcases h1 j hj with h | h
      · exact .inl h
      · exact .inr (.inr h)
    | cons y pre =>
      simp only [List.cons_append, List.cons.injEq] at e
      obtain ⟨rfl, e⟩ := e
      rcases inTurnB_spec L0 r _ h2 pre k post e j hj with h | h | h
      · rcases List.mem_append.1 h with h | h
        · exact .inl h
        · exact .inr (.inl (by simp at h; simp [h]))
      · exact .inr (.inl (by simp [h]))
      · exact .inr (.inr h)

/-- How it stands in the middle of a region, whatever has come up. -/
structure Mid (md : Region.Mode) (ops : Array Oper) (w0 : World) (a0 : Act) (L0 : Array Bool) (hs : List Nat) (E0 : Env) (Ts : Nat → Told) (listed : Array Bool) (a : Act) (w : World) : Prop where
  behind : Behind w0 w
  size : listed.size = ops.size
  defers : a.defers = a0.defers
  tsize : a.tmps.size = a0.tmps.size
  closed : Closed md ops listed
  first : ∀ i, L0.getD i false = true → listed.getD i false = true
  only : ∀ i, listed.getD i false = true → L0.getD i false = true ∨ i ∈ hs
  told : ∀ t, ∀ k ∈ hs, listed.getD k false = true → dstOf ops k = some t → Ts k (a.tmps.getD t undef) w
  rest : ∀ t, (∀ k ∈ hs, listed.getD k false = true → dstOf ops k ≠ some t) → E0 t (a.tmps.getD t undef) w

theorem getD_of_size {listed : Array Bool} {i : Nat} (h : listed.getD i true = false) : listed.getD i false = false := getD_both h
theorem getD_back {listed : Array Bool} {i : Nat} (hi : i < listed.size) (h : ¬ listed.getD i false = true) : listed.getD i true = false := getD_in hi (by simpa using h)
theorem set_getD {listed : Array Bool} {i j : Nat} (hi : i < listed.size) : (listed.setIfInBounds i true).getD j false = true ↔ j = i ∨ listed.getD j false = true := by
  by_cases h : i = j
  · subst h; simp [hi]
  · rw [getD_set_ne false h]; constructor
    · exact .inr
    · rintro (rfl | h')
      · exact absurd rfl h
      · exact h'
theorem put_getD (a : Act) (d t : Tmp) (v : Value) (hd : d < a.tmps.size) : (a.put (some d) v).tmps.getD t undef = if d = t then v else a.tmps.getD t undef := by
  simp only [Act.put]
  by_cases h : d = t
  · subst h; simp [hd]
  · simp [h, Array.getElem?_setIfInBounds_ne h]

section
variable {w0 : World} {a0 : Act} {L0 : Array Bool} {hs : List Nat} {E0 : Env} {Ts : Nat → Told} {g : Nat} {Q : Exit → Act → World → Prop}
theorem Mid.step (hB : laneB md ops a0.tmps.size L0 hs = true) (hE : ∀ t, Steady (E0 t)) (hT : ∀ k ∈ hs, Steady (Ts k)) {listed : Array Bool} {a : Act} {w : World} (m : Mid md ops w0 a0 L0 hs E0 Ts listed a w) {k : Nat} (hk : k ∈ hs)
    (hr : k ∈ Region.ready md ops listed) {v : Value} {w' : World} (hb : Behind w w') (hv : Ts k v w') : Mid md ops w0 a0 L0 hs E0 Ts (listed.setIfInBounds k true) (a.put (dstOf ops k) v) w' := by
  simp only [laneB, Bool.and_eq_true] at hB
  obtain ⟨⟨⟨hp, hi⟩, hh⟩, ht⟩ := hB
  obtain ⟨hn, hpair⟩ := pairsB_spec hs hp
  obtain ⟨hun, hlt, hed⟩ := mem_ready'.1 hr
  have hlt' : k < listed.size := by rw [m.size]; exact hlt
  simp only [headB, List.all_eq_true, Bool.and_eq_true] at hh
  obtain ⟨⟨_, hd⟩, _⟩ := hh k hk
  obtain ⟨d, hd', hds⟩ : ∃ d, dstOf ops k = some d ∧ d < a.tmps.size := by
    cases e : dstOf ops k with
    | none => rw [e] at hd; cases hd
    | some d => rw [e] at hd; exact ⟨d, rfl, by rw [m.tsize]; simpa using hd⟩
  have hne : ∀ j ∈ hs, j ≠ k → dstOf ops j ≠ some d := fun j hj hjk e => by
    obtain ⟨pre, post, rfl⟩ := List.append_of_mem hk
    rcases List.mem_append.1 hj with hj | hj
    · obtain ⟨p1, p2, rfl⟩ := List.append_of_mem hj
      exact (hpair p1 j (p2 ++ k :: post) (by simp) k (by simp)).2.2 (hd'.trans e.symm)
    · rcases List.mem_cons.1 hj with rfl | hj
      · exact hjk rfl
      · exact (hpair pre k post rfl j hj).2.2 (e.trans hd'.symm)
  rw [hd']
  refine ⟨m.behind.trans hb, by simp [m.size], by simp [Act.put, m.defers], by simp [Act.put, m.tsize], fun i hi' j hj => ?_, fun i h => (set_getD hlt').2 (.inr (m.first i h)), fun i h => ?_, fun t j hj hl e => ?_, fun t h => ?_⟩
  · refine (set_getD hlt').2 (.inr ?_)
    rcases (set_getD hlt').1 hi' with rfl | h
    · exact hed j hj
    · exact m.closed i h j hj
  · rcases (set_getD hlt').1 h with rfl | h
    · exact .inr hk
    · exact m.only i h
  · rw [put_getD a d t v hds]
    by_cases hjk : j = k
    · subst hjk
      rw [hd'] at e
      injection e with e
      rw [if_pos e]; exact hv
    · have hjl : listed.getD j false = true := ((set_getD hlt').1 hl).resolve_left hjk
      rw [if_neg (fun e' => hne j hj hjk (e.trans (by rw [e'])))]
      exact hT j hj _ _ _ hb (m.told t j hj hjl e)
  · rw [put_getD a d t v hds]
    have hdt : d ≠ t := fun e => h k hk ((set_getD hlt').2 (.inl rfl)) (by rw [hd', e])
    rw [if_neg hdt]
    exact hE t _ _ _ hb (m.rest t fun j hj hl => h j hj ((set_getD hlt').2 (.inr hl)))

theorem Mid.meets (hB : laneB md ops a0.tmps.size L0 hs = true) {listed : Array Bool} {a : Act} {w : World} (m : Mid md ops w0 a0 L0 hs E0 Ts listed a w) {pre post : List Nat} {k : Nat} (e : hs = pre ++ k :: post) (hr : k ∈ Region.ready md ops listed) :
    meets (envAt ops Ts pre E0) (looksOf ops k) a w := by
  simp only [laneB, Bool.and_eq_true] at hB
  obtain ⟨⟨⟨hp, hi⟩, hh⟩, ht⟩ := hB
  obtain ⟨hn, hpair⟩ := pairsB_spec hs hp
  obtain ⟨hun, hlt, hed⟩ := mem_ready'.1 hr
  have hnk := needs_listed m.closed hed
  intro t hl
  have hpre : ∀ j ∈ pre, dstOf ops j = some t → listed.getD j false = true := fun j hj e' => by
    obtain ⟨p1, p2, rfl⟩ := List.append_of_mem hj
    exact hnk j ((hpair p1 j (p2 ++ k :: post) (by rw [e]; simp) k (by simp)).1 ⟨t, hl, e'⟩)
  refine envAt_at pre E0 (fun j hj e' => m.told t j (by rw [e]; simp [hj]) (hpre j hj e') e') fun h => m.rest t fun j hj hjl e' => ?_
  rw [e] at hj
  rcases List.mem_append.1 hj with hj | hj
  · exact h j hj e'
  · rcases List.mem_cons.1 hj with rfl | hj
    · rw [getD_of_size hun] at hjl; cases hjl
    · have hk := (hpair pre k post e j hj).2.1 ⟨t, hl, e'⟩
      have := needs_listed m.closed (m.closed j hjl) k hk
      rw [getD_of_size hun] at this; cases this

theorem Mid.done {listed : Array Bool} {a : Act} {w : World} (m : Mid md ops w0 a0 L0 hs E0 Ts listed a w) (hf : (hs.filter fun k => !listed.getD k false).length = 0) : listed = listedAll ops L0 hs ∧ ∀ t, envAt ops Ts hs E0 t (a.tmps.getD t undef) w := by
  have hall : ∀ k ∈ hs, listed.getD k false = true := fun k hk => by
    rw [List.length_eq_zero_iff, List.filter_eq_nil_iff] at hf
    simpa using hf k hk
  refine ⟨Array.ext (by simp [listedAll, m.size]) fun i h1 h2 => ?_, fun t => envAt_at hs E0 (fun j hj e => m.told t j hj (hall j hj) e) fun h => m.rest t fun j hj _ => h j hj⟩
  have hg : listed.getD i false = listed[i] := by simp [h1]
  rw [← hg]
  have : (listedAll ops L0 hs)[i] = (L0.getD i false || hs.contains i) := by simp [listedAll]
  rw [this, Bool.eq_iff_iff]
  simp only [Bool.or_eq_true, List.contains_iff_mem]
  exact ⟨m.only i, fun h => h.elim (m.first i) (hall i)⟩
theorem Mid.more (hB : laneB md ops a0.tmps.size L0 hs = true) {listed : Array Bool} {a : Act} {w : World} (m : Mid md ops w0 a0 L0 hs E0 Ts listed a w) (hf : (hs.filter fun k => !listed.getD k false).length ≠ 0) (h0 : Region.ready md ops listed = []) : False := by
  simp only [laneB, Bool.and_eq_true] at hB
  obtain ⟨⟨⟨hp, hi⟩, hh⟩, ht⟩ := hB
  obtain ⟨k, pre, post, e, hkl, hprel⟩ : ∃ k pre post, hs = pre ++ k :: post ∧ listed.getD k false = false ∧ ∀ j ∈ pre, listed.getD j false = true := by
    have : ∀ (l : List Nat), (l.filter fun k => !listed.getD k false).length ≠ 0 → ∃ k pre post, l = pre ++ k :: post ∧ listed.getD k false = false ∧ ∀ j ∈ pre, listed.getD j false = true := by
      intro l
      induction l with
      | nil => intro h; simp at h
      | cons x r ihr =>
        intro h
        by_cases hx : listed.getD x false = true
        · rw [List.filter_cons_of_neg (by simp only [hx, Bool.not_true, Bool.false_eq_true, not_false_eq_true])] at h
          obtain ⟨k, pre, post, e, h1, h2⟩ := ihr h
          exact ⟨k, x :: pre, post, by rw [e]; rfl, h1, fun j hj => (List.mem_cons.1 hj).elim (fun e => e ▸ hx) (h2 j)⟩
        · exact ⟨x, [], r, rfl, by simpa using hx, by simp⟩
    exact this hs hf
  have hk : k ∈ hs := by rw [e]; simp
  simp only [headB, List.all_eq_true, Bool.and_eq_true, decide_eq_true_eq] at hh
  have hlt := (hh k hk).1.1
  have : k ∈ Region.ready md ops listed := mem_ready'.2 ⟨getD_in (by rw [m.size]; exact hlt) hkl, hlt, fun j hj => by
    rcases inTurnB_spec L0 hs [] hi pre k post e j hj with h | h | h
    · cases h
    · exact hprel j h
    · exact m.first j h⟩
  rw [h0] at this
  cases this
theorem Mid.turn (hB : laneB md ops a0.tmps.size L0 hs = true) {listed : Array Bool} {a : Act} {w : World} (m : Mid md ops w0 a0 L0 hs E0 Ts listed a w) (hf : (hs.filter fun k => !listed.getD k false).length ≠ 0) {k : Nat} (hk : k ∈ Region.ready md ops listed) :
    k ∈ hs ∧ (hs.filter fun j => !(listed.setIfInBounds k true).getD j false).length + 1 = (hs.filter fun j => !listed.getD j false).length := by
  simp only [laneB, Bool.and_eq_true] at hB
  obtain ⟨⟨⟨hp, hi⟩, hh⟩, ht⟩ := hB
  obtain ⟨hun, hlt, hed⟩ := mem_ready'.1 hk
  have hkl := getD_of_size hun
  have hks : k ∈ hs := by
    simp only [tailB, List.all_eq_true, Bool.or_eq_true, List.mem_range, List.contains_iff_mem] at ht
    rcases ht k hlt with (h | h) | h
    · exact h
    · rw [m.first k h] at hkl; cases hkl
    · exfalso
      have hall := needs_listed m.closed hed
      have : (hs.filter fun k => !listed.getD k false) = [] := List.filter_eq_nil_iff.2 fun j hj => by
        have := hall j (by simpa using h j hj)
        simp only [this, Bool.not_true, Bool.false_eq_true, not_false_eq_true]
      rw [this] at hf
      exact hf rfl
  have hlt' : k < listed.size := by rw [m.size]; exact hlt
  obtain ⟨hn, _⟩ := pairsB_spec hs hp
  have h1 : ∀ (l : List Nat), l.Nodup → k ∈ l → (l.filter fun j => !(listed.setIfInBounds k true).getD j false).length + 1 = (l.filter fun j => !listed.getD j false).length := by
    intro l
    induction l with
    | nil => intro _ h; cases h
    | cons x r ihr =>
      intro hnd hx
      obtain ⟨hxr, hnr⟩ := List.nodup_cons.1 hnd
      by_cases hxk : x = k
      · subst hxk
        rw [List.filter_cons_of_neg (by rw [(set_getD hlt').2 (.inl rfl)]; simp), List.filter_cons_of_pos (by rw [hkl]; rfl)]
        have : (r.filter fun j => !(listed.setIfInBounds x true).getD j false) = r.filter fun j => !listed.getD j false := by
          refine List.filter_congr fun j hj => ?_
          rw [getD_set_ne false (fun e => hxr (by rw [e]; exact hj))]
        rw [this, List.length_cons]
      · have hkr : k ∈ r := (List.mem_cons.1 hx).resolve_left (Ne.symm hxk)
        have hg : (listed.setIfInBounds k true).getD x false = listed.getD x false := getD_set_ne false (Ne.symm hxk)
        by_cases hxl : listed.getD x false = true
        · rw [List.filter_cons_of_neg (by rw [hg, hxl]; simp), List.filter_cons_of_neg (by rw [hxl]; simp)]
          exact ihr hnr hkr
        · have hxl' : listed.getD x false = false := by simpa using hxl
          rw [List.filter_cons_of_pos (by rw [hg, hxl']; rfl), List.filter_cons_of_pos (by rw [hxl']; rfl), List.length_cons, List.length_cons]
          have := ihr hnr hkr
          omega
  exact ⟨hks, h1 hs hn hks⟩

/-- A tail that comes up in one order: its numbers. -/
def turnB (md : Region.Mode) (ops : Array Oper) : List Nat → Array Bool → Bool
  | [], L => (Region.ready md ops L).isEmpty
  | t :: r, L => decide (Region.ready md ops L = [t]) && turnB md ops r (L.setIfInBounds t true)
theorem wpAny_of_turn : ∀ (ts : List Nat) (L : Array Bool) (a : Act) (w : World), turnB md ops ts L = true → wpList P ops Q (ts.filterMap (ops[·]?)) a w → wpAny P md ops Q ts.length L a w
  | [], _, _, _, hB, h => ⟨by simpa [turnB] using hB, h⟩
  | t :: r, L, a, w, hB, h => by
    simp only [turnB, Bool.and_eq_true, decide_eq_true_eq] at hB
    have ht : t ∈ Region.ready md ops L := by rw [hB.1]; simp
    have ho : ops[t]? = some (ops[t]'(mem_ready'.1 ht).2.1) := Array.getElem?_eq_getElem _
    rw [List.filterMap_cons_some ho] at h
    refine ⟨fun h1 => (by rw [hB.1] at h1; cases h1), fun i hi => ?_⟩
    rw [hB.1] at hi
    obtain rfl : i = t := by simpa using hi
    have hw : wpOp P ops Q i (wpList P ops Q (r.filterMap (ops[·]?))) a w := by unfold wpOp; simp only [ho]; exact h
    exact wpOp_mono (fun a' w' h' => wpAny_of_turn r _ a' w' hB.2 h') hw

theorem wpAny_of_mid (hB : laneB md ops a0.tmps.size L0 hs = true) (hE : ∀ t, Steady (E0 t)) (hO : ∀ pre k post, hs = pre ++ k :: post → ∃ o, ops[k]? = some o ∧ owes P ops w0 (envAt ops Ts pre E0) o (Ts k))
    (hF : ∀ a w, Behind w0 w → a.defers = a0.defers → a.tmps.size = a0.tmps.size → (∀ t, envAt ops Ts hs E0 t (a.tmps.getD t undef) w) → wpAny P md ops Q g (listedAll ops L0 hs) a w) :
    ∀ (f : Nat) (listed : Array Bool) (a : Act) (w : World), (hs.filter fun k => !listed.getD k false).length = f → Mid md ops w0 a0 L0 hs E0 Ts listed a w → wpAny P md ops Q (f + g) listed a w := by
  have hT : ∀ k ∈ hs, Steady (Ts k) := fun k hk => by
    obtain ⟨pre, post, e⟩ := List.append_of_mem hk
    obtain ⟨o, _, h⟩ := hO pre k post e
    exact h.1
  intro f
  induction f with
  | zero =>
    intro listed a w hf m
    obtain ⟨hL, hend⟩ := m.done hf
    rw [Nat.zero_add, hL]
    exact hF a w m.behind m.defers m.tsize hend
  | succ f ih =>
    intro listed a w hf m
    rw [show f + 1 + g = (f + g) + 1 by omega]
    refine ⟨fun h0 => (m.more hB (by omega) h0).elim, fun k hk => ?_⟩
    obtain ⟨hks, hlen⟩ := m.turn hB (by omega) hk
    obtain ⟨pre, post, e⟩ := List.append_of_mem hks
    obtain ⟨o, ho, _, hob⟩ := hO pre k post e
    have hm := m.meets hB e hk
    have hlk : looksOf ops k = o.looksAt ops := by simp [looksOf, ho]
    have hdk : dstOf ops k = o.dst := by simp [dstOf, ho]
    rw [hlk] at hm
    have hgo : ∀ K : Act → World → Prop, (∀ v w', Behind w w' → Ts k v w' → K (a.put o.dst v) w') → wpOp P ops Q k K a w := fun K hK => (hob a w m.behind hm).elim (fun h => wpOp_of_gives ho h hK) fun h => wpOp_of_givesBy ho h hK
    refine hgo _ fun v w' hb hv => ?_
    rw [← hdk]
    exact ih _ _ _ (by omega) (m.step hB hE hT hks hk hb hv)
end
end
end Go.Proofs.Ythneapnijfmpmaa
