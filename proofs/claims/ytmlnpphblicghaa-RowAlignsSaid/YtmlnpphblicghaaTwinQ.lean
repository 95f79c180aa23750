import Derived.Test.YtmlnpphblicghaaZQ
/- .. where the region makes variables of its own: they are made in any order, and are different ones. No program is named here. -/
namespace Go.Proofs.Ytmlnpphblicghaa
set_option linter.unusedVariables false
set_option linter.unusedSimpArgs false
open Go Go.RowKit

section
variable {P : Program} {ops : Array Oper} {Q : Exit → Act → World → Prop} {md : Region.Mode}
theorem alloc_fresh {ρ : Operand → Value} {o : Oper} {elem : TypeId} (hop : o.op = .alloc elem) {w : World} {n : Next} {w' : World} (h : (execOp ρ o).run P w = .ok n w') :
    n = .value (.pointer (some ⟨w.heap.size, 0, none⟩)) ∧ w.heap.size < w'.heap.size := by
  cases hi : P.info? elem with
  | none => simp [execOp, hop, Instr.alloc, zeroValue, typeInfo, go_sem, hi] at h
  | some i =>
    cases hz : i.zero with
    | none => simp [execOp, hop, Instr.alloc, zeroValue, typeInfo, go_sem, hi, hz] at h
    | some z =>
      simp [execOp, hop, Instr.alloc, zeroValue, typeInfo, newVar, newRow, go_sem, hi, hz] at h
      obtain ⟨h1, h2⟩ := h
      subst h1 h2
      exact ⟨rfl, by simp⟩
/-- An operation that makes a variable runs to its end. -/
theorem alloc_runs {o : Oper} {elem : TypeId} (hop : o.op = .alloc elem) (hgd : o.guard = none) {a : Act} {w : World} {T : Told} {d : Tmp} (hd : o.dst = some d) (hds : d < a.tmps.size) (h : givesIf P ops o a w T ∨ givesBy P ops o a w T) :
    ∃ w', (execOp a.eval o).run P w = .ok (.value (.pointer (some ⟨w.heap.size, 0, none⟩))) w' ∧ w.heap.size < w'.heap.size ∧ Behind w w' ∧ T (.pointer (some ⟨w.heap.size, 0, none⟩)) w' := by
  have hw : Region.wanted o (yielded ops a.tmps) = true := by unfold Region.wanted; rw [hgd]
  cases hr : (execOp a.eval o).run P w with
  | halt x w' =>
    exfalso
    rcases h with h | h
    · have hg := (h.resolve_right fun h => by rw [h.1] at hw; cases hw).2
      unfold gives at hg
      rw [hr] at hg
      exact hg
    · have hg := h.2 (fun _ _ => True) (fun _ _ _ => False) (fun v w' _ _ => trivial)
      · unfold Oper.wp at hg
        rw [hr] at hg
        cases x <;> exact hg.elim
  | ok n w' =>
    obtain ⟨rfl, hsz⟩ := alloc_fresh hop hr
    refine ⟨w', rfl, hsz, ?_⟩
    rcases h with h | h
    · have hg := (h.resolve_right fun h => by rw [h.1] at hw; cases hw).2
      unfold gives at hg
      rw [hr] at hg
      exact hg
    · have hg := h.2 (fun a' w'' => Behind w w'' ∧ T (a'.tmps.getD d undef) w'') (fun _ _ _ => False) (fun v w'' h1 h2 => ⟨h1, by rw [hd, put_getD a d d v hds, if_pos rfl]; exact h2⟩)
      unfold Oper.wp at hg
      rw [hr] at hg
      simp only [Oper.upon] at hg
      rw [hd, put_getD a d d _ hds, if_pos rfl] at hg
      exact hg

/-- Operations of the region that make variables. -/
def freshB (ops : Array Oper) (hs fs : List Nat) : Bool := fs.all fun k => hs.contains k && ((ops[k]?).map fun o => match o.op with | .alloc _ => o.guard.isNone | _ => false).getD false
def Lives (ops : Array Oper) (fs : List Nat) (listed : Array Bool) (a : Act) (w : World) : Prop := ∀ k ∈ fs, listed.getD k false = true → ∀ t, dstOf ops k = some t → ∃ g, a.tmps.getD t undef = .pointer (some ⟨g, 0, none⟩) ∧ g < w.heap.size
def Apart (ops : Array Oper) (fs : List Nat) (listed : Array Bool) (a : Act) : Prop := ∀ j ∈ fs, ∀ k ∈ fs, j ≠ k → listed.getD j false = true → listed.getD k false = true → ∀ s t, dstOf ops j = some s → dstOf ops k = some t → a.tmps.getD s undef ≠ a.tmps.getD t undef
/-- How the variables stand when all is done. -/
def apartL (ts : List Tmp) (a : Act) : Prop := ts.Pairwise fun s t => a.tmps.getD s undef ≠ a.tmps.getD t undef

variable {w0 : World} {a0 : Act} {L0 : Array Bool} {hs fs : List Nat} {E0 : Env} {Ts : Nat → Told} {g : Nat}
theorem hs_dst (hB : laneB md ops a0.tmps.size L0 hs = true) {j k : Nat} (hj : j ∈ hs) (hk : k ∈ hs) (hne : j ≠ k) : dstOf ops j ≠ dstOf ops k := by
  simp only [laneB, Bool.and_eq_true] at hB
  obtain ⟨⟨⟨hp, hi⟩, hh⟩, ht⟩ := hB
  obtain ⟨hn, hpair⟩ := pairsB_spec hs hp
  obtain ⟨pre, post, rfl⟩ := List.append_of_mem hk
  rcases List.mem_append.1 hj with hj | hj
  · obtain ⟨p1, p2, rfl⟩ := List.append_of_mem hj
    exact fun e => (hpair p1 j (p2 ++ k :: post) (by simp) k (by simp)).2.2 e.symm
  · rcases List.mem_cons.1 hj with rfl | hj
    · exact absurd rfl hne
    · exact (hpair pre k post rfl j hj).2.2
theorem wpAny_of_twins (hB : laneB md ops a0.tmps.size L0 hs = true) (hf : freshB ops hs fs = true) (hE : ∀ t, Steady (E0 t)) (hO : ∀ pre k post, hs = pre ++ k :: post → ∃ o, ops[k]? = some o ∧ owes P ops w0 (envAt ops Ts pre E0) o (Ts k))
    (hF : ∀ a w, Behind w0 w → a.defers = a0.defers → a.tmps.size = a0.tmps.size → (∀ t, envAt ops Ts hs E0 t (a.tmps.getD t undef) w) → Apart ops fs (listedAll ops L0 hs) a → wpAny P md ops Q g (listedAll ops L0 hs) a w) :
    ∀ (f : Nat) (listed : Array Bool) (a : Act) (w : World), (hs.filter fun k => !listed.getD k false).length = f → Mid md ops w0 a0 L0 hs E0 Ts listed a w → Lives ops fs listed a w → Apart ops fs listed a → wpAny P md ops Q (f + g) listed a w := by
  have hT : ∀ k ∈ hs, Steady (Ts k) := fun k hk => by
    obtain ⟨pre, post, e⟩ := List.append_of_mem hk
    obtain ⟨o, _, h⟩ := hO pre k post e
    exact h.1
  have hfs : ∀ k ∈ fs, k ∈ hs ∧ ∃ o el, ops[k]? = some o ∧ o.op = .alloc el ∧ o.guard = none := fun k hk => by
    simp only [freshB, List.all_eq_true, Bool.and_eq_true, List.contains_iff_mem] at hf
    obtain ⟨h1, h2⟩ := hf k hk
    refine ⟨h1, ?_⟩
    cases ho : ops[k]? with
    | none => rw [ho] at h2; simp at h2
    | some o =>
      rw [ho] at h2
      simp only [Option.map_some, Option.getD_some] at h2
      split at h2
      · rename_i el he; exact ⟨o, el, rfl, he, by simpa using h2⟩
      · cases h2
  intro f
  induction f with
  | zero =>
    intro listed a w hf m hl hap
    obtain ⟨hL, hend⟩ := m.done hf
    rw [Nat.zero_add, hL]
    exact hF a w m.behind m.defers m.tsize hend (hL ▸ hap)
  | succ f ih =>
    intro listed a w hf m hl hap
    rw [show f + 1 + g = (f + g) + 1 by omega]
    refine ⟨fun h0 => (m.more hB (by omega) h0).elim, fun k hk => ?_⟩
    obtain ⟨hks, hlen⟩ := m.turn hB (by omega) hk
    obtain ⟨hun, hlt, hed⟩ := mem_ready'.1 hk
    have hlt' : k < listed.size := by rw [m.size]; exact hlt
    obtain ⟨d, hd', hds⟩ : ∃ d, dstOf ops k = some d ∧ d < a.tmps.size := by
      have hB' := hB
      simp only [laneB, Bool.and_eq_true] at hB'
      obtain ⟨⟨⟨hp, hi⟩, hh⟩, ht⟩ := hB'
      simp only [headB, List.all_eq_true, Bool.and_eq_true] at hh
      obtain ⟨⟨_, hd⟩, _⟩ := hh k hks
      cases e : dstOf ops k with
      | none => rw [e] at hd; cases hd
      | some d => rw [e] at hd; exact ⟨d, rfl, by rw [m.tsize]; simpa using hd⟩
    have hother : ∀ j ∈ fs, j ≠ k → ∀ s, dstOf ops j = some s → ∀ v, (a.put (dstOf ops k) v).tmps.getD s undef = a.tmps.getD s undef := fun j hj hjk s hs' v => by
      rw [hd', put_getD a d s v hds, if_neg]
      exact fun e => hs_dst hB (hfs j hj).1 hks hjk (by rw [hs', hd', e])
    by_cases hkf : k ∈ fs
    · obtain ⟨pre, post, e⟩ := List.append_of_mem hks
      obtain ⟨o, ho, _, hob⟩ := hO pre k post e
      obtain ⟨_, o', el, ho', hop, hgd⟩ := hfs k hkf
      obtain rfl : o' = o := Option.some.inj (ho'.symm.trans ho)
      have hm := m.meets hB e hk
      have hlk : looksOf ops k = o'.looksAt ops := by simp [looksOf, ho]
      have hdk : dstOf ops k = o'.dst := by simp [dstOf, ho]
      rw [hlk] at hm
      obtain ⟨w', hr, hsz, hg⟩ := alloc_runs hop hgd (hdk.symm.trans hd') hds (hob a w m.behind hm)
      have hw : Region.wanted o' (yielded ops a.tmps) = true := by unfold Region.wanted; rw [hgd]
      unfold wpOp
      simp only [ho]
      rw [if_pos hw]
      refine .inl ?_
      unfold Oper.wp
      rw [hr]
      simp only [Oper.upon]
      · skip
        rw [← hdk]
        refine ih _ _ _ (by omega) (m.step hB hE hT hks hk hg.1 hg.2) (fun j hj hjl s hs' => ?_) (fun i hi j hj hij hil hjl s t hs' ht' => ?_)
        · by_cases hjk : j = k
          · subst hjk
            rw [hd'] at hs'
            injection hs' with hs'
            subst hs'
            rw [hd', put_getD a d d _ hds, if_pos rfl]
            exact ⟨_, rfl, hsz⟩
          · rw [hother j hj hjk s hs']
            obtain ⟨g, h1, h2⟩ := hl j hj (((set_getD hlt').1 hjl).resolve_left hjk) s hs'
            exact ⟨g, h1, by omega⟩
        · by_cases hik : i = k
          · subst hik
            rw [hother j hj (Ne.symm hij) t ht']
            obtain ⟨g, h1, h2⟩ := hl j hj (((set_getD hlt').1 hjl).resolve_left (Ne.symm hij)) t ht'
            rw [hs'] at hd'
            injection hd' with hd'
            subst hd'
            rw [h1, hs', put_getD a s s _ hds, if_pos rfl]
            intro he
            injection he with he
            injection he with he
            injection he with he
            omega
          · by_cases hjk : j = k
            · subst hjk
              rw [hother i hi hik s hs']
              obtain ⟨g, h1, h2⟩ := hl i hi (((set_getD hlt').1 hil).resolve_left hik) s hs'
              rw [ht'] at hd'
              injection hd' with hd'
              subst hd'
              rw [h1, ht', put_getD a t t _ hds, if_pos rfl]
              intro he
              injection he with he
              injection he with he
              injection he with he
              omega
            · rw [hother i hi hik s hs', hother j hj hjk t ht']
              exact hap i hi j hj hij (((set_getD hlt').1 hil).resolve_left hik) (((set_getD hlt').1 hjl).resolve_left hjk) s t hs' ht'
    · obtain ⟨pre, post, e⟩ := List.append_of_mem hks
      obtain ⟨o, ho, _, hob⟩ := hO pre k post e
      have hm := m.meets hB e hk
      have hlk : looksOf ops k = o.looksAt ops := by simp [looksOf, ho]
      have hdk : dstOf ops k = o.dst := by simp [dstOf, ho]
      rw [hlk] at hm
      have hgo : ∀ K : Act → World → Prop, (∀ v w', Behind w w' → Ts k v w' → K (a.put o.dst v) w') → wpOp P ops Q k K a w := fun K hK => (hob a w m.behind hm).elim (fun h => wpOp_of_gives ho h hK) fun h => wpOp_of_givesBy ho h hK
      refine hgo _ fun v w' hb hv => ?_
      rw [← hdk]
      refine ih _ _ _ (by omega) (m.step hB hE hT hks hk hb hv) (fun j hj hjl s hs' => ?_) (fun i hi j hj hij hil hjl s t hs' ht' => ?_)
      · have hjk : j ≠ k := fun e => hkf (e ▸ hj)
        rw [hother j hj hjk s hs']
        obtain ⟨g, h1, h2⟩ := hl j hj (((set_getD hlt').1 hjl).resolve_left hjk) s hs'
        exact ⟨g, h1, by have := hb.size; omega⟩
      · have hik : i ≠ k := fun e => hkf (e ▸ hi)
        have hjk : j ≠ k := fun e => hkf (e ▸ hj)
        rw [hother i hi hik s hs', hother j hj hjk t ht']
        exact hap i hi j hj hij (((set_getD hlt').1 hil).resolve_left hik) (((set_getD hlt').1 hjl).resolve_left hjk) s t hs' ht'
/-- .. and the region's variables are apart. -/
def finTwins (P : Program) (ops : Array Oper) (w0 : World) (Q : Exit → Act → World → Prop) (tail : List Oper) (a1 : Act) (ts : List Tmp) (E : Env) : Prop :=
  ∀ a' w', Behind w0 w' → a'.defers = a1.defers → a'.tmps.size = a1.tmps.size → (∀ t, E t (a'.tmps.getD t undef) w') → apartL ts a' → wpList P ops Q tail a' w'
theorem laneO_twins {a : Act} {F : List (Tmp × Told)} {ts : List Tmp} {tail : List Oper} {a1 : Act} (hn : (F.map (·.1)).Nodup) (hl : (F.all fun x => decide (x.1 < a.tmps.size)) = true) (hd : a.defers = a1.defers) (hs : a.tmps.size = a1.tmps.size) (h : ∀ w', Behind w0 w' → fillAll F a w' fun a'' => apartL ts a'' → wpList P ops Q tail a'' w') :
    laneO P ops w0 (finTwins P ops w0 Q tail a1 ts) [] (envOf a F) := fun a' w' hb h1 h2 hm => fill_spec F a hn (by simpa using hl) (h1.trans hd.symm) (h2.trans hs.symm) hm (h w' hb)
end
def slotsOf (l : List Oper) (fs : List Nat) : List Tmp := fs.filterMap fun k => (l.toArray[k]?).bind (·.dst)
theorem apart_slots {ops : List Oper} {hs : List Nat} {L0 : Array Bool} {a : Act} : ∀ (fs : List Nat), fs.Nodup → (∀ k ∈ fs, k ∈ hs ∧ k < ops.length) → Apart ops.toArray fs (listedAll ops.toArray L0 hs) a → apartL (slotsOf ops fs) a
  | [], _, _, _ => List.Pairwise.nil
  | k :: r, hn, hh, hap => by
    obtain ⟨hk, hn⟩ := List.nodup_cons.1 hn
    have hli : ∀ j ∈ k :: r, (listedAll ops.toArray L0 hs).getD j false = true := fun j hj => by
      have h1 := (hh j hj).2
      have h2 := (hh j hj).1
      simp [listedAll, h1, h2]
    have ih := apart_slots r hn (fun j hj => hh j (by simp [hj])) fun i hi j hj => hap i (by simp [hi]) j (by simp [hj])
    unfold slotsOf at ih ⊢
    cases hd : (ops.toArray[k]?).bind (·.dst) with
    | none => rw [List.filterMap_cons, hd]; exact ih
    | some d =>
      rw [List.filterMap_cons, hd]
      refine List.Pairwise.cons (fun t ht => ?_) ih
      obtain ⟨j, hj, ht⟩ := List.mem_filterMap.1 ht
      exact hap k (by simp) j (by simp [hj]) (fun e => hk (e ▸ hj)) (hli k (by simp)) (hli j (by simp [hj])) d t hd ht
/-- A region that draws its order and makes variables, by their operations fs: ps hang on no world; hs by promises; then the tail ts in its order. -/
theorem region_twins {P : Program} {id : Nat} {Q : Exit → Act → World → Prop} {a : Act} {w : World} {l : List Oper} (ps hs ts fs : List Nat) (hm : P.follows .mixedOrders = true) (hB : topB l.toArray a.tmps.size ps hs ts = true)
    (hf : (freshB l.toArray hs fs && decide fs.Nodup) = true)
    (hQ : ∀ c (a : Act) (d : Tmp) v w, Q (.panic c) (a.put (some d) v) w → Q (.panic c) a w)
    (h : wpQuiet P l.toArray (fun _ => True) (fun a1 => a1.tmps.size = a.tmps.size ∧ laneO P l.toArray w (finTwins P l.toArray w Q (pick l ts) a1 (slotsOf l fs)) (pick l hs) (envOf a1 [])) (pick l ps) a) : (Code.region id l.toArray true).wp P Q a w := by
  simp only [Bool.and_eq_true, decide_eq_true_eq] at hf
  obtain ⟨hf, hfn⟩ := hf
  simp only [topB, firstAll, Bool.and_eq_true, decide_eq_true_eq] at hB
  obtain ⟨⟨⟨⟨hsel, hp⟩, hl⟩, hseq⟩, hlen⟩ := hB
  refine wp_region_any hm ?_
  have hsz : l.toArray.size = ps.length + (hs.length + ts.length) := by omega
  have key : ∀ fuel, fuel = ps.length + (hs.length + ts.length) → wpAny P .any l.toArray Q fuel (Array.replicate l.toArray.size false) a { w with drawn := w.drawn + 1 } := by
    intro fuel hfuel
    rw [hfuel]
    rw [← pick_eq ps (by simpa using pure_lt ps _ hp)] at h
    refine pure_first hsel hQ ps _ a hp h fun a1 ⟨hs1, h1⟩ => ?_
    have hl' : ∀ k ∈ hs, k < l.toArray.size := fun k hk => by
      simp only [laneB, Bool.and_eq_true] at hl
      obtain ⟨⟨⟨_, _⟩, hh⟩, _⟩ := hl
      simp only [headB, List.all_eq_true, Bool.and_eq_true, decide_eq_true_eq] at hh
      exact (hh k hk).1.1
    have hfh : ∀ k ∈ fs, k ∈ hs ∧ k < l.length := fun k hk => by
      simp only [freshB, List.all_eq_true, Bool.and_eq_true, List.contains_iff_mem] at hf
      have := (hf k hk).1
      exact ⟨this, by simpa using hl' k this⟩
    rw [← pick_eq hs (by simpa using hl'), ← pick_eq ts (by simpa using turn_lt ts _ hseq)] at h1
    have hpairs : hs.Nodup := by
      simp only [laneB, Bool.and_eq_true] at hl
      exact (pairsB_spec hs hl.1.1.1).1
    obtain ⟨Ts, hO, hF⟩ := lane_all hs _ hpairs (lane_of_laneO hs _ hl' h1)
    have hcl := closed_fold (md := .any) (ops := l.toArray) ps (Array.replicate l.toArray.size false) (by simp) (fun i hi => by rw [getD_replicate_false] at hi; cases hi) hp
    have hun : ∀ k ∈ hs, (ps.foldl (fun L k => L.setIfInBounds k true) (Array.replicate l.toArray.size false)).getD k false = false := fun k hk => by
      simp only [laneB, Bool.and_eq_true] at hl
      obtain ⟨⟨⟨_, _⟩, hh⟩, _⟩ := hl
      simp only [headB, List.all_eq_true, Bool.and_eq_true] at hh
      simpa using (hh k hk).2
    have hfil : (hs.filter fun k => !(ps.foldl (fun L k => L.setIfInBounds k true) (Array.replicate l.toArray.size false)).getD k false).length = hs.length := by
      rw [List.filter_eq_self.2]
      intro k hk
      rw [hun k hk]; rfl
    refine wpAny_of_twins (w0 := w) (a0 := a1) (E0 := envOf a1 []) (Ts := Ts) (g := ts.length) (fs := fs) (by rw [hs1]; exact hl) hf (envOf_steady (by intro x hx; cases hx)) hO (fun a' w' hb hd hsz' hm' hap => ?_) hs.length _ a1 _ hfil
      ⟨Behind.drawn w, hcl.2, rfl, rfl, hcl.1, fun _ h => h, fun _ h => .inl h, fun t k hk hlk => ?_, fun t _ => by simp [envOf]⟩ (fun k hk hlk => ?_) (fun j hj k hk _ hlj => ?_)
    · exact wpAny_of_turn ts _ a' w' hseq (hF a' w' hb hd hsz' hm' (apart_slots fs hfn hfh hap))
    · rw [hun k hk] at hlk; cases hlk
    · rw [hun k (hfh k hk).1] at hlk; cases hlk
    · rw [hun j (hfh j hj).1] at hlj; cases hlj
  exact key _ hsz
end Go.Proofs.Ytmlnpphblicghaa
