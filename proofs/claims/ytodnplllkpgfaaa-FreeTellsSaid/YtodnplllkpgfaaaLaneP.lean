import Derived.Test.YtodnplllkpgfaaaLaneW
/- A region that draws its order: behind what goes by promises more that hangs on no world, then the tail. No program is named here. -/
namespace Go.Proofs.Ytodnplllkpgfaaa
open Go Go.RowKit
set_option linter.unusedVariables false
set_option linter.unusedSimpArgs false

def finOfP (P : Program) (ops : Array Oper) (w0 : World) (Q : Exit → Act → World → Prop) (more tail : List Oper) (a1 : Act) (E : Env) : Prop :=
  ∀ a' w', Behind w0 w' → a'.defers = a1.defers → a'.tmps.size = a1.tmps.size → (∀ t, E t (a'.tmps.getD t undef) w') → wpQuiet P ops (fun _ => True) (fun a2 => wpList P ops Q tail a2 w') more a'
section
variable {P : Program} {ops : Array Oper} {Q : Exit → Act → World → Prop} {w0 : World} {a : Act} {F : List (Tmp × Told)}
theorem laneP_end {more tail : List Oper} {a1 : Act} (hn : (F.map (·.1)).Nodup) (hl : (F.all fun x => decide (x.1 < a.tmps.size)) = true) (hd : a.defers = a1.defers) (hs : a.tmps.size = a1.tmps.size)
    (h : ∀ w', Behind w0 w' → fillAll F a w' fun a'' => wpQuiet P ops (fun _ => True) (fun a2 => wpList P ops Q tail a2 w') more a'') :
    laneO P ops w0 (finOfP P ops w0 Q more tail a1) [] (envOf a F) := fun a' w' hb h1 h2 hm => fill_spec F a hn (by simpa using hl) (h1.trans hd.symm) (h2.trans hs.symm) hm (h w' hb)
theorem laneP_end0 {more tail : List Oper} {a1 : Act} (hd : a.defers = a1.defers) (hs : a.tmps.size = a1.tmps.size) (h : ∀ w', Behind w0 w' → wpQuiet P ops (fun _ => True) (fun a2 => wpList P ops Q tail a2 w') more a) :
    laneO P ops w0 (finOfP P ops w0 Q more tail a1) [] (envOf a []) := laneP_end (by simp) rfl hd hs h
end
def topPB (ops : Array Oper) (size : Nat) (ps hs qs ts : List Nat) : Bool :=
  Region.noSelect ops && pureB .any ops ps (Array.replicate ops.size false) && laneB .any ops size (firstAll ops.size ps) hs && pureB .any ops qs (listedAll ops (firstAll ops.size ps) hs) &&
    turnB .any ops ts (qs.foldl (fun L k => L.setIfInBounds k true) (listedAll ops (firstAll ops.size ps) hs)) && decide (ps.length + (hs.length + (qs.length + ts.length)) = ops.size)
/-- ps hang on no world; hs by promises; qs hang on no world either; then the tail ts in its order. -/
theorem region_laneP {P : Program} {id : Nat} {Q : Exit → Act → World → Prop} {a : Act} {w : World} {l : List Oper} (ps hs qs ts : List Nat) (hm : P.follows .mixedOrders = true) (hB : topPB l.toArray a.tmps.size ps hs qs ts = true)
    (hQ : ∀ c (a : Act) (d : Tmp) v w, Q (.panic c) (a.put (some d) v) w → Q (.panic c) a w)
    (h : wpQuiet P l.toArray (fun _ => True) (fun a1 => a1.tmps.size = a.tmps.size ∧ laneO P l.toArray w (finOfP P l.toArray w Q (pick l qs) (pick l ts) a1) (pick l hs) (envOf a1 [])) (pick l ps) a) : (Code.region id l.toArray true).wp P Q a w := by
  simp only [topPB, firstAll, Bool.and_eq_true, decide_eq_true_eq] at hB
  obtain ⟨⟨⟨⟨⟨hsel, hp⟩, hl⟩, hq⟩, hseq⟩, hlen⟩ := hB
  refine wp_region_any hm ?_
  have hsz : l.toArray.size = ps.length + (hs.length + (qs.length + ts.length)) := by omega
  have key : ∀ fuel, fuel = ps.length + (hs.length + (qs.length + ts.length)) → wpAny P .any l.toArray Q fuel (Array.replicate l.toArray.size false) a { w with drawn := w.drawn + 1 } := by
    intro fuel hfuel
    rw [hfuel]
    rw [← pick_eq ps (by simpa using pure_lt ps _ hp)] at h
    refine pure_first hsel hQ ps _ a hp h fun a1 ⟨hs1, h1⟩ => ?_
    have hl' : ∀ k ∈ hs, k < l.toArray.size := fun k hk => by
      simp only [laneB, Bool.and_eq_true] at hl
      obtain ⟨⟨⟨_, _⟩, hh⟩, _⟩ := hl
      simp only [headB, List.all_eq_true, Bool.and_eq_true, decide_eq_true_eq] at hh
      exact (hh k hk).1.1
    rw [← pick_eq hs (by simpa using hl'), ← pick_eq ts (by simpa using turn_lt ts _ hseq), ← pick_eq qs (by simpa using pure_lt qs _ hq)] at h1
    have hpairs : hs.Nodup := by
      simp only [laneB, Bool.and_eq_true] at hl
      exact (pairsB_spec hs hl.1.1.1).1
    obtain ⟨Ts, hO, hF⟩ := lane_all hs _ hpairs (lane_of_laneO hs _ hl' h1)
    have hcl := closed_fold (md := .any) (ops := l.toArray) ps (Array.replicate l.toArray.size false) (by simp) (fun i hi => by rw [getD_replicate_false] at hi; cases hi) hp
    have hfil : (hs.filter fun k => !(ps.foldl (fun L k => L.setIfInBounds k true) (Array.replicate l.toArray.size false)).getD k false).length = hs.length := by
      rw [List.filter_eq_self.2]
      intro k hk
      simp only [laneB, Bool.and_eq_true] at hl
      obtain ⟨⟨⟨_, _⟩, hh⟩, _⟩ := hl
      simp only [headB, List.all_eq_true, Bool.and_eq_true] at hh
      exact (hh k hk).2
    refine wpAny_of_mid (w0 := w) (a0 := a1) (E0 := envOf a1 []) (Ts := Ts) (g := qs.length + ts.length) (by rw [hs1]; exact hl) (envOf_steady (by intro x hx; cases hx)) hO (fun a' w' hb hd hsz' hm' => ?_) hs.length _ a1 _ hfil
      ⟨Behind.drawn w, hcl.2, rfl, rfl, hcl.1, fun _ h => h, fun _ h => .inl h, fun t k hk hlk => ?_, fun t _ => by simp [envOf]⟩
    · exact pure_first hsel hQ qs _ a' hq (hF a' w' hb hd hsz' hm') fun a2 h2 => wpAny_of_turn ts _ a2 w' hseq h2
    · simp only [laneB, Bool.and_eq_true] at hl
      obtain ⟨⟨⟨_, _⟩, hh⟩, _⟩ := hl
      simp only [headB, List.all_eq_true, Bool.and_eq_true] at hh
      have := (hh k hk).2
      rw [hlk] at this
      cases this
  exact key _ hsz
end Go.Proofs.Ytodnplllkpgfaaa
