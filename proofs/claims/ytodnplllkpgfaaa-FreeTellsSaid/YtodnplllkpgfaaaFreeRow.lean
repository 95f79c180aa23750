import Derived.Test.YtodnplllkpgfaaaFreeBd
import Derived.Test.YtodnplllkpgfaaaRows3
/- Items' sizes, what is frozen of them, as rows; how a round turns them. No program is named here. -/
namespace Go.Proofs.Ytodnplllkpgfaaa
open Go Go.RowKit
set_option linter.unusedVariables false
set_option linter.unusedSimpArgs false

def iS (st : List It) : List Value := st.map fun i => .int .i64 i.s
def iF (st : List It) : List Value := st.map fun i => .bool i.fz
def dS (q : List (It × Int)) : List Value := q.map fun p => .int .i64 (p.1.s - p.2)
theorem mixL_end {α : Type} {A B : List α} {k : Nat} (h : A.length = B.length) (hk : k = B.length) : mixL A B k = A := by rw [hk]; exact mixL_all h
theorem iS_len (st : List It) : (iS st).length = st.length := by simp [iS]
theorem iF_len (st : List It) : (iF st).length = st.length := by simp [iF]
theorem dS_len (q : List (It × Int)) : (dS q).length = q.length := by simp [dS]
theorem iS_get {st : List It} {k : Nat} (h : k < st.length) : (iS st)[k]? = some (.int .i64 st[k].s) := by simp [iS, h]
theorem iF_get {st : List It} {k : Nat} (h : k < st.length) : (iF st)[k]? = some (.bool st[k].fz) := by simp [iF, h]
theorem dS_get {q : List (It × Int)} {k : Nat} (h : k < q.length) : (dS q)[k]? = some (.int .i64 (q[k].1.s - q[k].2)) := by simp [dS, h]
theorem iS_i64s (st : List It) : iS st = i64s (st.map It.s) := by simp [iS, i64s]
theorem putI_fz (l : List It) (ps : List Int) : iF ((putI l ps).map (·.1)) = iF l := by
  have h : ∀ (l : List It) ps, ((putI l ps).map (fun p => p.1.fz)) = l.map It.fz := by
    intro l
    induction l with
    | nil => intro ps; rfl
    | cons i r ih =>
      intro ps
      unfold putI
      split
      · simp [ih]
      · rename_i h1; simp [ih, h1]
  have h1 := h l ps
  unfold iF
  rw [List.map_map]
  have e : ((putI l ps).map ((fun i : It => Value.bool i.fz) ∘ fun x => x.1)) = ((putI l ps).map (fun p => p.1.fz)).map Value.bool := by rw [List.map_map]; rfl
  rw [e, h1, List.map_map]; rfl
theorem stop_s (q : List (It × Int)) (o : Int) : iS (q.map (stopI o)) = iS (q.map (·.1)) := by unfold iS; rw [List.map_map, List.map_map]; rfl
/-- What is frozen stays as it is. -/
theorem put_frozen {l : List It} {ps : List Int} {k : Nat} (h : k < l.length) (hf : l[k].fz = true) (h' : k < (putI l ps).length) : (putI l ps)[k] = (l[k], l[k].s) := by rw [putI_get l ps k h h', if_pos hf]
theorem put_open {l : List It} {ps : List Int} {k : Nat} (h : k < l.length) (hf : l[k].fz = false) (h' : k < (putI l ps).length) :
    (putI l ps)[k] = (⟨l[k].x, clF l[k].x (l[k].x.base + ps.getD (openI (l.take k)) 0), false⟩, l[k].x.base + ps.getD (openI (l.take k)) 0) := by rw [putI_get l ps k h h', if_neg (by rw [hf]; simp)]
/-- One more of a row's new cells, or none where it stays. -/
theorem mix_step {α : Type} {A B : List α} {k : Nat} {u : α} (h : A.length = B.length) (hk : k < B.length) (hu : A[k]? = some u) : (mixL A B k).set k u = mixL A B (k + 1) := by
  have h1 : k < A.length := by omega
  rw [List.getElem?_eq_getElem h1] at hu
  have := mixL_set h hk
  rw [Option.some.inj hu] at this
  exact this
theorem mix_stay {α : Type} {A B : List α} {k : Nat} (h : A.length = B.length) (hk : k < B.length) (hu : A[k]? = B[k]?) : mixL A B (k + 1) = mixL A B k := by
  have h1 : k < A.length := by omega
  rw [List.getElem?_eq_getElem h1, List.getElem?_eq_getElem hk] at hu
  exact mixL_same h hk (Option.some.inj hu)
theorem mix_get {α : Type} {A B : List α} {k : Nat} {u : α} (h : A.length = B.length) (hk : k < B.length) (hu : B[k]? = some u) : (mixL A B k)[k]? = some u := by
  rw [mixL_get h hk, ← List.getElem?_eq_getElem hk, hu]
/-- A round, cell by cell. -/
structure Step1 (g : Bool) (inner : Int) (st : List It) (k : Nat) (i : It) : Prop where
  free : freeI inner (st.take (k + 1)) = freeI inner (st.take k) - tkI i
  wts : wtsI g (st.take (k + 1)) = wtsI g (st.take k) ++ (if i.fz = true then [] else [wtF g i.x])
  opn : openI (st.take (k + 1)) = openI (st.take k) + (if i.fz = true then 0 else 1)
theorem step1 (g : Bool) (inner : Int) (st : List It) {k : Nat} (h : k < st.length) : Step1 g inner st k st[k] := ⟨freeI_take inner st k h, wtsI_take g st k h, openI_take st k h⟩
/-- A frozen item in the loop that gives. -/
theorem give_frozen {st : List It} {P : List Int} {q : List (It × Int)} {n k : Nat} (hq0 : putI st P = q) (hn : st.length = n) (h : k < n) (hf : (st[k]'(by omega)).fz = true) (z : Value) (hz : z = .int .i64 0) :
    mixL (iS (q.map (·.1))) (iS st) (k + 1) = mixL (iS (q.map (·.1))) (iS st) k ∧ mixL (dS q) (List.replicate n z) (k + 1) = mixL (dS q) (List.replicate n z) k ∧
    overI (q.take (k + 1)) = overI (q.take k) ∧ openI (st.take (k + 1)) = openI (st.take k) := by
  subst hq0
  have hk : k < st.length := by omega
  have hq : k < (putI st P).length := by rw [putI_len]; exact hk
  have e := put_frozen (ps := P) hk hf hq
  refine ⟨mix_stay (by simp [iS, putI_len]) (by rw [iS_len]; exact hk) ?_, mix_stay (by simp [dS, putI_len, hn]) (by simpa using h) ?_, ?_, ?_⟩
  · rw [iS_get (st := (putI st P).map (·.1)) (k := k) (by simpa using hq), iS_get hk, List.getElem_map, e]
  · rw [dS_get hq, e]; simp [h, hz]
  · rw [overI_take _ k hq, e]; simp
  · rw [openI_take st k hk, if_pos hf]; rfl
/-- The others. -/
theorem give_open {st : List It} {P : List Int} {q : List (It × Int)} {n k : Nat} (hq0 : putI st P = q) (hn : st.length = n) (h : k < n) (hk : k < st.length) (hf : st[k].fz = false) (z : Value) (want : Int)
    (hw : want = st[k].x.base + P.getD (openI (st.take k)) 0) :
    (mixL (iS (q.map (·.1))) (iS st) k).set k (.int .i64 (clF st[k].x want)) = mixL (iS (q.map (·.1))) (iS st) (k + 1) ∧
    (mixL (dS q) (List.replicate n z) k).set k (.int .i64 (clF st[k].x want - want)) = mixL (dS q) (List.replicate n z) (k + 1) ∧
    overI (q.take (k + 1)) = overI (q.take k) + (clF st[k].x want - want) ∧ openI (st.take (k + 1)) = openI (st.take k) + 1 := by
  subst hq0
  have hq : k < (putI st P).length := by rw [putI_len]; exact hk
  have e := put_open (ps := P) hk hf hq
  rw [← hw] at e
  refine ⟨mix_step (by simp [iS, putI_len]) (by rw [iS_len]; exact hk) ?_, mix_step (by simp [dS, putI_len, hn]) (by simpa using h) ?_, ?_, ?_⟩
  · rw [iS_get (st := (putI st P).map (·.1)) (k := k) (by simpa using hq), List.getElem_map, e]
  · rw [dS_get hq, e]
  · rw [overI_take _ k hq, e]
  · rw [openI_take st k hk, if_neg (by rw [hf]; simp)]
theorem put_openI (l : List It) : ∀ ps, openI ((putI l ps).map (·.1)) = openI l := by
  induction l with
  | nil => intro ps; rfl
  | cons i r ih =>
    intro ps
    unfold putI
    by_cases hf : i.fz = true
    · rw [if_pos hf, List.map_cons, openI_cons, openI_cons, if_pos hf, if_pos hf, ih]
    · rw [if_neg hf, List.map_cons, openI_cons, openI_cons, if_neg hf, if_neg (by simp), ih]
theorem open_take_lt {st : List It} {k : Nat} (h : k < st.length) (hf : st[k].fz = false) : openI (st.take k) < openI st := by
  have h1 := openI_both (st.take (k + 1)) (st.drop (k + 1))
  rw [List.take_append_drop, openI_take st k h, if_neg (by rw [hf]; simp)] at h1
  omega
/-- Three rows, and the parts. -/
structure RP (W w : World) (e1 e2 e3 e4 : TypeId) (g1 g2 g3 n : Nat) (x1 x2 x3 : List Value) (B : Nat) (Ap : Option Addr) (m c : Nat) (ps : List Value) : Prop where
  r : R3 W w e1 e2 e3 g1 g2 g3 n x1 x2 x3
  p : w.ownsRow B e4 1 (.slice Ap m c) m ps
  far : ∀ g, (Value.slice Ap m c).ownBlock = some g → g ≠ g1 ∧ g ≠ g3
theorem own_off {w : World} {B e m c : Nat} {Ap : Option Addr} {ps : List Value} (h : w.ownsRow B e 1 (.slice Ap m c) m ps) {g' : Nat} (hn : ∀ g, (Value.slice Ap m c).ownBlock = some g → g ≠ g') (j : Nat) (u : Value) : (w.setCell ⟨g', j, none⟩ u).ownsRow B e 1 (.slice Ap m c) m ps :=
  ((Only.refl [g'] w).setCell ⟨g', j, none⟩ (.inl (by simp)) u).owns h fun k hk hm => hn k hk (by simpa using hm)
section
variable {W w w' : World} {e1 e2 e3 e4 : TypeId} {g1 g2 g3 n : Nat} {x1 x2 x3 : List Value} {B : Nat} {Ap : Option Addr} {m c : Nat} {ps : List Value}
theorem RP.put1 (h : RP W w e1 e2 e3 e4 g1 g2 g3 n x1 x2 x3 B Ap m c ps) (j : Nat) (u : Value) : RP W (w.setCell ⟨g1, j, none⟩ u) e1 e2 e3 e4 g1 g2 g3 n (x1.set j u) x2 x3 B Ap m c ps :=
  ⟨h.r.put1 j u, own_off h.p (fun g hg => (h.far g hg).1) j u, h.far⟩
theorem RP.put3 (h : RP W w e1 e2 e3 e4 g1 g2 g3 n x1 x2 x3 B Ap m c ps) (j : Nat) (u : Value) : RP W (w.setCell ⟨g3, j, none⟩ u) e1 e2 e3 e4 g1 g2 g3 n x1 x2 (x3.set j u) B Ap m c ps :=
  ⟨h.r.put3 j u, own_off h.p (fun g hg => (h.far g hg).2) j u, h.far⟩
theorem RP.behind (h : RP W w e1 e2 e3 e4 g1 g2 g3 n x1 x2 x3 B Ap m c ps) (hb : Below w.heap.size w w') : RP W w' e1 e2 e3 e4 g1 g2 g3 n x1 x2 x3 B Ap m c ps :=
  ⟨h.r.behind hb, own_below h.p hb (Nat.le_refl _), h.far⟩
end
/-- Whether one is frozen by what is over. -/
def stopB (o d : Int) : Bool := decide (o = 0) || (decide (0 < o) && decide (0 < d)) || (decide (o < 0) && decide (d < 0))
theorem stop_fz (o : Int) (p : It × Int) : (stopI o p).fz = (p.1.fz || stopB o (p.1.s - p.2)) := by show (_ || _ || _ || _) = (_ || (_ || _ || _)); simp [Bool.or_assoc]
/-- The loop that freezes. -/
theorem freeze_step {q : List (It × Int)} {st : List It} {o : Int} {n k : Nat} (hq : q.length = n) (h : k < n) (hF : iF (q.map (·.1)) = iF st) (hs : st.length = n) :
    (mixL (iF (q.map (stopI o))) (iF st) k)[k]? = some (.bool (st[k]'(by omega)).fz) ∧ (st[k]'(by omega)).fz = (q[k]'(by omega)).1.fz ∧
    ((st[k]'(by omega)).fz = false → stopB o ((q[k]'(by omega)).1.s - (q[k]'(by omega)).2) = true → (mixL (iF (q.map (stopI o))) (iF st) k).set k (.bool true) = mixL (iF (q.map (stopI o))) (iF st) (k + 1) ∧
      openI (mixL (q.map (stopI o)) (q.map (·.1)) (k + 1)) + 1 = openI (mixL (q.map (stopI o)) (q.map (·.1)) k)) ∧
    ((st[k]'(by omega)).fz = true ∨ stopB o ((q[k]'(by omega)).1.s - (q[k]'(by omega)).2) = false → mixL (iF (q.map (stopI o))) (iF st) (k + 1) = mixL (iF (q.map (stopI o))) (iF st) k ∧
      openI (mixL (q.map (stopI o)) (q.map (·.1)) (k + 1)) = openI (mixL (q.map (stopI o)) (q.map (·.1)) k)) := by
  have hk : k < st.length := by omega
  have hkq : k < q.length := by omega
  have ef : st[k].fz = q[k].1.fz := by
    have h1 : (iF (q.map (·.1)))[k]? = (iF st)[k]? := by rw [hF]
    rw [iF_get hk, iF_get (st := q.map (·.1)) (k := k) (by simpa using hkq)] at h1
    simpa using h1.symm
  have hl : (iF (q.map (stopI o))).length = (iF st).length := by rw [iF_len, iF_len, List.length_map]; omega
  have hkf : k < (iF st).length := by rw [iF_len]; exact hk
  have om := openI_mix q o k hkq
  have sf := stop_fz o q[k]
  refine ⟨mix_get hl hkf (iF_get hk), ef, fun h1 h2 => ⟨mix_step hl hkf ?_, ?_⟩, fun h1 => ⟨mix_stay hl hkf ?_, ?_⟩⟩
  · rw [iF_get (st := q.map (stopI o)) (k := k) (by simpa using hkq), List.getElem_map, sf, h2, Bool.or_true]
  · rw [if_pos ⟨by rw [← ef]; exact h1, by rw [sf, h2, Bool.or_true]⟩] at om
    exact om
  · rw [iF_get (st := q.map (stopI o)) (k := k) (by simpa using hkq), iF_get hk, ef, List.getElem_map, sf]
    rcases h1 with h1 | h1
    · rw [← ef, h1, Bool.true_or]
    · rw [h1, Bool.or_false]
  · rw [if_neg (fun hh => by
      rw [sf, ← ef] at hh
      rcases h1 with h1 | h1
      · rw [h1] at hh; cases hh.1
      · rw [h1, hh.1] at hh; exact absurd hh.2 (by simp))] at om
    omega
end Go.Proofs.Ytodnplllkpgfaaa
