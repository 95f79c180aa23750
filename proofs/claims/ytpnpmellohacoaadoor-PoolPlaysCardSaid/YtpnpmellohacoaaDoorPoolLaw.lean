import Derived.Test.YtpnpmellohacoaaDoorPoolAwake
/- What the laws of layer 3 keep beside a pool: handles, flags. -/
namespace Go.Proofs.YtpnpmellohacoaaDoor
open Go Go.RowKit
set_option linter.unusedVariables false
set_option linter.unusedSimpArgs false

def hCells : List (Int × Int) → List Value
  | [] => []
  | p :: r => .int .i64 p.1 :: .int .i64 p.2 :: hCells r
theorem hCells_length (l : List (Int × Int)) : (hCells l).length = l.length * 2 := by
  induction l with
  | nil => rfl
  | cons p r ih => simp [hCells, ih]; omega
theorem hCells_append (a b : List (Int × Int)) : hCells (a ++ b) = hCells a ++ hCells b := by
  induction a with
  | nil => rfl
  | cons p r ih => simp [hCells, ih]
theorem hCells_get (l : List (Int × Int)) : ∀ k (h : k < l.length), (hCells l)[k * 2]? = some (.int .i64 l[k].1) ∧ (hCells l)[k * 2 + 1]? = some (.int .i64 l[k].2) := by
  induction l with
  | nil => intro k h; simp at h
  | cons p r ih =>
    intro k h
    cases k with
    | zero => exact ⟨rfl, rfl⟩
    | succ k =>
      have := ih k (by simpa using h)
      rw [show (k + 1) * 2 = k * 2 + 1 + 1 by omega]
      simpa [hCells] using this
theorem hCells_set (l : List (Int × Int)) : ∀ k (p : Int × Int), k < l.length → hCells (l.set k p) = ((hCells l).set (k * 2) (.int .i64 p.1)).set (k * 2 + 1) (.int .i64 p.2) := by
  induction l with
  | nil => intro k t h; simp at h
  | cons p r ih =>
    intro k t h
    cases k with
    | zero => rfl
    | succ k =>
      have := ih k t (by simpa using h)
      rw [show (k + 1) * 2 = k * 2 + 1 + 1 by omega]
      simp [hCells, this]
theorem handle_info : (Tryd.prog.info? 27).map (fun i => (i.zero, i.size, i.bytes)) = some (some (.agg #[.int .i64 0, .int .i64 0]), 2, 16) := by kernel_rfl

theorem PB.only {B g : Nat} {most T : Int} {pl : Pl} {S R : List Nat} {w w' : World} (h : PB B w g most pl T S) (ho : Only R w w') (hd : ∀ x ∈ S, x ∉ R) : PB B w' g most pl T S := ⟨h.pool.only ho hd, h.base, Nat.le_trans h.room ho.size⟩
theorem PB.mono {B g : Nat} {most T T' : Int} {pl : Pl} {S : List Nat} {w : World} (h : PB B w g most pl T S) (ht : T ≤ T') (hs : T' ≤ 1000000) : PB B w g most pl T' S := ⟨h.pool.mono ht hs, h.base, h.room⟩
/-- A row of the law's own, apart from the pool. -/
structure Beside (B : Nat) (w : World) (S : List Nat) (e : TypeId) (size : Nat) (v : Value) (n : Nat) (xs : List Value) : Prop where
  row : w.ownsRow 0 e size v n xs
  base : ∀ k, v.ownBlock = some k → B ≤ k
  off : ∀ k, v.ownBlock = some k → k ∉ S
section
variable {B g : Nat} {most T : Int} {pl : Pl} {S S' : List Nat} {w w' : World} {e size n : Nat} {v : Value} {xs : List Value}
theorem Beside.step (h : Beside B w S e size v n xs) (ho : Only S w w') (hN : ∀ r, r < w.heap.size → r ∉ S → r ∉ S') : Beside B w' S' e size v n xs :=
  ⟨ho.owns h.row h.off, h.base, fun k hk => hN k (owns_lt h.row hk) (h.off k hk)⟩
theorem Beside.below (h : Beside B w S e size v n xs) (hb : Below w.heap.size w w') : Beside B w' S e size v n xs := ⟨(Only.of_below hb : Only [] w w').owns h.row (fun _ _ => by simp), h.base, h.off⟩
theorem Beside.alloc (h : Beside B w S e size v n xs) (o : Obj) : Beside B (w.alloc o) S e size v n xs := h.below ((Below.refl _ w).alloc (Nat.le_refl _) _)
theorem Beside.nil (B : Nat) (w : World) (S : List Nat) (e size : Nat) : Beside B w S e size (.slice none 0 0) 0 [] := ⟨World.ownsRow_nil _ _ _ _, fun k h => by simp [Value.ownBlock] at h, fun k h => by simp [Value.ownBlock] at h⟩
theorem Beside.apart {R : List Nat} (h : Beside B w S e size v n xs) (ho : Only R w w') (hd : ∀ k, v.ownBlock = some k → k ∉ R) : Beside B w' S e size v n xs := ⟨ho.owns h.row hd, h.base, h.off⟩
/-- An element more. -/
theorem Beside.pushed {A A' : Option Addr} {c c' : Nat} {news : List Value} (hp : PB B w g most pl T S) (h : Beside B w S e size (.slice A n c) n xs) (hr : w'.ownsRow 0 e size (.slice A' (n + 1) c') (n + 1) (xs ++ news)) (ho : Only (Value.slice A n c).ownBlock.toList w w')
    (hg : ∀ g, (Value.slice A' (n + 1) c').ownBlock = some g → (Value.slice A n c).ownBlock = some g ∨ w.heap.size ≤ g) :
    PB B w' g most pl T S ∧ Beside B w' S e size (.slice A' (n + 1) c') (n + 1) (xs ++ news) ∧ Below B w w' := by
  refine ⟨hp.only ho fun x hx hm => h.off x (by simpa using hm) hx, ⟨hr, fun k hk => ?_, fun k hk hm => ?_⟩, ho.below (fun x hx => h.base x (by simpa using hx)) hp.room⟩
  · rcases hg k hk with h1 | h1
    · exact h.base k h1
    · exact Nat.le_trans hp.room h1
  · rcases hg k hk with h1 | h1
    · exact h.off k h1 hm
    · exact hp.out h1 hm
/-- An element stored. -/
theorem Beside.put {b c : Nat} (hp : PB B w g most pl T S) (h : Beside B w S e size (.slice (some ⟨b, 0, none⟩) n c) n xs) (j : Nat) (u : Value) :
    PB B (w.setCell ⟨b, j, none⟩ u) g most pl T S ∧ Beside B (w.setCell ⟨b, j, none⟩ u) S e size (.slice (some ⟨b, 0, none⟩) n c) n (xs.set j u) ∧ Below B w (w.setCell ⟨b, j, none⟩ u) :=
  ⟨hp.set (p := ⟨b, j, none⟩) (h.off b rfl) u, ⟨(h.row.stored j u).1, h.base, h.off⟩, (Below.refl B w).setCell (p := ⟨b, j, none⟩) (h.base b rfl) u⟩
theorem PB.cell_off (hp : PB B w g most pl T S) {r : Nat} {t : TypeId} {cs : List Value} (hw : Whole w r t cs) (hn : r ∉ S) (ho : Only S w w') : Whole w' r t cs := ho.whole hw hn
end
theorem owns_cap {w : World} {b : Nat} {e : TypeId} {size n c : Nat} {A : Option Addr} {xs : List Value} (h : w.ownsRow b e size (.slice A n c) n xs) : n ≤ c ∧ c ≤ 9223372036854775807 := by
  obtain ⟨A', c', e, h1, h2, _⟩ := owns_nil h
  injection e with _ _ e2
  subst e2
  unfold maxLen at h2
  omega
/-- .. its block's number as the walk spells it. -/
theorem wpList_oneG {P : Program} {w : World} {ops : Array Oper} {rest : List Oper} {o : Oper} {a : Act} {Q : Exit → Act → World → Prop} {cs : Array Value} (G : Nat) (hG : G = w.heap.size) (hw : Region.wanted o (yielded ops a.tmps) = true) (s x : Operand) (t : TypeId)
    (ho : o.op = .call { callee := .builtin .append, args := #[s, x], argTypes := #[t, t] })
    (e size bytes : Nat) (z : Value) (ht : P.underlying t = some (.slice e)) (hinfo : (P.info? e).map (fun i => (i.zero, i.size, i.bytes)) = some (some z, size, bytes))
    (hzs : z.cells.size = size) (hsz : 0 < size) (n c : Nat) (A : Option Addr) (xs : List Value) (hs : a.eval s = .slice A n c) (hown : w.ownsRow 0 e size (.slice A n c) n xs)
    (hx : a.eval x = .slice (some ⟨G, 0, none⟩) 1 1) (hb : (n + 1) * bytes ≤ 140737488355328 ∧ n + 1 ≤ maxLen) (hl : cs.toList.length = size) (h1 : ∀ u ∈ cs.toList, u.oneCell' = true)
    (h : ∀ A' c' w', w'.ownsRow 0 e size (.slice A' (n + 1) c') (n + 1) (xs ++ cs.toList) → Only (Value.slice A n c).ownBlock.toList w w' → (∀ g, (Value.slice A' (n + 1) c').ownBlock = some g → (Value.slice A n c).ownBlock = some g ∨ w.heap.size ≤ g) → wpList P ops Q rest (a.put o.dst (.slice A' (n + 1) c')) w') :
    wpList P ops Q (o :: rest) a (w.alloc (.cells cs e)) := by
  subst hG
  exact wpList_one hw s x t ho e size bytes z ht hinfo hzs hsz n c A xs hs hown hx hb hl h1 h
theorem mask7 (n : Int) : bits .and .i64 n 7 = n % 8 := and_mask_i64 n 3 (by decide)
theorem bnd_small {m : Int} (h0 : 0 ≤ m) (h1 : m ≤ 10000) : bndP m = m := by unfold bndP; omega

/-! PoolLeast in plain words. -/
theorem leastF_full (pl : Pl) (h : ∀ i, i < pl.length → takenOf pl i = true) : leastF pl = pl.length := leastF_eq (takenOf_out (Nat.le_refl _)) h
theorem count_all (pl : Pl) (h : ∀ i, i < pl.length → takenOf pl i = true) : countP pl = pl.length := count_full (leastF_full pl h)
def ones (n : Nat) : Pl := List.replicate n (1, true)
theorem ones_length (n : Nat) : (ones n).length = n := by simp [ones]
theorem ones_taken (n : Nat) : ∀ i, i < (ones n).length → takenOf (ones n) i = true := fun i h => by rw [takenOf_get h]; simp [ones]
theorem ones_turn (n i : Nat) (h : i < n) : turnOf (ones n) i = 1 := by rw [turnOf_get (by rw [ones_length]; exact h)]; simp [ones]
theorem ones_least (n : Nat) : leastF (ones n) = n := by rw [leastF_full _ (ones_taken n), ones_length]
theorem ones_count (n : Nat) : countP (ones n) = n := by rw [count_all _ (ones_taken n), ones_length]
theorem ones_take (n : Nat) : takeP (ones n) = ones (n + 1) := by
  unfold takeP
  rw [if_neg (by rw [ones_least, ones_length]; omega)]
  simp [ones, List.replicate_succ']
theorem ones_next (n : Nat) : turnOf (ones n) n = 0 := turnOf_out (by rw [ones_length]; exact Nat.le_refl _)
/-- The handles of all places. -/
def handles (k : Nat) : Pl → List (Int × Int)
  | [] => []
  | p :: r => (k, p.1) :: handles (k + 1) r
theorem handles_length (pl : Pl) : ∀ k, (handles k pl).length = pl.length := by
  induction pl with
  | nil => intro k; rfl
  | cons p r ih => intro k; simp [handles, ih]
theorem handles_get (pl : Pl) : ∀ k i (h : i < (handles k pl).length), (handles k pl)[i] = (((k + i : Nat) : Int), turnOf pl i) := by
  induction pl with
  | nil => intro k i h; simp [handles] at h
  | cons p r ih =>
    intro k i h
    cases i with
    | zero => rfl
    | succ i =>
      have := ih (k + 1) i (by simpa [handles] using h)
      simp only [handles, List.getElem_cons_succ, this, turnOf_cons]
      rw [show k + 1 + i = k + (i + 1) by omega]
theorem handles_append (a b : Pl) : ∀ k, handles k (a ++ b) = handles k a ++ handles (k + a.length) b := by
  induction a with
  | nil => intro k; rfl
  | cons p r ih => intro k; simp only [List.cons_append, handles, ih, List.length_cons, show k + 1 + r.length = k + (r.length + 1) by omega]
theorem handles_ones (n : Nat) : handles 0 (ones (n + 1)) = handles 0 (ones n) ++ [((n : Int), 1)] := by
  have : ones (n + 1) = ones n ++ [(1, true)] := by simp [ones, List.replicate_succ']
  rw [this, handles_append, ones_length, Nat.zero_add]
  rfl
theorem handles_ext {a b : Pl} (hl : a.length = b.length) (h : ∀ i, i < a.length → turnOf a i = turnOf b i) (k : Nat) : handles k a = handles k b := by
  apply List.ext_getElem (by rw [handles_length, handles_length, hl])
  intro i h1 h2
  rw [handles_get, handles_get, h i (by rw [handles_length] at h1; exact h1)]
theorem handles_set (pl : Pl) (i : Nat) (t : Int) (b : Bool) (k : Nat) (h : i < pl.length) : handles k (pl.set i (t, b)) = (handles k pl).set i (((k + i : Nat) : Int), t) := by
  apply List.ext_getElem (by simp [handles_length])
  intro j h1 h2
  rw [handles_get, turnOf_set _ h, List.getElem_set]
  split
  · subst_vars; simp
  · rw [handles_get, if_neg (by omega)]
end Go.Proofs.YtpnpmellohacoaaDoor
