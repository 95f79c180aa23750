import Derived.Test.YtbhdpfacfgldiaaGreatDoorZRQ
import Derived.Maps.RangeWalk
/- A copy of a tree under way: the nodes that are no longer to come. -/
namespace Go.Proofs.YtbhdpfacfgldiaaGreatDoor
open Go Go.RowKit
set_option linter.unusedVariables false
set_option linter.unusedSimpArgs false
set_option maxRecDepth 20000
set_option maxHeartbeats 1000000

def leftN (L : List Nd) (lf : Int → Bool) : Nat := (L.filter fun n => lf n.id).length
theorem leftN_all {L : List Nd} {lf : Int → Bool} (h : ∀ n ∈ L, lf n.id = true) : leftN L lf = L.length := by
  unfold leftN; rw [List.filter_eq_self.2 h]
theorem leftN_none {L : List Nd} {lf : Int → Bool} (h : ∀ n ∈ L, lf n.id = false) : leftN L lf = 0 := by
  unfold leftN; rw [List.filter_eq_nil_iff.2 (fun n hn => by rw [h n hn]; decide)]; rfl
theorem leftN_strike {lf : Int → Bool} {n : Nd} : ∀ (L : List Nd), (L.map Nd.id).Nodup → n ∈ L → lf n.id = true → leftN L (fun z => lf z && !(z == n.id)) + 1 = leftN L lf
  | [], _, h, _ => by cases h
  | m :: L, hnd, hn, hl => by
    rw [List.map_cons, List.nodup_cons] at hnd
    rcases List.mem_cons.1 hn with rfl | hn'
    · have e : leftN L (fun z => lf z && !(z == n.id)) = leftN L lf := by
        unfold leftN
        congr 1
        apply List.filter_congr
        intro k hk
        have : k.id ≠ n.id := fun e => hnd.1 (by rw [← e]; exact List.mem_map_of_mem hk)
        simp [this]
      unfold leftN at e ⊢
      rw [List.filter_cons_of_neg (by simp), List.filter_cons_of_pos (by simpa using hl), e, List.length_cons]
    · have hne : m.id ≠ n.id := fun e => hnd.1 (by rw [e]; exact List.mem_map_of_mem hn')
      have ih := leftN_strike L hnd.2 hn' hl
      unfold leftN at ih ⊢
      by_cases hm : lf m.id = true
      · rw [List.filter_cons_of_pos (by simp [hm, hne]), List.filter_cons_of_pos (by simpa using hm), List.length_cons, List.length_cons, ih]
      · rw [List.filter_cons_of_neg (by simp [hm]), List.filter_cons_of_neg (by simpa using hm), ih]
theorem own_cells {w : World} {base e size n g : Nat} {v : Value} {xs : List Value} (h : w.ownsRow base e size v n xs) (hg : v.ownBlock = some g) : ∃ cs fr, w.heap[g]? = some (.cells cs e fr) := by
  rcases h.2 with ⟨rfl, _⟩ | ⟨g', cap, cur, rfl, _, hc, _⟩
  · simp [Value.ownBlock] at hg
  · simp [Value.ownBlock] at hg
    subst hg
    exact ⟨_, _, hc⟩
theorem own_keepN {w w' : World} {B e n : Nat} {v : Value} {xs : List Value} (h : w.ownsRow B e 1 v n xs) (hb : Below w.heap.size w w') : w'.ownsRow B e 1 v n xs := by
  rcases h.2 with ⟨rfl, h2⟩ | ⟨g, cap, cur, rfl, h2⟩
  · exact ⟨h.1, .inl ⟨rfl, h2⟩⟩
  · exact own_below h hb (Nat.le_refl _)
/-- A block that holds neither cells nor a map. -/
def Odd (w : World) (k : Nat) : Prop := (∀ cs t fr, w.heap[k]? ≠ some (.cells cs t fr)) ∧ ∀ es c, w.heap[k]? ≠ some (.map es c)
structure CopyAt (w : World) (base t b : Nat) (most : Int) (L : List Nd) (f : Int → Option Nat) (sv kv : Int → Value) (lf : Int → Bool) (m : Nat) : Prop where
  ok : TreeOk L
  low : base ≤ t ∧ base ≤ b
  hd : Whole w t 86 [.int .i64 most, .map (some b)]
  mp : MapP Tryz.prog 3 w b m f
  dom : ∀ id, (f id).isSome = (hasZ L id && !lf id)
  nod : ∀ n ∈ L, lf n.id = false → ∀ g, f n.id = some g → base ≤ g ∧ Whole w g 88 (ndC n (sv n.id) (kv n.id))
  sty : ∀ n ∈ L, lf n.id = false → StyOwn w base (sv n.id) n.sty
  kid : ∀ n ∈ L, lf n.id = false → w.ownsRow base 3 1 (kv n.id) (kidsZ L n.id).length (idC (kidsZ L n.id))
  inj : ∀ i j g, f i = some g → f j = some g → i = j
  apart : ∀ n ∈ L, lf n.id = false → ∀ m ∈ L, lf m.id = false → ∀ g, (kv n.id).ownBlock = some g → (kv m.id).ownBlock = some g → n.id = m.id
  cnt : m + leftN L lf = L.length
section
variable {w w' : World} {base t b m : Nat} {most : Int} {L : List Nd} {f : Int → Option Nat} {sv kv : Int → Value} {lf : Int → Bool}
theorem StyOwn.cells {v : Value} {l : List Dc} {g : Nat} (h : StyOwn w base v l) (hg : v.ownBlock = some g) : ∃ cs t fr, w.heap[g]? = some (.cells cs t fr) := by
  obtain ⟨A, c, rfl, hr, -⟩ := h
  obtain ⟨cs, fr, h⟩ := own_cells hr hg
  exact ⟨cs, _, fr, h⟩
theorem CopyAt.only {S : List Nat} (h : CopyAt w base t b most L f sv kv lf m) (ho : Only S w w') (hS : ∀ k ∈ S, Odd w k) : CopyAt w' base t b most L f sv kv lf m := by
  have nc : ∀ {k : Nat} {cs : Array Value} {t : TypeId} {fr}, w.heap[k]? = some (.cells cs t fr) → k ∉ S := fun e hk => (hS _ hk).1 _ _ _ e
  refine ⟨h.ok, h.low, ho.whole h.hd (nc h.hd), h.mp.only ho ?_, h.dom, fun n hn hl g hg => ⟨(h.nod n hn hl g hg).1, ho.whole (h.nod n hn hl g hg).2 (nc (h.nod n hn hl g hg).2)⟩,
    fun n hn hl => (h.sty n hn hl).only ho fun g hg => ?_, fun n hn hl => ho.owns (h.kid n hn hl) fun g hg => ?_, h.inj, h.apart, h.cnt⟩
  · intro hk
    obtain ⟨D, ⟨es, clock, hb, -⟩, -⟩ := h.mp
    exact (hS _ hk).2 _ _ hb
  · obtain ⟨cs, t, fr, e⟩ := (h.sty n hn hl).cells hg
    exact nc e
  · obtain ⟨cs, fr, e⟩ := own_cells (h.kid n hn hl) hg
    exact nc e
theorem CopyAt.behind (h : CopyAt w base t b most L f sv kv lf m) (hb : Below w.heap.size w w') : CopyAt w' base t b most L f sv kv lf m := h.only (S := []) (Only.of_below hb) (by simp)
theorem CopyAt.start (ok : TreeOk L) (low : base ≤ t ∧ base ≤ b) (hd : Whole w t 86 [.int .i64 most, .map (some b)]) (mp : MapP Tryz.prog 3 w b 0 (fun _ => none)) (hl : ∀ n ∈ L, lf n.id = true) :
    CopyAt w base t b most L (fun _ => none) (fun _ => .slice none 0 0) (fun _ => .slice none 0 0) lf 0 := by
  have no : ∀ n ∈ L, lf n.id = false → False := fun n hn e => by rw [hl n hn] at e; cases e
  refine ⟨ok, low, hd, mp, fun id => ?_, fun n hn e => (no n hn e).elim, fun n hn e => (no n hn e).elim, fun n hn e => (no n hn e).elim, fun i j g e => (by cases e), fun n hn e => (no n hn e).elim, by rw [leftN_all hl, Nat.zero_add]⟩
  cases hh : hasZ L id with
  | false => rfl
  | true =>
    obtain ⟨n, hn, e⟩ := has_iff.1 hh
    have := hl n hn
    rw [e] at this
    rw [this]; rfl
theorem CopyAt.done (h : CopyAt w base t b most L f sv kv lf m) (hl : ∀ z, lf z = false) : TreeAt w base t b most L f sv kv := by
  have hm : m = L.length := by have := h.cnt; rw [leftN_none (fun n _ => hl n.id)] at this; omega
  subst hm
  exact ⟨h.ok, h.low, h.hd, h.mp, fun id => by rw [h.dom, hl]; simp, fun n hn => h.nod n hn (hl _), fun n hn => h.sty n hn (hl _), fun n hn => h.kid n hn (hl _), h.inj, fun n hn m hm => h.apart n hn (hl _) m hm (hl _)⟩
theorem CopyAt.step {w1 w2 : World} {n : Nd} {g : Nat} {S K : Value} (h : CopyAt w base t b most L f sv kv lf m) (hn : n ∈ L) (hl : lf n.id = true) (hb1 : Below w.heap.size w w1) (hg : w.heap.size ≤ g) (hN : Whole w1 g 88 (ndC n S K))
    (hS : StyOwn w1 w.heap.size S n.sty) (hK : w1.ownsRow w.heap.size 3 1 K (kidsZ L n.id).length (idC (kidsZ L n.id))) (hM : MapP Tryz.prog 3 w2 b (m + 1) (fun x => if x = n.id then some g else f x)) (hO : Only [b] w1 w2) (hlow : base ≤ w.heap.size) :
    CopyAt w2 base t b most L (fun x => if x = n.id then some g else f x) (fun x => if x = n.id then S else sv x) (fun x => if x = n.id then K else kv x) (fun z => lf z && !(z == n.id)) (m + 1) := by
  have h1 := h.behind hb1
  have bS : ∀ {k : Nat} {cs : Array Value} {t : TypeId} {fr}, w1.heap[k]? = some (.cells cs t fr) → k ∉ [b] := fun e hk => by
    simp at hk
    subst hk
    obtain ⟨D, ⟨es, clock, hb, -⟩, -⟩ := h1.mp
    rw [hb] at e; cases e
  have bs : b < w.heap.size := h.mp.lt
  have lfn : ∀ {x : Nd}, (lf x.id && !(x.id == n.id)) = false → x.id ≠ n.id → lf x.id = false := fun e hne => by simpa [hne] using e
  have kold : ∀ x ∈ L, lf x.id = false → ∀ g', (kv x.id).ownBlock = some g' → g' < w.heap.size := fun x hx e g' hg' => owns_lt (h.kid x hx e) hg'
  have knew : ∀ g', K.ownBlock = some g' → w.heap.size ≤ g' := fun g' hg' => (hK.lt g' hg').1
  have fold : ∀ {i g'}, f i = some g' → g' < w.heap.size := fun {i g'} e => by
    have hd := h.dom i
    rw [e] at hd
    simp at hd
    obtain ⟨x, hx, rfl⟩ := has_iff.1 hd.1
    exact (h.nod x hx hd.2 g' e).2.size
  refine ⟨h.ok, h.low, hO.whole h1.hd (bS h1.hd), hM, fun id => ?_, fun x hx e g' hg' => ?_, fun x hx e => ?_, fun x hx e => ?_, fun i j g' hi hj => ?_, fun x hx ex y hy ey g' h2 h3 => ?_, ?_⟩
  · by_cases e : id = n.id
    · subst e
      rw [has_iff.2 ⟨n, hn, rfl⟩]; simp
    · have e2 : (id == n.id) = false := by simpa using e
      simp only [if_neg e]
      rw [h.dom, e2]; simp
  · by_cases e1 : x.id = n.id
    · have : x = n := by
        have q1 := h.ok.at_mem hx
        have q2 := h.ok.at_mem hn
        rw [e1, q2] at q1
        exact (Option.some.inj q1).symm
      subst this
      simp only [if_true] at hg' ⊢
      cases hg'
      exact ⟨by omega, hO.whole hN (bS hN)⟩
    · simp only [if_neg e1] at hg' ⊢
      have q := h1.nod x hx (lfn e e1) g' hg'
      exact ⟨q.1, hO.whole q.2 (bS q.2)⟩
  · by_cases e1 : x.id = n.id
    · have : x = n := by
        have q1 := h.ok.at_mem hx
        have q2 := h.ok.at_mem hn
        rw [e1, q2] at q1
        exact (Option.some.inj q1).symm
      subst this
      simp only [if_true]
      exact (hS.mono hlow).only hO fun g' hg' => by obtain ⟨cs, t, fr, q⟩ := hS.cells hg'; exact bS q
    · simp only [if_neg e1]
      exact (h1.sty x hx (lfn e e1)).only hO fun g' hg' => by obtain ⟨cs, t, fr, q⟩ := (h1.sty x hx (lfn e e1)).cells hg'; exact bS q
  · by_cases e1 : x.id = n.id
    · rw [e1]
      simp only [if_true]
      exact hO.owns (own_mono hK hlow) fun g' hg' => by obtain ⟨cs, fr, q⟩ := own_cells hK hg'; exact bS q
    · simp only [if_neg e1]
      exact hO.owns (h1.kid x hx (lfn e e1)) fun g' hg' => by obtain ⟨cs, fr, q⟩ := own_cells (h1.kid x hx (lfn e e1)) hg'; exact bS q
  · by_cases e1 : i = n.id
    · by_cases e2 : j = n.id
      · rw [e1, e2]
      · simp only [if_neg e2] at hj
        simp only [if_pos e1] at hi
        cases hi
        have := fold hj
        omega
    · by_cases e2 : j = n.id
      · simp only [if_neg e1] at hi
        simp only [if_pos e2] at hj
        cases hj
        have := fold hi
        omega
      · simp only [if_neg e1] at hi
        simp only [if_neg e2] at hj
        exact h.inj i j g' hi hj
  · by_cases e1 : x.id = n.id
    · by_cases e2 : y.id = n.id
      · rw [e1, e2]
      · simp only [if_pos e1] at h2
        simp only [if_neg e2] at h3
        have q1 := knew g' h2
        have q2 := kold y hy (lfn ey e2) g' h3
        omega
    · by_cases e2 : y.id = n.id
      · simp only [if_neg e1] at h2
        simp only [if_pos e2] at h3
        have q1 := knew g' h3
        have q2 := kold x hx (lfn ex e1) g' h2
        omega
      · simp only [if_neg e1] at h2
        simp only [if_neg e2] at h3
        exact h.apart x hx (lfn ex e1) y hy (lfn ey e2) g' h2 h3
  · have := leftN_strike L h.ok.nd hn hl
    have := h.cnt
    omega
end
theorem ranges_only {P : Program} {k : TypeId} {R : Value → Option (DataW Unit × List MemPlace)} {w w' : World} {b r n cnt : Nat} {D : DataW Unit} {left : Lit → Bool} {S : List Nat} (h : w.ranges P k R b r n D left cnt) (ho : Only S w w') (hb : b ∉ S) (hr : r ∉ S) : w'.ranges P k R b r n D left cnt := by
  have h1 := h.owns.lt
  have h2 := h.lt
  obtain ⟨es, clock, since, seen, c0, q1, F, hs, hD, q2, rest⟩ := h
  exact ⟨es, clock, since, seen, c0, (ho.block b h1 hb).trans q1, F, hs, hD, (ho.block r h2 hr).trans q2, rest⟩
theorem ranges_odd {P : Program} {k : TypeId} {R : Value → Option (DataW Unit × List MemPlace)} {w : World} {b r n cnt : Nat} {D : DataW Unit} {left : Lit → Bool} (h : w.ranges P k R b r n D left cnt) : Odd w r := by
  obtain ⟨es, clock, since, seen, c0, q1, F, hs, hD, q2, rest⟩ := h
  exact ⟨fun cs t fr e => (by rw [q2] at e; cases e), fun es c e => (by rw [q2] at e; cases e)⟩
theorem ptrN_inj {a b : Option Nat} (h : ptrN a = ptrN b) : a = b := by
  cases a <;> cases b <;> simp [ptrN] at h ⊢ <;> omega
theorem ptrR_form (v : Value) (y : DataW Unit × List MemPlace) (h : ptrR v = some y) : ∃ c, v = ptrV c ∧ y.1 = .lit (.int .i64 (ptrN c)) := by
  unfold ptrR at h
  split at h
  · cases h; exact ⟨none, rfl, rfl⟩
  · cases h; exact ⟨some _, rfl, rfl⟩
  · cases h
theorem sameKey_i64 (a b : Int) : (Lit.int .i64 a).sameKey (.int .i64 b) = (a == b) := by
  by_cases e : a = b <;> simp [Lit.sameKey, e]
end Go.Proofs.YtbhdpfacfgldiaaGreatDoor
