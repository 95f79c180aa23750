import Derived.Test.YtpbfdfpedpfemaaGreatDoorTreeRose
import Derived.Test.YtpbfdfpedpfemaaGreatDoorMapP
import Derived.Test.YtpbfdfpedpfemaaGreatDoorCellMem
/- A tree in memory. -/
namespace Go.Proofs.YtpbfdfpedpfemaaGreatDoor
open Go Go.RowKit
set_option linter.unusedVariables false
set_option linter.unusedSimpArgs false

/-- A node's cells: its list of declarations, its kids. -/
def ndC (n : Nd) (sv kv : Value) : List Value := [.int .i64 n.id, .int .i64 n.par, .bool n.tx, .string n.dat, sv, kv]
/-- Kids, as a slice's cells. -/
abbrev idC (l : List Int) : List Value := l.map (Value.int .i64)
/-- A list of declarations as a slice that reads so. -/
def StyAt (w : World) (sv : Value) (l : List Dc) : Prop := ∃ A c, sv = .slice A l.length c ∧ Row w w.heap.size A (i64s (dCells l)) ∧ l.length ≤ 1000000 ∧ (A = none → c = 0)
/-- .. of its own, in blocks from base on. -/
def StyOwn (w : World) (base : Nat) (sv : Value) (l : List Dc) : Prop := ∃ A c, sv = .slice A l.length c ∧ w.ownsRow base 57 4 (.slice A l.length c) l.length (i64s (dCells l)) ∧ l.length ≤ 1000000
/-- Block t is a tree whose nodes are L: f says where each is, sv and kv are their slices; b is the map. -/
structure TreeAt (w : World) (base t b : Nat) (most : Int) (L : List Nd) (f : Int → Option Nat) (sv kv : Int → Value) : Prop where
  ok : TreeOk L
  low : base ≤ t ∧ base ≤ b
  hd : Whole w t 88 [.int .i64 most, .map (some b)]
  mp : MapP Tryz.prog 3 w b L.length f
  dom : ∀ id, (f id).isSome = hasZ L id
  nod : ∀ n ∈ L, ∀ g, f n.id = some g → base ≤ g ∧ Whole w g 90 (ndC n (sv n.id) (kv n.id))
  sty : ∀ n ∈ L, StyOwn w base (sv n.id) n.sty
  kid : ∀ n ∈ L, w.ownsRow base 3 1 (kv n.id) (kidsZ L n.id).length (idC (kidsZ L n.id))
  inj : ∀ i j g, f i = some g → f j = some g → i = j
  apart : ∀ n ∈ L, ∀ m ∈ L, ∀ g, (kv n.id).ownBlock = some g → (kv m.id).ownBlock = some g → n.id = m.id
/-- .. somehow. -/
def Tree (w : World) (base t : Nat) (most : Int) (L : List Nd) : Prop := ∃ b f sv kv, TreeAt w base t b most L f sv kv
section
variable {w w' : World} {base t b : Nat} {most : Int} {L : List Nd} {f : Int → Option Nat} {sv kv : Int → Value}
theorem own_nil {w : World} {base e size n c : Nat} {xs : List Value} (h : w.ownsRow base e size (.slice none n c) n xs) : c = 0 := by
  rcases h.2 with ⟨e, -⟩ | ⟨g, cap, cur, e, -⟩
  · simp at e; exact e.2
  · simp at e
theorem StyOwn.at_ {sv : Value} {l : List Dc} (h : StyOwn w base sv l) : StyAt w sv l := by
  obtain ⟨A, c, e, ho, hl⟩ := h
  exact ⟨A, c, e, row_of_own ho, hl, fun e => by subst e; exact own_nil ho⟩
theorem StyOwn.only {S : List Nat} {sv : Value} {l : List Dc} (h : StyOwn w base sv l) (ho : Only S w w') (hn : ∀ g, sv.ownBlock = some g → g ∉ S) : StyOwn w' base sv l := by
  obtain ⟨A, c, rfl, hr, hl⟩ := h
  exact ⟨A, c, rfl, ho.owns hr hn, hl⟩
theorem StyOwn.mono {base' : Nat} {sv : Value} {l : List Dc} (h : StyOwn w base sv l) (hb : base' ≤ base) : StyOwn w base' sv l := by
  obtain ⟨A, c, e, hr, hl⟩ := h
  refine ⟨A, c, e, ⟨hr.1, ?_⟩, hl⟩
  rcases hr.2 with h0 | ⟨g, cap, cur, hv, h1, h2, h3⟩
  · exact .inl h0
  · exact .inr ⟨g, cap, cur, hv, by omega, h2, h3⟩
/-- A block of another type is not its own. -/
theorem StyOwn.other {g : Nat} {t : TypeId} {cs : List Value} {sv : Value} {l : List Dc} (h : StyOwn w base sv l) (hw : Whole w g t cs) (ht : t ≠ 57) : sv.ownBlock ≠ some g := by
  obtain ⟨A, c, rfl, hr, hl⟩ := h
  exact whole_ne hw hr ht
theorem StyAt.below {sv : Value} {l : List Dc} (h : StyAt w sv l) (hb : Below w.heap.size w w') : StyAt w' sv l := by
  obtain ⟨A, c, e, hr, hl⟩ := h
  exact ⟨A, c, e, (hr.below hb).more hb.size, hl⟩
theorem TreeAt.there (h : TreeAt w base t b most L f sv kv) {n : Nd} (hn : n ∈ L) : ∃ g, f n.id = some g := by
  have := h.dom n.id
  rw [has_iff.2 ⟨n, hn, rfl⟩] at this
  exact Option.isSome_iff_exists.1 this
theorem TreeAt.gone (h : TreeAt w base t b most L f sv kv) {id : Int} (hn : hasZ L id = false) : f id = none := by
  have := h.dom id
  rw [hn] at this
  simpa using this
/-- Calls that make blocks only leave a tree as it is. -/
theorem TreeAt.behind (h : TreeAt w base t b most L f sv kv) (hb : Below w.heap.size w w') : TreeAt w' base t b most L f sv kv := by
  have ho : Only [] w w' := Only.of_below hb
  exact ⟨h.ok, h.low, h.hd.under hb h.hd.size, h.mp.only ho (by simp), h.dom, fun n hn g hg => ⟨(h.nod n hn g hg).1, (h.nod n hn g hg).2.under hb (h.nod n hn g hg).2.size⟩,
    fun n hn => (h.sty n hn).only ho (by simp), fun n hn => ho.owns (h.kid n hn) (by simp), h.inj, h.apart⟩
theorem Tree.behind (h : Tree w base t most L) (hb : Below w.heap.size w w') : Tree w' base t most L := by
  obtain ⟨b, f, sv, kv, h⟩ := h
  exact ⟨b, f, sv, kv, h.behind hb⟩
end
end Go.Proofs.YtpbfdfpedpfemaaGreatDoor
