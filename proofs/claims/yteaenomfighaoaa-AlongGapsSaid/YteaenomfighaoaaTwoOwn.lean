import Derived.Test.YteaenomfighaoaaPush
/- Two rows of the call's own, side by side. No program is named here. -/
namespace Go.Proofs.Yteaenomfighaoaa
open Go Go.RowKit
set_option linter.unusedVariables false
set_option linter.unusedSimpArgs false

structure TwoOwn (W w : World) (e s : TypeId × Nat) (v1 : Value) (n1 : Nat) (x1 : List Value) (v2 : Value) (n2 : Nat) (x2 : List Value) : Prop where
  one : w.ownsRow W.heap.size e.1 e.2 v1 n1 x1
  two : w.ownsRow W.heap.size s.1 s.2 v2 n2 x2
  far : ∀ g, v1.ownBlock = some g → v2.ownBlock ≠ some g
  low : Below W.heap.size W w
section
variable {W w w' : World} {e s : TypeId × Nat} {v1 v2 v' : Value} {n1 n2 : Nat} {x1 x2 xs : List Value}
theorem own_pushB {B : Nat} {v : Value} {e size n : Nat} {xs : List Value} (ho : w.ownsRow B e size v n xs) (hB : Below B W w) (hw : B ≤ w.heap.size) (h : Only v.ownBlock.toList w w') : Below B W w' :=
  hB.trans (h.below (fun x hx => (ho.lt x (by simpa using hx)).1) hw)
theorem TwoOwn.behind (h : TwoOwn W w e s v1 n1 x1 v2 n2 x2) (hb : Below w.heap.size w w') : TwoOwn W w' e s v1 n1 x1 v2 n2 x2 :=
  ⟨(Only.of_below (S := []) hb).owns h.one (by simp), (Only.of_below (S := []) hb).owns h.two (by simp), h.far, h.low.trans (hb.mono h.low.size)⟩
theorem TwoOwn.push1 (h : TwoOwn W w e s v1 n1 x1 v2 n2 x2) (ho : w'.ownsRow W.heap.size e.1 e.2 v' (n1 + 1) (x1 ++ xs)) (hn : Only v1.ownBlock.toList w w')
    (hk : ∀ g, v'.ownBlock = some g → v1.ownBlock = some g ∨ w.heap.size ≤ g) : TwoOwn W w' e s v' (n1 + 1) (x1 ++ xs) v2 n2 x2 :=
  ⟨ho, hn.owns h.two (fun g hg e => h.far g (by simpa using e) hg), fun g hg e => by
    rcases hk g hg with h1 | h1
    · exact h.far g h1 e
    · have := owns_lt h.two e; omega, own_pushB h.one h.low h.low.size hn⟩
theorem TwoOwn.push2 (h : TwoOwn W w e s v1 n1 x1 v2 n2 x2) (ho : w'.ownsRow W.heap.size s.1 s.2 v' (n2 + 1) (x2 ++ xs)) (hn : Only v2.ownBlock.toList w w')
    (hk : ∀ g, v'.ownBlock = some g → v2.ownBlock = some g ∨ w.heap.size ≤ g) : TwoOwn W w' e s v1 n1 x1 v' (n2 + 1) (x2 ++ xs) :=
  ⟨hn.owns h.one (fun g hg e => h.far g hg (by simpa using e)), ho, fun g hg e => by
    rcases hk g e with h1 | h1
    · exact h.far g hg h1
    · have := owns_lt h.one hg; omega, own_pushB h.two h.low h.low.size hn⟩
/-- A block of its own that is neither's. -/
theorem TwoOwn.off (h : TwoOwn W w e s v1 n1 x1 v2 n2 x2) {g : Nat} (hg : w.heap.size ≤ g) : v1.ownBlock ≠ some g ∧ v2.ownBlock ≠ some g :=
  ⟨fun e => by have := owns_lt h.one e; omega, fun e => by have := owns_lt h.two e; omega⟩
theorem TwoOwn.only {S : List Nat} (h : TwoOwn W w e s v1 n1 x1 v2 n2 x2) (ho : Only S w w') (hS : ∀ g ∈ S, v1.ownBlock ≠ some g ∧ v2.ownBlock ≠ some g ∧ W.heap.size ≤ g) : TwoOwn W w' e s v1 n1 x1 v2 n2 x2 :=
  ⟨ho.owns h.one fun g hg he => (hS g he).1 hg, ho.owns h.two fun g hg he => (hS g he).2.1 hg, h.far, h.low.trans (ho.below (fun g hg => (hS g hg).2.2) h.low.size)⟩
theorem TwoOwn.swap (h : TwoOwn W w e s v1 n1 x1 v2 n2 x2) : TwoOwn W w s e v2 n2 x2 v1 n1 x1 := ⟨h.two, h.one, fun g h2 h1 => h.far g h1 h2, h.low⟩
end
end Go.Proofs.Yteaenomfighaoaa
