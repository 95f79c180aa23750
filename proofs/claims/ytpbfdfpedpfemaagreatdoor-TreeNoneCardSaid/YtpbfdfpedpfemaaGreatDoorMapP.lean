import Derived.Test.YtpbfdfpedpfemaaGreatDoorOnly
import Derived.Maps.OwnSet
/- A map of integers to pointers: who is there, at which block. No program is named here. -/
namespace Go.Proofs.YtpbfdfpedpfemaaGreatDoor
open Go Go.RowKit
set_option linter.unusedVariables false
set_option linter.unusedSimpArgs false

def ptrV (g : Option Nat) : Value := .pointer (g.map fun b => ⟨b, 0, none⟩)
def ptrN (g : Option Nat) : Int := match g with | some b => b | none => -1
def ptrR (v : Value) : Option (DataW Unit × List MemPlace) := match v with
  | .pointer none => some (.lit (.int .i64 (-1)), [])
  | .pointer (some ⟨g, 0, none⟩) => some (.lit (.int .i64 g), [])
  | _ => none
theorem ptrR_mk (g : Option Nat) : ptrR (ptrV g) = some (.lit (.int .i64 (ptrN g)), []) := by cases g <;> rfl
theorem ptrR_inv {v : Value} {g : Option Nat} {ps : List MemPlace} (h : ptrR v = some (.lit (.int .i64 (ptrN g)), ps)) : v = ptrV g := by
  unfold ptrR at h
  split at h
  · cases g with
    | none => rfl
    | some b => simp [ptrN] at h
  · rename_i b
    cases g with
    | none => simp [ptrN] at h
    | some c =>
      have : (b : Int) = c := by simp [ptrN] at h; exact h.1
      have : b = c := by omega
      subst this; rfl
  · cases h
def In64i (n : Int) : Prop := -9223372036854775808 ≤ n ∧ n ≤ 9223372036854775807
theorem in64_wf {n : Int} (h : In64i n) : (Lit.int .i64 n).wf = true := WalkArith.wf_i64 h
/-- Block b is a map of n entries, of which f tells at which block each is. -/
def MapP (P : Program) (k : TypeId) (w : World) (b n : Nat) (f : Int → Option Nat) : Prop :=
  ∃ D : DataW Unit, w.ownsMap P k ptrR b n D ∧ Maps.size D = n ∧ ∀ id, In64i id → D.atKey (.int .i64 id) (.lit (.int .i64 (-1))) = .lit (.int .i64 (ptrN (f id))) ∧ Maps.has D (.int .i64 id) = (f id).isSome
section
variable {P : Program} {k t e : TypeId} {w w' : World} {b n : Nat} {f : Int → Option Nat}
theorem MapP.made (P : Program) (k : TypeId) (w : World) : MapP P k (w.alloc (.map #[] 0)) w.heap.size 0 (fun _ => none) :=
  ⟨_, World.ownsMap_made w P k ptrR, rfl, fun _ _ => ⟨rfl, rfl⟩⟩
theorem MapP.lt (h : MapP P k w b n f) : b < w.heap.size := by obtain ⟨D, h, -⟩ := h; exact h.lt
theorem MapP.only {S : List Nat} (h : MapP P k w b n f) (ho : Only S w w') (hn : b ∉ S) : MapP P k w' b n f := by
  have hl := h.lt
  obtain ⟨D, ⟨es, clock, hb, hF, hs, hD⟩, h2, h3⟩ := h
  exact ⟨D, ⟨es, clock, (ho.block b hl hn).trans hb, hF, hs, hD⟩, h2, h3⟩
theorem MapP.look (h : MapP P k w b n f) (hk : P.underlying k = some (.int .i64)) (ht : P.underlying t = some (.map k e)) (hz : (zeroValue e).run P w = .ok (.pointer none) w) {id : Int} (hi : In64i id) :
    (Instr.lookup t (.map (some b)) (.int .i64 id) false).run P w = .ok (ptrV (f id)) w := by
  obtain ⟨D, h1, h2, h3⟩ := h
  obtain ⟨v, ps, hrun, hR⟩ := h1.lookup (Maps.int_keyed hk) ht hz (ptrR_mk none) (Maps.keyOf_int_mk hk (in64_wf hi))
  rw [show (DataW.lit (.int .i64 (ptrN none)) : DataW Unit) = .lit (.int .i64 (-1)) from rfl, (h3 id hi).1] at hR
  rw [ptrR_inv hR] at hrun
  exact hrun
theorem MapP.len (h : MapP P k w b n f) (ht : P.underlying t = some (.map k e)) (ty : TypeId) : (Builtin.len_ #[t] ty #[.map (some b)]).run P w = .ok (.int .i64 n) w := by
  obtain ⟨D, h1, h2, h3⟩ := h
  have := h1.len ht ty
  rwa [h2] at this
theorem MapP.store (h : MapP P k w b n f) (hk : P.underlying k = some (.int .i64)) (ht : P.underlying t = some (.map k e)) (hn : n < maxLen) {id : Int} (hi : In64i id) (g : Nat) (hf : f id = none) :
    ∃ w', (Instr.mapUpdate t (.map (some b)) (.int .i64 id) (.pointer (some ⟨g, 0, none⟩))).run P w = .ok () w' ∧ MapP P k w' b (n + 1) (fun x => if x = id then some g else f x) ∧ Only [b] w w' := by
  obtain ⟨D, h1, h2, h3⟩ := h
  have hK := Maps.int_keyed (P := P) (k := k) hk
  have hkey := Maps.keyOf_int_mk (P := P) (k := k) hk (in64_wf hi)
  obtain ⟨w', hrun, ho, hg⟩ := h1.update hK ht hn hkey (ptrR_mk (some g))
  refine ⟨w', hrun, ⟨_, ho, ?_, fun x hx => ?_⟩, by have := Only.of_grown hg; simpa using this⟩
  · rw [Maps.size_put (h1.tidy hK), (h3 id hi).2, hf, h2]; rfl
  · by_cases he : x = id
    · subst he
      simp only [if_true]
      exact ⟨Maps.atKey_put_same h1.isMap (hK.key hkey) _ _, Maps.has_put_same h1.isMap (hK.key hkey) _⟩
    · simp only [if_neg he]
      have hne : (Lit.int .i64 x) ≠ .int .i64 id := fun e => he (by injection e)
      rw [Maps.atKey_put_other hne, Maps.has_put_other hne]
      exact h3 x hx
end
end Go.Proofs.YtpbfdfpedpfemaaGreatDoor
