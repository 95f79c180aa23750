import Derived.Test.YteaenomfighaoaaFrameI
import Derived.Test.YteaenomfighaoaaRecRow
/- Slices of structs whose cells are integers and bools, opened. -/
namespace Go.Proofs.Yteaenomfighaoaa
open Go.Joins Go.ChangeShapes Go.WideShapes Go.RowKit Go.ChangeAt Go.Deep
set_option linter.unusedVariables false
set_option linter.unusedSimpArgs false

/-- Of what kind a type's cell is: an integer of kind i64 (true), a bool (false), or another one. -/
def cellK (P : Program) : Nat → TypeId → Nat → Option Bool
  | 0, _, _ => none
  | d + 1, t, i => match P.underlying t with
    | some (.int .i64) => some true
    | some .bool => some false
    | some (.struct fs) => match fs.toList.find? (fun f => decide (f.offset ≤ i) && decide (i < f.offset + P.cellsOf f.type)) with
      | some f => cellK P d f.type (i - f.offset)
      | none => none
    | _ => none
def IsKind (k : Bool) (v : Value) : Prop := if k then IsInt v else ∃ b : Bool, v = .bool b
section
variable {H : Type} {enc : TypeId × Value → H} {P : Program} {w : World} {base : Nat} {spare : Nat → Bool} {held : Bool}
theorem trod_mix : ∀ (d : Nat) (t : TypeId) (fuel : Nat) (cs : List Value) (x : DataW H × List MemPlace) (i : Nat) (k : Bool), cellK P d t i = some k → DataW.trod enc P w base spare held fuel t cs = some x → ∀ (hi : i < cs.length), IsKind k cs[i] := by
  intro d
  induction d with
  | zero => intro t fuel cs x i k h; simp [cellK] at h
  | succ d ih =>
    intro t fuel cs x i k h hx hi
    unfold cellK at h
    split at h
    · rename_i hu
      obtain ⟨n, rfl, _, hw⟩ := DataW.trod_int hu hx
      have : i = 0 := by simp at hi; exact hi
      subst this
      injection h with h
      subst h
      exact ⟨n, rfl, hw⟩
    · rename_i hu
      obtain ⟨b, rfl, _⟩ := DataW.trod_bool hu hx
      have : i = 0 := by simp at hi; exact hi
      subst this
      injection h with h
      subst h
      exact ⟨b, rfl⟩
    · rename_i fs hu
      split at h
      · rename_i f hf
        have hm := List.mem_of_find?_eq_some hf
        have hp := List.find?_some hf
        simp only [Bool.and_eq_true, decide_eq_true_eq] at hp
        obtain ⟨h3, h4⟩ := hp
        obtain ⟨xs, n, _, _, hl, hlen, hff⟩ := DataW.trod_struct hu hx
        obtain ⟨j, hj, e⟩ := List.getElem_of_mem hm
        have hj' : j < fs.size := by simpa using hj
        have h5 := hff j f (by rw [Array.getElem?_eq_getElem hj']; simpa using e)
        rw [show xs[j]? = some (xs[j]'(by omega)) from List.getElem?_eq_getElem (by omega)] at h5
        have hlt : i - f.offset < ((cs.drop f.offset).take (P.cellsOf f.type)).length := by
          rw [List.length_take, List.length_drop]; omega
        have h6 := ih _ _ _ _ (i - f.offset) k h h5 hlt
        rw [List.getElem_take, List.getElem_drop] at h6
        have : f.offset + (i - f.offset) = i := by omega
        simpa [this] using h6
      · cases h
    · cases h
/-- A slice of structs, each of which a record's cells tell. -/
theorem open_mix_row {α : Type} [Inhabited α] {f : α → List Value} {C d : Nat} (ks : List Bool) (hf : ∀ x, (f x).length = C) {t e : TypeId} {fuel n c : Nat} {A : Option Addr} {x : DataW H × List MemPlace} (ht : P.underlying t = some (.slice e)) (hC : P.cellsOf e = C) (hC0 : 0 < C)
    (hk : (List.range C).map (cellK P d e) = ks.map some) (hun : ∀ cs : List Value, cs.length = C → (∀ (i : Nat) (h : i < cs.length) (h' : i < ks.length), IsKind ks[i] cs[i]) → ∃ x : α, cs = f x)
    (h : DataW.trod enc P w base spare held fuel t (Value.slice A n c).cells.toList = some x) :
    ∃ l : List α, n = l.length ∧ Row w w.heap.size A (l.flatMap f) ∧ n ≤ c ∧ c ≤ maxLen ∧ (A = none → c = 0) := by
  rcases open_slice ht h with ⟨hcs, _⟩ | ⟨a, len, cap, m, nn, D, Pl, hcs, _, hl, hm, hmm, _, hi⟩
  · simp [Value.cells] at hcs
    obtain ⟨rfl, rfl, rfl⟩ := hcs
    exact ⟨[], rfl, Row.nil _ _ _, by simp, by simp [maxLen], fun _ => rfl⟩
  · simp [Value.cells] at hcs
    obtain ⟨rfl, rfl, rfl⟩ := hcs
    have hlen : n ≤ m := by rw [hmm]; split <;> omega
    have hkl : ks.length = C := by
      have := congrArg List.length hk
      rw [List.length_map, List.length_map, List.length_range] at this
      exact this.symm
    have each : ∀ k, k < n → ∃ r : α, ∀ j (hj : j < C), w.cell? (a.add (k * C + j)) = (f r)[j]? := fun k hk' => by
      obtain ⟨cs', hc, htr⟩ := hi k (by omega)
      rw [hC] at hc
      obtain ⟨_, hcl, hat⟩ := World.cells?_some hc
      obtain ⟨r, rfl⟩ := hun cs' hcl fun i h1 h2 => by
        have e1 : cellK P d e i = some ks[i] := by
          have := congrArg (fun l : List (Option Bool) => l[i]?) hk
          simpa [h2, show i < C by omega] using this
        exact trod_mix d _ _ _ _ i _ e1 htr h1
      refine ⟨r, fun j hj => ?_⟩
      have := hat j hj
      rw [add_of_add] at this
      exact this
    let g : Nat → α := fun k => if hk : k < n then Classical.choose (each k hk) else default
    have hg : ∀ k, k < n → ∀ j (hj : j < C), w.cell? (a.add (k * C + j)) = (f (g k))[j]? := fun k hk => by
      have := Classical.choose_spec (each k hk)
      simp only [g, hk, dif_pos]
      exact this
    refine ⟨(List.range n).map g, by simp, row_of_cells fun j hj => ?_, hl, hm, fun h => by cases h⟩
    have hj' : j < n * C := by rw [rec_len hf] at hj; simpa using hj
    have hq : j / C < n := Nat.div_lt_of_lt_mul (by rw [Nat.mul_comm]; exact hj')
    have hr := Nat.mod_lt j hC0
    have e1 : j / C * C + j % C = j := Nat.div_add_mod' j C
    have e2 := hg (j / C) hq (j % C) hr
    rw [e1] at e2
    have e3 := rec_get hf ((List.range n).map g) (j / C) (by simpa using hq) (j % C) hr
    rw [e1] at e3
    simp only [List.getElem_map, List.getElem_range] at e3
    rw [e2, ← e3]
    exact List.getElem?_eq_getElem hj
end
end Go.Proofs.Yteaenomfighaoaa
