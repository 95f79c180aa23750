import Derived.Test.YthneapnijfmpmaaFrame
import Derived.Deep.Slices
import Derived.Lib.SmallJoins
/- Arguments whose cells are all integers (structs of structs and arrays of such), and slices of such, opened. -/
namespace Go.Proofs.Ythneapnijfmpmaa
open Go.Joins Go.ChangeShapes Go.WideShapes Go.RowKit Go.ChangeAt Go.Deep
set_option linter.unusedVariables false
set_option linter.unusedSimpArgs false

/-- All cells of a type are integers of kind i64. -/
def flatT (P : Program) : Nat → TypeId → Bool
  | 0, _ => false
  | d + 1, t => match P.underlying t with
    | some (.int .i64) => true
    | some (.struct fs) => (fs.all fun f => flatT P d f.type) && (List.range (P.cellsOf t)).all fun i => fs.any fun f => decide (f.offset ≤ i) && decide (i < f.offset + P.cellsOf f.type)
    | some (.array n e) => flatT P d e && decide (0 < P.cellsOf e) && decide (P.cellsOf t = n * P.cellsOf e)
    | _ => false
def IsInt (v : Value) : Prop := ∃ z : Int, v = .int .i64 z ∧ (Lit.int .i64 z).wf = true
section
variable {H : Type} {enc : TypeId × Value → H} {P : Program} {w : World} {base : Nat} {spare : Nat → Bool} {held : Bool}
theorem trod_flat : ∀ (d : Nat) (t : TypeId) (fuel : Nat) (cs : List Value) (x : DataW H × List MemPlace), flatT P d t = true → DataW.trod enc P w base spare held fuel t cs = some x → ∀ i (hi : i < cs.length), IsInt cs[i] := by
  intro d
  induction d with
  | zero => intro t fuel cs x h; simp [flatT] at h
  | succ d ih =>
    intro t fuel cs x h hx i hi
    unfold flatT at h
    split at h
    · rename_i hu
      obtain ⟨n, rfl, _, hw⟩ := DataW.trod_int hu hx
      have : i = 0 := by simp at hi; exact hi
      subst this
      exact ⟨n, rfl, hw⟩
    · rename_i fs hu
      simp only [Bool.and_eq_true, Array.all_eq_true_iff_forall_mem, List.all_eq_true, List.mem_range, Array.any_eq_true, decide_eq_true_eq] at h
      obtain ⟨h1, h2⟩ := h
      obtain ⟨xs, n, _, _, hl, hlen, hf⟩ := DataW.trod_struct hu hx
      obtain ⟨j, hj, h3, h4⟩ := h2 i (by omega)
      have h5 := hf j fs[j] (by simp [hj])
      rw [show xs[j]? = some (xs[j]'(by omega)) from List.getElem?_eq_getElem (by omega)] at h5
      have hlt : i - fs[j].offset < ((cs.drop fs[j].offset).take (P.cellsOf fs[j].type)).length := by
        rw [List.length_take, List.length_drop]; omega
      have h6 := ih _ _ _ _ (h1 _ (Array.getElem_mem hj)) h5 (i - fs[j].offset) hlt
      rw [List.getElem_take, List.getElem_drop] at h6
      have : fs[j].offset + (i - fs[j].offset) = i := by omega
      simpa [this] using h6
    · rename_i n e hu
      simp only [Bool.and_eq_true, decide_eq_true_eq] at h
      obtain ⟨⟨h1, h2⟩, h3⟩ := h
      obtain ⟨xs, m, _, _, hl, hlen, hf⟩ := DataW.trod_array hu hx
      have hin : i < n * P.cellsOf e := by omega
      have hq : i / P.cellsOf e < n := Nat.div_lt_of_lt_mul (by rw [Nat.mul_comm]; exact hin)
      have h5 := hf _ hq
      rw [show xs[i / P.cellsOf e]? = some (xs[i / P.cellsOf e]'(by omega)) from List.getElem?_eq_getElem (by omega)] at h5
      have hdm : i / P.cellsOf e * P.cellsOf e + i % P.cellsOf e = i := Nat.div_add_mod' i _
      have hm := Nat.mod_lt i h2
      have hle : i / P.cellsOf e * P.cellsOf e + P.cellsOf e ≤ n * P.cellsOf e := by
        have := Nat.mul_le_mul_right (P.cellsOf e) hq
        rw [Nat.succ_mul] at this
        exact this
      have hlt : i % P.cellsOf e < ((cs.drop (i / P.cellsOf e * P.cellsOf e)).take (P.cellsOf e)).length := by
        rw [List.length_take, List.length_drop]; omega
      have h6 := ih _ _ _ _ h1 h5 (i % P.cellsOf e) hlt
      rw [List.getElem_take, List.getElem_drop] at h6
      simpa [hdm] using h6
    · cases h
theorem ints_of (cs : List Value) (h : ∀ i (hi : i < cs.length), IsInt cs[i]) : ∃ zs : List Int, cs = i64s zs ∧ ∀ z ∈ zs, (Lit.int .i64 z).wf = true := by
  induction cs with
  | nil => exact ⟨[], rfl, by simp⟩
  | cons c r ih =>
    obtain ⟨z, e, hz⟩ := h 0 (by simp)
    obtain ⟨zs, e', hzs⟩ := ih fun i hi => by
      have := h (i + 1) (by simpa using hi)
      rw [List.getElem_cons_succ] at this
      exact this
    simp only [List.getElem_cons_zero] at e
    subst e e'
    refine ⟨z :: zs, rfl, fun x hx => ?_⟩
    rcases List.mem_cons.1 hx with rfl | hx
    · exact hz
    · exact hzs x hx
/-- A struct whose cells are all integers. -/
theorem open_flat {r : Reach} {b0 : Nat} {t : TypeId} {fs : Array Field} {v : Value} {x : DataW H} {p : List MemPlace} {C d : Nat} (hs : P.underlying t = some (.struct fs)) (hC : P.cellsOf t = C) (hf : flatT P d t = true)
    (hv : Value.okWide P w r b0 t v) (h : DataW.Trod enc P w base spare held t v x p) : ∃ zs : List Int, v = .agg (i64s zs).toArray ∧ zs.length = C ∧ ∀ z ∈ zs, (Lit.int .i64 z).wf = true := by
  obtain ⟨cs, rfl, hsz⟩ := okWide_struct hs hv
  obtain ⟨fuel, hf'⟩ := h
  have h1 := trod_flat d t fuel _ _ hf hf'
  obtain ⟨zs, e, hz⟩ := ints_of cs.toList (by simpa [Value.cells] using h1)
  have hl := congrArg List.length e
  rw [i64s_length] at hl
  refine ⟨zs, by rw [← e], by rw [← hl]; simp [hsz, hC], hz⟩
/-- A slice of such. -/
theorem open_flat_row {t e : TypeId} {fuel n c C d : Nat} {A : Option Addr} {x : DataW H × List MemPlace} (ht : P.underlying t = some (.slice e)) (hC : P.cellsOf e = C) (hC0 : 0 < C) (hf : flatT P d e = true)
    (h : DataW.trod enc P w base spare held fuel t (Value.slice A n c).cells.toList = some x) :
    ∃ zs : List Int, zs.length = n * C ∧ Row w w.heap.size A (i64s zs) ∧ (∀ z ∈ zs, (Lit.int .i64 z).wf = true) ∧ n ≤ c ∧ c ≤ maxLen ∧ (A = none → c = 0) := by
  rcases open_slice ht h with ⟨hcs, _⟩ | ⟨a, len, cap, m, nn, D, Pl, hcs, _, hl, hm, hmm, _, hi⟩
  · simp [Value.cells] at hcs
    obtain ⟨rfl, rfl, rfl⟩ := hcs
    exact ⟨[], by simp, Row.nil _ _ _, by simp, by simp, by simp [maxLen], fun _ => rfl⟩
  · simp [Value.cells] at hcs
    obtain ⟨rfl, rfl, rfl⟩ := hcs
    have hlen : n ≤ m := by rw [hmm]; split <;> omega
    have each : ∀ j, j < n * C → ∃ z : Int, w.cell? (a.add j) = some (.int .i64 z) ∧ (Lit.int .i64 z).wf = true := fun j hj => by
      have hq : j / C < n := Nat.div_lt_of_lt_mul (by rw [Nat.mul_comm]; exact hj)
      have hr := Nat.mod_lt j hC0
      obtain ⟨cs', hc, htr⟩ := hi (j / C) (by omega)
      rw [hC] at hc
      obtain ⟨_, hcl, hat⟩ := World.cells?_some hc
      obtain ⟨z, e1, hz⟩ := trod_flat d _ _ _ _ hf htr (j % C) (by omega)
      have h1 := hat (j % C) hr
      rw [add_of_add, Nat.div_add_mod' j C, List.getElem?_eq_getElem (by omega), e1] at h1
      exact ⟨z, h1, hz⟩
    have hch : ∃ f : Nat → Int, ∀ j, j < n * C → w.cell? (a.add j) = some (.int .i64 (f j)) ∧ (Lit.int .i64 (f j)).wf = true := by
      refine ⟨fun j => if hj : j < n * C then Classical.choose (each j hj) else 0, fun j hj => ?_⟩
      simp only [hj, dif_pos]
      exact Classical.choose_spec (each j hj)
    obtain ⟨f, hf'⟩ := hch
    refine ⟨(List.range (n * C)).map f, by simp, row_of_cells fun j hj => ?_, fun z hz => ?_, hl, hm, fun h => by cases h⟩
    · have hj' : j < n * C := by simpa [i64s] using hj
      rw [(hf' j hj').1]
      simp [i64s]
    · obtain ⟨j, hj, rfl⟩ := List.mem_map.1 hz
      exact (hf' j (by simpa using hj)).2
end
end Go.Proofs.Ythneapnijfmpmaa
