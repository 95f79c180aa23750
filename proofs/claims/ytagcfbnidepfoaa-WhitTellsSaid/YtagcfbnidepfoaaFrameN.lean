import Derived.Test.YtagcfbnidepfoaaFrameI
import Derived.Test.YtagcfbnidepfoaaGlyphMem
/- Slices of texts (api.Run: two integers, a text between them, an integer), opened. -/
namespace Go.Proofs.Ytagcfbnidepfoaa
open Go.Joins Go.ChangeShapes Go.WideShapes Go.RowKit Go.ChangeAt Go.Deep
set_option linter.unusedVariables false
set_option linter.unusedSimpArgs false

section
variable {H : Type} {enc : TypeId × Value → H} {P : Program} {w : World} {base : Nat} {spare : Nat → Bool} {held : Bool}
theorem list_four {α : Type} {l : List α} (h : l.length = 4) : ∃ a b c d, l = [a, b, c, d] := by
  match l, h with
  | [a, b, c, d], _ => exact ⟨a, b, c, d, rfl⟩
theorem trod_rn {e : TypeId} {f0 f1 f2 f3 : Field} {fuel : Nat} {cs : List Value} {x : DataW H × List MemPlace} (hs : P.underlying e = some (.struct #[f0, f1, f2, f3])) (hC : P.cellsOf e = 4)
    (h0 : f0.offset = 0 ∧ P.cellsOf f0.type = 1 ∧ P.underlying f0.type = some (.int .i64)) (h1 : f1.offset = 1 ∧ P.cellsOf f1.type = 1 ∧ P.underlying f1.type = some .string)
    (h2 : f2.offset = 2 ∧ P.cellsOf f2.type = 1 ∧ P.underlying f2.type = some (.int .i64)) (h3 : f3.offset = 3 ∧ P.cellsOf f3.type = 1 ∧ P.underlying f3.type = some (.int .i64))
    (h : DataW.trod enc P w base spare held fuel e cs = some x) : ∃ r : Rn, cs = [.int .i64 r.node, .string r.text, .int .i64 r.white, .int .i64 r.line] ∧ r.text.size ≤ maxLen := by
  obtain ⟨xs, n, _, _, hl, hlen, hf⟩ := DataW.trod_struct hs h
  rw [hC] at hl
  obtain ⟨a, b, c, d, rfl⟩ := list_four hl
  obtain ⟨y0, y1, y2, y3, rfl⟩ := list_four (l := xs) (by simpa using hlen)
  have e0 := hf 0 f0 rfl
  have e1 := hf 1 f1 rfl
  have e2 := hf 2 f2 rfl
  have e3 := hf 3 f3 rfl
  simp only [h0.1, h0.2.1, h1.1, h1.2.1, h2.1, h2.2.1, h3.1, h3.2.1, List.drop_succ_cons, List.drop_zero, List.take_succ_cons, List.take_zero] at e0 e1 e2 e3
  obtain ⟨n0, q0, _, _⟩ := DataW.trod_int h0.2.2 e0
  obtain ⟨s1, q1, _, hz⟩ := DataW.trod_string h1.2.2 e1
  obtain ⟨n2, q2, _, _⟩ := DataW.trod_int h2.2.2 e2
  obtain ⟨n3, q3, _, _⟩ := DataW.trod_int h3.2.2 e3
  injection q0 with q0 _
  injection q1 with q1 _
  injection q2 with q2 _
  injection q3 with q3 _
  subst q0 q1 q2 q3
  exact ⟨⟨n0, s1, n2, n3⟩, rfl, hz⟩
theorem open_runs {t e : TypeId} {f0 f1 f2 f3 : Field} {fuel n c : Nat} {A : Option Addr} {x : DataW H × List MemPlace} (ht : P.underlying t = some (.slice e)) (hs : P.underlying e = some (.struct #[f0, f1, f2, f3])) (hC : P.cellsOf e = 4)
    (h0 : f0.offset = 0 ∧ P.cellsOf f0.type = 1 ∧ P.underlying f0.type = some (.int .i64)) (h1 : f1.offset = 1 ∧ P.cellsOf f1.type = 1 ∧ P.underlying f1.type = some .string)
    (h2 : f2.offset = 2 ∧ P.cellsOf f2.type = 1 ∧ P.underlying f2.type = some (.int .i64)) (h3 : f3.offset = 3 ∧ P.cellsOf f3.type = 1 ∧ P.underlying f3.type = some (.int .i64))
    (h : DataW.trod enc P w base spare held fuel t (Value.slice A n c).cells.toList = some x) :
    ∃ rs : List Rn, n = rs.length ∧ Row w w.heap.size A (rCells rs) ∧ (∀ (k : Nat) (h : k < rs.length), rs[k].text.size ≤ maxLen) ∧ n ≤ c ∧ c ≤ maxLen ∧ (A = none → c = 0) := by
  rcases open_slice ht h with ⟨hcs, _⟩ | ⟨a, len, cap, m, nn, D, Pl, hcs, _, hl, hm, hmm, _, hi⟩
  · simp [Value.cells] at hcs
    obtain ⟨rfl, rfl, rfl⟩ := hcs
    exact ⟨[], rfl, Row.nil _ _ _, fun k h => absurd h (by simp), by simp, by simp [maxLen], fun _ => rfl⟩
  · simp [Value.cells] at hcs
    obtain ⟨rfl, rfl, rfl⟩ := hcs
    have hlen : n ≤ m := by rw [hmm]; split <;> omega
    have each : ∀ k, k < n → ∃ r : Rn, (∀ j (hj : j < 4), w.cell? (a.add (k * 4 + j)) = [Value.int .i64 r.node, .string r.text, .int .i64 r.white, .int .i64 r.line][j]?) ∧ r.text.size ≤ maxLen := fun k hk => by
      obtain ⟨cs', hc, htr⟩ := hi k (by omega)
      rw [hC] at hc
      obtain ⟨_, hcl, hat⟩ := World.cells?_some hc
      obtain ⟨r, rfl, hz⟩ := trod_rn hs hC h0 h1 h2 h3 htr
      refine ⟨r, fun j hj => ?_, hz⟩
      have := hat j hj
      rw [add_of_add] at this
      exact this
    let f : Nat → Rn := fun k => if hk : k < n then Classical.choose (each k hk) else ⟨0, ByteArray.empty, 0, 0⟩
    have hf : ∀ k, k < n → (∀ j (hj : j < 4), w.cell? (a.add (k * 4 + j)) = [Value.int .i64 (f k).node, .string (f k).text, .int .i64 (f k).white, .int .i64 (f k).line][j]?) ∧ (f k).text.size ≤ maxLen := fun k hk => by
      have := Classical.choose_spec (each k hk)
      simp only [f, hk, dif_pos]
      exact this
    refine ⟨(List.range n).map f, by simp, row_of_cells fun j hj => ?_, fun k hk => ?_, hl, hm, fun h => by cases h⟩
    · have hj' : j < n * 4 := by simpa [rCells_length] using hj
      have hq : j / 4 < n := by omega
      have hr := Nat.mod_lt j (show 0 < 4 by decide)
      have e1 : j / 4 * 4 + j % 4 = j := Nat.div_add_mod' j 4
      have e2 := (hf (j / 4) hq).1 (j % 4) hr
      rw [e1] at e2
      rw [e2]
      have hk : j / 4 < ((List.range n).map f).length := by simpa using hq
      obtain ⟨g0, g1, g2, g3⟩ := rCells_get ((List.range n).map f) (j / 4) hk
      have e3 : ((List.range n).map f)[j / 4] = f (j / 4) := by simp
      rw [e3] at g0 g1 g2 g3
      have hg : (rCells ((List.range n).map f))[j / 4 * 4 + j % 4]? = [Value.int .i64 (f (j / 4)).node, .string (f (j / 4)).text, .int .i64 (f (j / 4)).white, .int .i64 (f (j / 4)).line][j % 4]? := by
        generalize j % 4 = q at *
        match q, hr with
        | 0, _ => exact g0
        | 1, _ => exact g1
        | 2, _ => exact g2
        | 3, _ => exact g3
      rw [e1] at hg
      rw [← hg]
      exact List.getElem?_eq_getElem hj
    · have := (hf k (by simpa using hk)).2
      simpa using this
end
end Go.Proofs.Ytagcfbnidepfoaa
