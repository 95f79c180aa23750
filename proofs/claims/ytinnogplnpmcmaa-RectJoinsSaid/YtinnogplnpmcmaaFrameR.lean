import Derived.Test.YtinnogplnpmcmaaFrameQ
import Derived.Deep.Slices
/- An argument that is a slice of rectangles, opened. -/
namespace Go.Proofs.Ytinnogplnpmcmaa
open Go.Joins Go.ChangeShapes Go.WideShapes Go.RowKit Go.ChangeAt Go.Deep
set_option linter.unusedVariables false
set_option linter.unusedSimpArgs false

theorem cell_lt' {w : World} {a : Addr} {v : Value} (h : w.cell? a = some v) : a.block < w.heap.size := World.block_lt_of_cell? w a h
theorem flat4_at (l : List Q) (i : Nat) (h : i < (flat4 l).length) : ∃ (hk : i / 4 < l.length), (flat4 l)[i] = (match i % 4 with | 0 => .int .i64 l[i / 4].x | 1 => .int .i64 l[i / 4].y | 2 => .int .i64 l[i / 4].a | _ => .int .i64 l[i / 4].b) := by
  have hl := flat4_length l
  have hk : i / 4 < l.length := by omega
  refine ⟨hk, ?_⟩
  obtain ⟨g0, g1, g2, g3⟩ := flat4_get l (i / 4) hk
  have hi : i / 4 * 4 + i % 4 = i := by omega
  have hm : i % 4 < 4 := Nat.mod_lt _ (by omega)
  have key : (flat4 l)[i]? = some (match i % 4 with | 0 => .int .i64 l[i / 4].x | 1 => .int .i64 l[i / 4].y | 2 => .int .i64 l[i / 4].a | _ => .int .i64 l[i / 4].b) := by
    have : (flat4 l)[i]? = (flat4 l)[i / 4 * 4 + i % 4]? := by rw [hi]
    rw [this]
    generalize i % 4 = r at *
    match r, hm with
    | 0, _ => exact g0
    | 1, _ => exact g1
    | 2, _ => exact g2
    | 3, _ => exact g3
  rw [List.getElem?_eq_getElem h] at key
  exact Option.some.inj key
theorem open_rects {H : Type} {enc : TypeId × Value → H} {w : World} {base : Nat} {spare : Nat → Bool} {held : Bool} {fuel n c : Nat} {A : Option Addr} {x : DataW H × List MemPlace}
    (h : DataW.trod enc Try.prog w base spare held fuel 28 (Value.slice A n c).cells.toList = some x) : ∃ l : List Q, n = l.length ∧ Row w w.heap.size A (flat4 l) ∧ (∀ q ∈ l, I64q q) ∧ l.length ≤ c ∧ c ≤ maxLen := by
  rcases open_slice Try.underlying28 h with ⟨hcs, _⟩ | ⟨a, len, cap, m, nn, D, Pl, hcs, _, hl, hm, hmm, _, hi⟩
  · simp [Value.cells] at hcs
    obtain ⟨rfl, rfl, rfl⟩ := hcs
    exact ⟨[], rfl, Row.nil _ _ _, by simp, by simp, by simp [maxLen]⟩
  · simp [Value.cells] at hcs
    obtain ⟨rfl, rfl, rfl⟩ := hcs
    have hlen : n ≤ m := by rw [hmm]; split <;> omega
    have hC : Try.prog.cellsOf 23 = 4 := by kernel_rfl
    have each : ∀ i, i < n → ∃ q : Q, I64q q ∧ w.cell? (a.add (i * 4)) = some (.int .i64 q.x) ∧ w.cell? (a.add (i * 4 + 1)) = some (.int .i64 q.y) ∧ w.cell? (a.add (i * 4 + 2)) = some (.int .i64 q.a) ∧ w.cell? (a.add (i * 4 + 3)) = some (.int .i64 q.b) := fun i hin => by
      obtain ⟨cs', hc, ht⟩ := hi i (by omega)
      rw [hC] at hc
      obtain ⟨_, hcl, hat⟩ := World.cells?_some hc
      obtain ⟨y0, y1, y2, y3, n', _, _, t0, t1, t2, t3⟩ := trod_struct4 Try.underlying23 ht
      match cs', hcl with
      | [v0, v1, v2, v3], _ =>
        obtain ⟨m0, e0, _, w0⟩ := DataW.trod_int Try.underlying2 t0
        obtain ⟨m1, e1, _, w1⟩ := DataW.trod_int Try.underlying2 t1
        obtain ⟨m2, e2, _, w2⟩ := DataW.trod_int Try.underlying2 t2
        obtain ⟨m3, e3, _, w3⟩ := DataW.trod_int Try.underlying2 t3
        have hc1 : Try.prog.cellsOf 2 = 1 := by kernel_rfl
        simp [hc1] at e0 e1 e2 e3
        subst e0 e1 e2 e3
        have c0 := hat 0 (by omega)
        have c1 := hat 1 (by omega)
        have c2 := hat 2 (by omega)
        have c3 := hat 3 (by omega)
        rw [add_of_add] at c0 c1 c2 c3
        exact ⟨⟨m0, m1, m2, m3⟩, ⟨i64_of w0, i64_of w1, i64_of w2, i64_of w3⟩, by simpa using c0, by simpa using c1, by simpa using c2, by simpa using c3⟩
    have hch : ∃ f : Nat → Q, ∀ i, i < n → I64q (f i) ∧ w.cell? (a.add (i * 4)) = some (.int .i64 (f i).x) ∧ w.cell? (a.add (i * 4 + 1)) = some (.int .i64 (f i).y) ∧ w.cell? (a.add (i * 4 + 2)) = some (.int .i64 (f i).a) ∧ w.cell? (a.add (i * 4 + 3)) = some (.int .i64 (f i).b) := by
      refine ⟨fun i => if hi : i < n then Classical.choose (each i hi) else ⟨0, 0, 0, 0⟩, fun i hi => ?_⟩
      simp only [hi, dif_pos]
      exact Classical.choose_spec (each i hi)
    obtain ⟨f, hf⟩ := hch
    refine ⟨(List.range n).map f, by simp, fun hn => ?_, fun q hq => ?_, by simp; omega, hm⟩
    · have hl4 := flat4_length ((List.range n).map f)
      have hn0 : 0 < n := by simp at hl4; omega
      have h0 := cell_lt' (hf 0 hn0).2.1
      rw [add_block] at h0
      refine ⟨a, rfl, h0, fun i hi => ?_⟩
      obtain ⟨hk, e⟩ := flat4_at _ i hi
      rw [e]
      simp only [List.getElem_map, List.getElem_range]
      have hk' : i / 4 < n := by simpa using hk
      obtain ⟨_, d0, d1, d2, d3⟩ := hf (i / 4) hk'
      have hi4 : i / 4 * 4 + i % 4 = i := by omega
      have hm4 : i % 4 < 4 := Nat.mod_lt _ (by omega)
      have : w.cell? (a.add i) = w.cell? (a.add (i / 4 * 4 + i % 4)) := by rw [hi4]
      rw [this]
      generalize i % 4 = r at *
      match r, hm4 with
      | 0, _ => exact d0
      | 1, _ => exact d1
      | 2, _ => exact d2
      | 3, _ => exact d3
    · obtain ⟨i, hi, rfl⟩ := List.mem_map.1 hq
      exact (hf i (by simpa using hi)).1
end Go.Proofs.Ytinnogplnpmcmaa
