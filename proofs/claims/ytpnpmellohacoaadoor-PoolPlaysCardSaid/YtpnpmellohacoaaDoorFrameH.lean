import Derived.Test.YtpnpmellohacoaaDoorFrame
import Derived.Test.YtpnpmellohacoaaDoorPoolLaw
import Derived.Deep.Slices
import Derived.ChangeSame
import Derived.Lib.SmallJoins
/- An argument that is a slice of handles, opened. -/
namespace Go.Proofs.YtpnpmellohacoaaDoor
open Go.Joins Go.ChangeShapes Go.WideShapes Go.RowKit Go.ChangeAt Go.Deep
set_option linter.unusedVariables false
set_option linter.unusedSimpArgs false

theorem hCells_at (l : List (Int × Int)) (i : Nat) (h : i < (hCells l).length) : ∃ (hk : i / 2 < l.length), (hCells l)[i] = (match i % 2 with | 0 => .int .i64 l[i / 2].1 | _ => .int .i64 l[i / 2].2) := by
  have hl := hCells_length l
  have hk : i / 2 < l.length := by omega
  refine ⟨hk, ?_⟩
  obtain ⟨g0, g1⟩ := hCells_get l (i / 2) hk
  have hi : i / 2 * 2 + i % 2 = i := by omega
  have hm : i % 2 < 2 := Nat.mod_lt _ (by omega)
  have key : (hCells l)[i]? = some (match i % 2 with | 0 => .int .i64 l[i / 2].1 | _ => .int .i64 l[i / 2].2) := by
    have : (hCells l)[i]? = (hCells l)[i / 2 * 2 + i % 2]? := by rw [hi]
    rw [this]
    generalize i % 2 = r at *
    match r, hm with
    | 0, _ => exact g0
    | 1, _ => exact g1
  rw [List.getElem?_eq_getElem h] at key
  exact Option.some.inj key
set_option maxRecDepth 20000 in
theorem open_hands {H : Type} {enc : TypeId × Value → H} {w : World} {base : Nat} {spare : Nat → Bool} {held : Bool} {fuel n c : Nat} {A : Option Addr} {x : DataW H × List MemPlace}
    (h : DataW.trod enc Tryd.prog w base spare held fuel 25 (Value.slice A n c).cells.toList = some x) : ∃ l : List (Int × Int), n = l.length ∧ Row w w.heap.size A (hCells l) ∧ l.length ≤ c ∧ c ≤ maxLen := by
  rcases open_slice Tryd.underlying25 h with ⟨hcs, _⟩ | ⟨a, len, cap, m, nn, D, Pl, hcs, _, hl, hm, hmm, _, hi⟩
  · simp [Value.cells] at hcs
    obtain ⟨rfl, rfl, rfl⟩ := hcs
    exact ⟨[], rfl, Row.nil _ _ _, by simp, by simp [maxLen]⟩
  · simp [Value.cells] at hcs
    obtain ⟨rfl, rfl, rfl⟩ := hcs
    have hlen : n ≤ m := by rw [hmm]; split <;> omega
    have hC : Tryd.prog.cellsOf 27 = 2 := by kernel_rfl
    have each : ∀ i, i < n → ∃ q : Int × Int, w.cell? (a.add (i * 2)) = some (.int .i64 q.1) ∧ w.cell? (a.add (i * 2 + 1)) = some (.int .i64 q.2) := fun i hin => by
      obtain ⟨cs', hc, ht⟩ := hi i (by omega)
      rw [hC] at hc
      obtain ⟨_, hcl, hat⟩ := World.cells?_some hc
      obtain ⟨y0, y1, n', _, _, t0, t1⟩ := trod_struct2 Tryd.underlying27 ht
      match cs', hcl with
      | [v0, v1], _ =>
        obtain ⟨m0, e0, _, w0⟩ := DataW.trod_int Tryd.underlying3 t0
        obtain ⟨m1, e1, _, w1⟩ := DataW.trod_int Tryd.underlying3 t1
        have hc1 : Tryd.prog.cellsOf 3 = 1 := by kernel_rfl
        simp [hc1] at e0 e1
        subst e0 e1
        have c0 := hat 0 (by omega)
        have c1 := hat 1 (by omega)
        rw [add_of_add] at c0 c1
        exact ⟨⟨m0, m1⟩, by simpa using c0, by simpa using c1⟩
    have hch : ∃ f : Nat → Int × Int, ∀ i, i < n → w.cell? (a.add (i * 2)) = some (.int .i64 (f i).1) ∧ w.cell? (a.add (i * 2 + 1)) = some (.int .i64 (f i).2) := by
      refine ⟨fun i => if hi : i < n then Classical.choose (each i hi) else (0, 0), fun i hi => ?_⟩
      simp only [hi, dif_pos]
      exact Classical.choose_spec (each i hi)
    obtain ⟨f, hf⟩ := hch
    refine ⟨(List.range n).map f, by simp, fun hn => ?_, by simp; omega, hm⟩
    have hl4 := hCells_length ((List.range n).map f)
    have hn0 : 0 < n := by simp at hl4; omega
    have h0 := World.block_lt_of_cell? w _ (hf 0 hn0).1
    rw [add_block] at h0
    refine ⟨a, rfl, h0, fun i hi => ?_⟩
    obtain ⟨hk, e⟩ := hCells_at _ i hi
    rw [e]
    simp only [List.getElem_map, List.getElem_range]
    have hk' : i / 2 < n := by simpa using hk
    obtain ⟨d0, d1⟩ := hf (i / 2) hk'
    have hi4 : i / 2 * 2 + i % 2 = i := by omega
    have hm4 : i % 2 < 2 := Nat.mod_lt _ (by omega)
    have : w.cell? (a.add i) = w.cell? (a.add (i / 2 * 2 + i % 2)) := by rw [hi4]
    rw [this]
    generalize i % 2 = r at *
    match r, hm4 with
    | 0, _ => exact d0
    | 1, _ => exact d1
end Go.Proofs.YtpnpmellohacoaaDoor
