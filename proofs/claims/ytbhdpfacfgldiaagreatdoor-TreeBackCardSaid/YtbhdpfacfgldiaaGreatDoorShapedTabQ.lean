import Derived.Test.YtbhdpfacfgldiaaGreatDoorRows
import Derived.Test.YtbhdpfacfgldiaaGreatDoorDeclTextQ
import Derived.Lib.LaidTab
import Derived.Handed
import Derived.Stop.Joined
/- What a row with the listed table strings.asciiSpace gives of the library's tables: that one's content, and that internal/strconv.uint64pow10 holds some numbers. -/
namespace Go.Proofs.YtbhdpfacfgldiaaGreatDoor
open Go Go.RowKit
set_option linter.unusedVariables false
set_option linter.unusedSimpArgs false

theorem cells_of_shaped {P : Program} {w : World} {g n : Nat} {t u : TypeId} {zero : Array Value} {k : IntKind} {ts : List TypeId}
    (h : w.ShapedOpen P) (hg : g < P.globals.size) (h0 : ((begin P (fun _ _ => 0) default).world.heap[g]?).bind Obj.row? = some (zero, t)) (hz : zero.size = n) (hb : P.buildable t = true) (hc : P.cellTypes P.depth t = some ts)
    (hts : ∀ (i : Nat) v, ts[i]? = some v → v = u) (hu : P.underlying u = some (.int k)) {i : Nat} (hi : i < n) : ∃ z, w.cell? ⟨g, i, none⟩ = some (.int k z) := by
  obtain ⟨cs, hh, hs, hr⟩ := h.1 g zero t hg h0
  obtain ⟨ts', hts', _, hall⟩ := hr hb
  rw [hc] at hts'
  cases hts'
  have h1 : i < cs.size := by omega
  obtain ⟨v, hv, hok⟩ := hall i cs[i] (by simp [h1])
  obtain rfl := hts _ v hv
  have hcell : w.cell? ⟨g, i, none⟩ = some cs[i] := by simp [World.cell?, hh, h1]
  rw [hcell]
  unfold Cell.ok at hok
  rw [hu] at hok
  cases hq : cs[i] <;> rw [hq] at hok <;> simp at hok
  case int k' n => exact ⟨n, by rw [hok.1]⟩
theorem cell_in {w : World} {p : Addr} {v : Value} (h : w.cell? p = some v) : p.block < w.heap.size := by
  rcases Nat.lt_or_ge p.block w.heap.size with h1 | h1
  · exact h1
  · unfold World.cell? at h; rw [Array.getElem?_eq_none h1] at h; simp at h
theorem tabOk_shaped {W : World} (h : W.ShapedOpen Tryz.prog) : TabOk W := by
  have hP : PowTab W := fun i hi => cells_of_shaped (P := Tryz.prog) (g := 3) (n := 20) (t := 187) (u := 181) (zero := Array.replicate 20 (.int .u64 0)) (ts := List.replicate 20 181) h (of_decide_eq_true (by kernel_rfl)) (by kernel_rfl) rfl (by kernel_rfl) (by kernel_rfl)
    (fun i v hv => by
      have := List.mem_of_getElem? hv
      exact (List.mem_replicate.1 this).2) Tryz.underlying181 hi
  refine ⟨hP, ?_⟩
  obtain ⟨z, hz⟩ := hP 0 (by decide)
  exact cell_in hz
theorem ascOk_laid {W : World} (h : laidMetH Tryz.prog [("unicode.White_Space", Rows.laid_unicode_White_Space), ("strings.asciiSpace", Rows.laid_strings_asciiSpace)] W) : AscOk W := by
  have e : ([("unicode.White_Space", Rows.laid_unicode_White_Space), ("strings.asciiSpace", Rows.laid_strings_asciiSpace)] : List (String × DataW Unit)).filter (fun x => x.2.handleName?.isSome) = [] := by kernel_rfl
  unfold laidMetH at h
  rw [e] at h
  have e2 : (Rows.laid_strings_asciiSpace : DataW Unit) = Lib.tabData .u8 Lib.asciiSpaceTab := by kernel_rfl
  obtain ⟨ps, ⟨_, _, _, _, _, _, _, _, _, _, ⟨g', t', cs, fuel, p, q, hg', ht', hvar, hd, _, _⟩, _⟩, _⟩ := h
  have hg : Tryz.prog.globalNamed "strings.asciiSpace" = some 0 := by kernel_rfl
  have hty : (Tryz.prog.globals[0]?).map (·.type) = some 142 := by kernel_rfl
  obtain rfl := Option.some.inj (hg.symm.trans hg')
  obtain rfl := Option.some.inj (hty.symm.trans ht')
  rw [e2] at hd
  have hT : AscTab W := by
    show W.var? Tryz.prog "strings.asciiSpace" = _
    rw [hvar, ← Lib.cells_of_tab Tryz.underlying142 Tryz.underlying5 (by kernel_rfl) (by kernel_rfl) hd]
  refine ⟨hT, ?_⟩
  have := Lib.TabIs.cell hT hg 0 (by decide +kernel)
  exact cell_in this
end Go.Proofs.YtbhdpfacfgldiaaGreatDoor
