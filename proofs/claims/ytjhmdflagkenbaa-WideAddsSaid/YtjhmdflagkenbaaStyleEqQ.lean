import Derived.Test.YtjhmdflagkenbaaZQ
import Derived.Laws.StructEq
import Derived.DeepKeys
/- Two styles are compared cell by cell. -/
namespace Go.Proofs.Ytjhmdflagkenbaa
open Go Go.RowKit
set_option linter.unusedVariables false
set_option linter.unusedSimpArgs false
set_option maxRecDepth 20000
set_option maxHeartbeats 4000000

theorem style_cells (zs : List Int) (hz : zs.length = 43) : ∃ z0 z1 z2 z3 z4 z5 z6 z7 z8 z9 z10 z11 z12 z13 z14 z15 z16 z17 z18 z19 z20 z21 z22 z23 z24 z25 z26 z27 z28 z29 z30 z31 z32 z33 z34 z35 z36 z37 z38 z39 z40 z41 z42 : Int, zs = [z0, z1, z2, z3, z4, z5, z6, z7, z8, z9, z10, z11, z12, z13, z14, z15, z16, z17, z18, z19, z20, z21, z22, z23, z24, z25, z26, z27, z28, z29, z30, z31, z32, z33, z34, z35, z36, z37, z38, z39, z40, z41, z42] := by
  rcases zs with _ | ⟨z0, zs⟩
  · simp at hz
  rcases zs with _ | ⟨z1, zs⟩
  · simp at hz
  rcases zs with _ | ⟨z2, zs⟩
  · simp at hz
  rcases zs with _ | ⟨z3, zs⟩
  · simp at hz
  rcases zs with _ | ⟨z4, zs⟩
  · simp at hz
  rcases zs with _ | ⟨z5, zs⟩
  · simp at hz
  rcases zs with _ | ⟨z6, zs⟩
  · simp at hz
  rcases zs with _ | ⟨z7, zs⟩
  · simp at hz
  rcases zs with _ | ⟨z8, zs⟩
  · simp at hz
  rcases zs with _ | ⟨z9, zs⟩
  · simp at hz
  rcases zs with _ | ⟨z10, zs⟩
  · simp at hz
  rcases zs with _ | ⟨z11, zs⟩
  · simp at hz
  rcases zs with _ | ⟨z12, zs⟩
  · simp at hz
  rcases zs with _ | ⟨z13, zs⟩
  · simp at hz
  rcases zs with _ | ⟨z14, zs⟩
  · simp at hz
  rcases zs with _ | ⟨z15, zs⟩
  · simp at hz
  rcases zs with _ | ⟨z16, zs⟩
  · simp at hz
  rcases zs with _ | ⟨z17, zs⟩
  · simp at hz
  rcases zs with _ | ⟨z18, zs⟩
  · simp at hz
  rcases zs with _ | ⟨z19, zs⟩
  · simp at hz
  rcases zs with _ | ⟨z20, zs⟩
  · simp at hz
  rcases zs with _ | ⟨z21, zs⟩
  · simp at hz
  rcases zs with _ | ⟨z22, zs⟩
  · simp at hz
  rcases zs with _ | ⟨z23, zs⟩
  · simp at hz
  rcases zs with _ | ⟨z24, zs⟩
  · simp at hz
  rcases zs with _ | ⟨z25, zs⟩
  · simp at hz
  rcases zs with _ | ⟨z26, zs⟩
  · simp at hz
  rcases zs with _ | ⟨z27, zs⟩
  · simp at hz
  rcases zs with _ | ⟨z28, zs⟩
  · simp at hz
  rcases zs with _ | ⟨z29, zs⟩
  · simp at hz
  rcases zs with _ | ⟨z30, zs⟩
  · simp at hz
  rcases zs with _ | ⟨z31, zs⟩
  · simp at hz
  rcases zs with _ | ⟨z32, zs⟩
  · simp at hz
  rcases zs with _ | ⟨z33, zs⟩
  · simp at hz
  rcases zs with _ | ⟨z34, zs⟩
  · simp at hz
  rcases zs with _ | ⟨z35, zs⟩
  · simp at hz
  rcases zs with _ | ⟨z36, zs⟩
  · simp at hz
  rcases zs with _ | ⟨z37, zs⟩
  · simp at hz
  rcases zs with _ | ⟨z38, zs⟩
  · simp at hz
  rcases zs with _ | ⟨z39, zs⟩
  · simp at hz
  rcases zs with _ | ⟨z40, zs⟩
  · simp at hz
  rcases zs with _ | ⟨z41, zs⟩
  · simp at hz
  rcases zs with _ | ⟨z42, zs⟩
  · simp at hz
  rcases zs with _ | ⟨z43, zs⟩
  · exact ⟨_, _, _, _, _, _, _, _, _, _, _, _, _, _, _, _, _, _, _, _, _, _, _, _, _, _, _, _, _, _, _, _, _, _, _, _, _, _, _, _, _, _, _, rfl⟩
  · simp at hz
theorem len_eq (d : Nat) (k n k' n' : Int) (w : World) : (Op.equalIn (d + 2) 23 (.agg #[.int .i64 k, .int .i64 n]) (.agg #[.int .i64 k', .int .i64 n'])).run Try.prog w = .ok (k == k' && n == n') w := by
  rw [run_equalIn_struct _ _ _ _ _ (by kernel_rfl) (by kernel_rfl)]
  simp [go_sem, Op.eqFields]
  by_cases h1 : k = k' <;> by_cases h2 : n = n' <;> simp_all
theorem lens_eq (d : Nat) (a b c e f g h i : Int) (w : World) : (Op.equalIn (d + 3) 25 (.agg #[.int .i64 a, .int .i64 b, .int .i64 c, .int .i64 e, .int .i64 f, .int .i64 g, .int .i64 h, .int .i64 i]) (.agg #[.int .i64 a, .int .i64 b, .int .i64 c, .int .i64 e, .int .i64 f, .int .i64 g, .int .i64 h, .int .i64 i])).run Try.prog w = .ok true w := by
  obtain ⟨x, hi, hs⟩ := Option.map_eq_some_iff.1 (show (Try.prog.info? 23).map (·.size) = some 2 by kernel_rfl)
  rw [run_equalIn_array w (d + 2) _ _ Try.underlying25 hi, show Try.prog.cellsOf 23 = 2 by kernel_rfl]
  simp [go_sem, Op.eqItems, List.range, List.range.loop, len_eq]
theorem fours_eq (d : Nat) (a b c e : Int) (w : World) : (Op.equalIn (d + 2) 24 (.agg #[.int .i64 a, .int .i64 b, .int .i64 c, .int .i64 e]) (.agg #[.int .i64 a, .int .i64 b, .int .i64 c, .int .i64 e])).run Try.prog w = .ok true w := by
  obtain ⟨x, hi, hs⟩ := Option.map_eq_some_iff.1 (show (Try.prog.info? 2).map (·.size) = some 1 by kernel_rfl)
  rw [run_equalIn_array w (d + 1) _ _ Try.underlying24 hi, show Try.prog.cellsOf 2 = 1 by kernel_rfl]
  simp [go_sem, Op.eqItems, List.range, List.range.loop]
theorem style_eq43 (z0 z1 z2 z3 z4 z5 z6 z7 z8 z9 z10 z11 z12 z13 z14 z15 z16 z17 z18 z19 z20 z21 z22 z23 z24 z25 z26 z27 z28 z29 z30 z31 z32 z33 z34 z35 z36 z37 z38 z39 z40 z41 z42 : Int) (w : World) : (Op.equal 27 (.agg #[.int .i64 z0, .int .i64 z1, .int .i64 z2, .int .i64 z3, .int .i64 z4, .int .i64 z5, .int .i64 z6, .int .i64 z7, .int .i64 z8, .int .i64 z9, .int .i64 z10, .int .i64 z11, .int .i64 z12, .int .i64 z13, .int .i64 z14, .int .i64 z15, .int .i64 z16, .int .i64 z17, .int .i64 z18, .int .i64 z19, .int .i64 z20, .int .i64 z21, .int .i64 z22, .int .i64 z23, .int .i64 z24, .int .i64 z25, .int .i64 z26, .int .i64 z27, .int .i64 z28, .int .i64 z29, .int .i64 z30, .int .i64 z31, .int .i64 z32, .int .i64 z33, .int .i64 z34, .int .i64 z35, .int .i64 z36, .int .i64 z37, .int .i64 z38, .int .i64 z39, .int .i64 z40, .int .i64 z41, .int .i64 z42]) (.agg #[.int .i64 z0, .int .i64 z1, .int .i64 z2, .int .i64 z3, .int .i64 z4, .int .i64 z5, .int .i64 z6, .int .i64 z7, .int .i64 z8, .int .i64 z9, .int .i64 z10, .int .i64 z11, .int .i64 z12, .int .i64 z13, .int .i64 z14, .int .i64 z15, .int .i64 z16, .int .i64 z17, .int .i64 z18, .int .i64 z19, .int .i64 z20, .int .i64 z21, .int .i64 z22, .int .i64 z23, .int .i64 z24, .int .i64 z25, .int .i64 z26, .int .i64 z27, .int .i64 z28, .int .i64 z29, .int .i64 z30, .int .i64 z31, .int .i64 z32, .int .i64 z33, .int .i64 z34, .int .i64 z35, .int .i64 z36, .int .i64 z37, .int .i64 z38, .int .i64 z39, .int .i64 z40, .int .i64 z41, .int .i64 z42])).run Try.prog w = .ok true w := by
  unfold Op.equal
  rw [show Op.maxDepth = 9999 + 1 from rfl, run_equalIn_struct _ _ _ _ _ (by kernel_rfl) (by kernel_rfl)]
  simp [go_sem, Op.eqFields, len_eq, lens_eq, fours_eq]
theorem style_equal (zs : List Int) (hz : zs.length = 43) (w : World) : (Op.equal 27 (.agg (i64s zs).toArray) (.agg (i64s zs).toArray)).run Try.prog w = .ok true w := by
  obtain ⟨z0, z1, z2, z3, z4, z5, z6, z7, z8, z9, z10, z11, z12, z13, z14, z15, z16, z17, z18, z19, z20, z21, z22, z23, z24, z25, z26, z27, z28, z29, z30, z31, z32, z33, z34, z35, z36, z37, z38, z39, z40, z41, z42, rfl⟩ := style_cells zs hz
  exact style_eq43 z0 z1 z2 z3 z4 z5 z6 z7 z8 z9 z10 z11 z12 z13 z14 z15 z16 z17 z18 z19 z20 z21 z22 z23 z24 z25 z26 z27 z28 z29 z30 z31 z32 z33 z34 z35 z36 z37 z38 z39 z40 z41 z42 w
theorem style_guard (op : BinOp) (x y : Operand) (cs ds : Array Value) (w : World) : (eqGuard op 27 x y (.agg cs) (.agg ds)).run Try.prog w = .ok () w := by
  have h : Try.prog.eqGuardType Try.prog.depth 27 = false := by kernel_rfl
  unfold eqGuard
  cases op <;> simp [h]
theorem style_eql (zs : List Int) (hz : zs.length = 43) (x y : Operand) (w : World) : (do eqGuard .eql 27 x y (.agg (i64s zs).toArray) (.agg (i64s zs).toArray); binOp .eql 27 (.agg (i64s zs).toArray) (.agg (i64s zs).toArray) : Sem Value).run Try.prog w = .ok (.bool true) w := by
  simp only [Sem.run_bind, style_guard, Result.andThen_ok, binOp, style_equal zs hz, Sem.run_pure]
theorem style_neq (zs : List Int) (hz : zs.length = 43) (x y : Operand) (w : World) : (do eqGuard .neq 27 x y (.agg (i64s zs).toArray) (.agg (i64s zs).toArray); binOp .neq 27 (.agg (i64s zs).toArray) (.agg (i64s zs).toArray) : Sem Value).run Try.prog w = .ok (.bool false) w := by
  simp only [Sem.run_bind, style_guard, Result.andThen_ok, binOp, style_equal zs hz, Sem.run_pure, Bool.not_true]
section
variable {ops : Array Oper} {rest : List Oper} {o : Oper} {a : Act} {w : World} {Q : Exit → Act → World → Prop}
theorem wpList_style_eql (x y : Operand) (yt : TypeId) (hgd : o.guard = none) (ho : o.op = .binOp .eql 27 x y yt) (zs : List Int) (hz : zs.length = 43) (hx : a.eval x = .agg (i64s zs).toArray) (hy : a.eval y = .agg (i64s zs).toArray)
    (h : wpList Try.prog ops Q rest (a.put o.dst (.bool true)) w) : wpList Try.prog ops Q (o :: rest) a w :=
  wpList_plain hgd fun K hK => by
    unfold Oper.wp execOp
    simp only [ho, hx, hy, Sem.run_bind, style_guard, Result.andThen_ok, binOp, style_equal zs hz, Sem.run_pure, Oper.upon]
    exact hK _ _ h
theorem gives_style_eql (x y : Operand) (yt : TypeId) (ho : o.op = .binOp .eql 27 x y yt) (zs : List Int) (hz : zs.length = 43) (hx : a.eval x = .agg (i64s zs).toArray) (hy : a.eval y = .agg (i64s zs).toArray) :
    gives Try.prog o a w fun u _ => u = .bool true := by
  unfold gives execOp
  simp only [ho, hx, hy, Sem.run_bind, style_guard, Result.andThen_ok, binOp, style_equal zs hz, Sem.run_pure]
  exact ⟨Behind.refl w, trivial⟩
theorem gives_style_neq (x y : Operand) (yt : TypeId) (ho : o.op = .binOp .neq 27 x y yt) (zs : List Int) (hz : zs.length = 43) (hx : a.eval x = .agg (i64s zs).toArray) (hy : a.eval y = .agg (i64s zs).toArray) :
    gives Try.prog o a w fun u _ => u = .bool false := by
  unfold gives execOp
  simp only [ho, hx, hy, Sem.run_bind, style_guard, Result.andThen_ok, binOp, style_equal zs hz, Sem.run_pure, Bool.not_true]
  exact ⟨Behind.refl w, trivial⟩
end
end Go.Proofs.Ytjhmdflagkenbaa
