import Derived.Test.YtinnogplnpmcmaaRects
import Derived.Test.YtinnogplnpmcmaaTame
import Derived.Test.YtinnogplnpmcmaaTail
/- quoinlaw2.Tame and awake by their contracts. -/
namespace Go.Proofs.Ytinnogplnpmcmaa
open Go.RowKit
set_option linter.unusedVariables false
set_option linter.unusedSimpArgs false

theorem and7 (n : Int) : bits .and .i64 n 7 = n % 8 := and_mask_i64 n 3 (by decide)
def tameQ (small : Bool) (q : Q) : Q := if small then ⟨q.x % 8 - 3, q.y % 8 - 3, q.a % 8, q.b % 8⟩ else ⟨tameZ q.x 8796093022208, tameZ q.y 8796093022208, IntKind.u64.wrap q.a % 8796093022208, IntKind.u64.wrap q.b % 8796093022208⟩
def I64q (q : Q) : Prop := (-9223372036854775808 ≤ q.x ∧ q.x ≤ 9223372036854775807) ∧ (-9223372036854775808 ≤ q.y ∧ q.y ≤ 9223372036854775807) ∧ (-9223372036854775808 ≤ q.a ∧ q.a ≤ 9223372036854775807) ∧ (-9223372036854775808 ≤ q.b ∧ q.b ≤ 9223372036854775807)
theorem tame_small (q : Q) (w : World) : Calls Try.prog 7 #[qv q, .bool true] w fun e w' => e = .returned (qv (tameQ true q)) ∧ Below w.heap.size w w' := by
  have a1 := and7 q.x
  have a2 := and7 q.y
  have a3 := and7 q.a
  have a4 := and7 q.b
  have e : qv (tameQ true q) = rv (q.x % 8 - 3) (q.y % 8 - 3) (q.a % 8) (q.b % 8) := rfl
  rw [e]; clear e
  go_enter Try.func7, Try.ntmps7
  go_wp2
  refine bodyPost_ret (v := rv (q.x % 8 - 3) (q.y % 8 - 3) (q.a % 8) (q.b % 8)) ?_ rfl ⟨rfl, ?_⟩
  · simp [results, Try.results7, go_sem]
  · exact ((Below.refl _ _).alloc (Nat.le_refl _) _).alloc (by simp) _
theorem u64_in (n : Int) : 0 ≤ IntKind.u64.wrap n ∧ IntKind.u64.wrap n ≤ 18446744073709551615 := by rw [IntKind.wrap_u64]; omega
theorem conv_u (a : Int) : wrap64 ((IntKind.u64.wrap a).tmod 8796093022208) = IntKind.u64.wrap a % 8796093022208 := by
  rw [Int.tmod_eq_emod_of_nonneg (u64_in a).1, IntWalk.wrap64_in _ ⟨by omega, by omega⟩]
set_option maxHeartbeats 600000 in
theorem tame_great (q : Q) (w : World) (hq : I64q q) : Calls Try.prog 7 #[qv q, .bool false] w fun e w' => e = .returned (qv (tameQ false q)) ∧ Below w.heap.size w w' := by
  obtain ⟨⟨l0, u0⟩, ⟨l1, u1⟩, ⟨l2, u2⟩, l3, u3⟩ := hq
  have e : qv (tameQ false q) = rv (tameZ q.x 8796093022208) (tameZ q.y 8796093022208) (IntKind.u64.wrap q.a % 8796093022208) (IntKind.u64.wrap q.b % 8796093022208) := rfl
  rw [e]; clear e
  have T1 := Lib.hid (fun w => tame_any q.x 8796093022208 w l0 u0 (by decide) (by decide))
  have T2 := Lib.hid (fun w => tame_any q.y 8796093022208 w l1 u1 (by decide) (by decide))
  generalize tameZ q.x 8796093022208 = x at *
  generalize tameZ q.y 8796093022208 = y at *
  go_enter Try.func7, Try.ntmps7
  go_wp2
  refine region_later_tail 17 (by kernel_rfl) (by kernel_rfl) ?_
  simp only [List.take_succ_cons, List.take_zero, List.drop_succ_cons, List.drop_zero]
  obtain ⟨W, hW⟩ : ∃ W, (w.alloc (.cells #[.int .i64 q.x, .int .i64 q.y, .int .i64 q.a, .int .i64 q.b] 23)).alloc (.cells #[.int .i64 0, .int .i64 0, .int .i64 0, .int .i64 0] 23) = W := ⟨_, rfl⟩
  rw [hW]
  have R1 : Whole W w.heap.size 23 [.int .i64 q.x, .int .i64 q.y, .int .i64 q.a, .int .i64 q.b] := by rw [← hW]; exact (Whole.mk w _ _).made _
  have R2 : Whole W (w.heap.size + 1) 23 [.int .i64 0, .int .i64 0, .int .i64 0, .int .i64 0] := by
    have h := Whole.mk (w.alloc (.cells #[.int .i64 q.x, .int .i64 q.y, .int .i64 q.a, .int .i64 q.b] 23)) 23 #[.int .i64 0, .int .i64 0, .int .i64 0, .int .i64 0]
    rw [World.size_alloc, hW] at h
    exact h
  have HB : Below w.heap.size w W := by rw [← hW]; exact ((Below.refl _ _).alloc (Nat.le_refl _) _).alloc (by simp) _
  have HW := Lib.hid hW
  clear hW
  have RS : ∀ s : Later W.heap.size W, Whole s.w w.heap.size 23 [.int .i64 q.x, .int .i64 q.y, .int .i64 q.a, .int .i64 q.b] := fun s => R1.under s.h R1.size
  have K0 : ∀ s : Later W.heap.size W, s.w.cell? ⟨w.heap.size, 0, none⟩ = some (.int .i64 q.x) := fun s => (RS s).four.1
  have K1 : ∀ s : Later W.heap.size W, s.w.cell? ⟨w.heap.size, 1, none⟩ = some (.int .i64 q.y) := fun s => (RS s).four.2.1
  have K2 : ∀ s : Later W.heap.size W, s.w.cell? ⟨w.heap.size, 2, none⟩ = some (.int .i64 q.a) := fun s => (RS s).four.2.2.1
  have K3 : ∀ s : Later W.heap.size W, s.w.cell? ⟨w.heap.size, 3, none⟩ = some (.int .i64 q.b) := fun s => (RS s).four.2.2.2
  repeat (go_big_quiet_step (first | (with_reducible exact later_same _ (T1.out _)) | (with_reducible exact later_same _ (T2.out _))))
  refine wpQuiet_nil ?_
  rintro w' ⟨s, rfl⟩
  have hb := s.h
  have R3 := R2.under s.h R2.size
  obtain ⟨c0, c1, c2, c3⟩ := R3.four
  obtain ⟨f0, f1, f2, f3⟩ := R3.fourFree
  generalize s.w = w1 at *
  clear K0 K1 K2 K3 RS
  go_wp2
  refine bodyPost_ret (v := rv x y (IntKind.u64.wrap q.a % 8796093022208) (IntKind.u64.wrap q.b % 8796093022208)) ?_ rfl ⟨rfl, ?_⟩
  · simp [results, Try.results7, go_sem, c0, c1, c2, c3, conv_u]
  · exact below_put4 (HB.trans (hb.mono HB.size)) (by omega) _ _ _ _
theorem tame_q (s : Bool) (q : Q) (w : World) (hq : I64q q) : Calls Try.prog 7 #[qv q, .bool s] w fun e w' => e = .returned (qv (tameQ s q)) ∧ Below w.heap.size w w' := by
  cases s
  · exact tame_great q w hq
  · exact tame_small q w
/-- What Tame gives. -/
def Fine (q : Q) : Prop := (-8796093022208 ≤ q.x ∧ q.x ≤ 8796093022208) ∧ (-8796093022208 ≤ q.y ∧ q.y ≤ 8796093022208) ∧ (0 ≤ q.a ∧ q.a ≤ 8796093022208) ∧ 0 ≤ q.b ∧ q.b ≤ 8796093022208
def Tiny (q : Q) : Prop := (-3 ≤ q.x ∧ q.x ≤ 4) ∧ (-3 ≤ q.y ∧ q.y ≤ 4) ∧ (0 ≤ q.a ∧ q.a ≤ 7) ∧ 0 ≤ q.b ∧ q.b ≤ 7
theorem tame_tiny (q : Q) : Tiny (tameQ true q) := by simp only [Tiny, tameQ, if_true]; omega
theorem tame_fine (s : Bool) (q : Q) : Fine (tameQ s q) := by
  cases s
  · have h1 := tameZ_bd q.x 8796093022208 (by decide)
    have h2 := tameZ_bd q.y 8796093022208 (by decide)
    simp only [Fine, tameQ, Bool.false_eq_true, if_false]
    omega
  · have := tame_tiny q
    unfold Tiny at this
    unfold Fine
    omega
theorem Fine.small {q : Q} (h : Fine q) : q.small := by unfold Fine at h; unfold Q.small Small; omega
theorem Tiny.fine {q : Q} (h : Tiny q) : Fine q := by unfold Tiny at h; unfold Fine; omega
end Go.Proofs.Ytinnogplnpmcmaa
