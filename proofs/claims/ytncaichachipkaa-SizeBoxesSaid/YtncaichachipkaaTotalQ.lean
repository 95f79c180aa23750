import Derived.Test.YtncaichachipkaaZQ
import Derived.Shelf.Spec.BitsCarry
/- brk.total: sums of 128 bits, as the numbers that they stand for. -/
namespace Go.Proofs.Ytncaichachipkaa
open Go Go.RowKit
set_option linter.unusedVariables false
set_option linter.unusedSimpArgs false
set_option maxRecDepth 20000
set_option maxHeartbeats 4000000

def tH (n : Int) : Int := n / 18446744073709551616
def tL (n : Int) : Int := n % 18446744073709551616
abbrev totV (n : Int) : Value := .agg #[.int .i64 (tH n), .int .u64 (tL n)]
def Tot (n : Int) : Prop := -1267650600228229401496703205376 ≤ n ∧ n ≤ 1267650600228229401496703205376
def I64 (n : Int) : Prop := -9223372036854775808 ≤ n ∧ n ≤ 9223372036854775807
theorem tL_in (n : Int) : 0 ≤ tL n ∧ tL n < 18446744073709551616 := by unfold tL; omega
theorem tH_tL (n : Int) : tH n * 18446744073709551616 + tL n = n := by unfold tH tL; omega
theorem add64_run (x y : Int) (hx : 0 ≤ x) (hy : 0 ≤ y) (w : World) : (callFunc 24 #[.int .u64 x, .int .u64 y, .int .u64 0]).run Try.prog w =
    .ok (.value (.tuple #[.int .u64 ((x + y) % 18446744073709551616), .int .u64 ((x + y) / 18446744073709551616)])) w := by
  rw [run_callFunc_extern Try.func24 (by kernel_rfl) (by kernel_rfl) (by kernel_rfl) (e := add64Entry) (by kernel_rfl), run_add64 x y 0 hx hy (by omega) (by omega)]
  simp only [Result.andThen, Int.add_zero]
theorem u64w (n : Int) : IntKind.u64.wrap n = n % 18446744073709551616 := by rw [IntKind.wrap_u64]
theorem plus_code (t n : Int) (ht : Tot t) (hn : I64 n) :
    wrap64 (wrap64 (tH t + n / 9223372036854775808) + wrap64 ((tL t + IntKind.u64.wrap n) / 18446744073709551616)) = tH (t + n) ∧ (tL t + IntKind.u64.wrap n) % 18446744073709551616 = tL (t + n) := by
  obtain ⟨t1, t2⟩ := ht
  obtain ⟨n1, n2⟩ := hn
  rw [u64w]
  have hL := tL_in t
  have hE := tH_tL t
  have h1 : -68719476736 ≤ tH t ∧ tH t ≤ 68719476736 := by unfold tH; omega
  generalize tH t = h at *
  generalize tL t = l at *
  have hn : n / 9223372036854775808 = if n < 0 then -1 else 0 := by split <;> omega
  have hu : n % 18446744073709551616 = if n < 0 then n + 18446744073709551616 else n := by split <;> omega
  have hc : (l + n % 18446744073709551616) / 18446744073709551616 = 0 ∨ (l + n % 18446744073709551616) / 18446744073709551616 = 1 := by omega
  subst hE
  rw [IntWalk.wrap64_in (h + _) ⟨by omega, by omega⟩, IntWalk.wrap64_in ((l + _) / _) ⟨by omega, by omega⟩, IntWalk.wrap64_in _ ⟨by omega, by omega⟩, hn]
  unfold tH tL
  constructor
  · split <;> omega
  · omega
theorem minus_code (t s : Int) (ht : Tot t) (hs : Tot s) :
    wrap64 (wrap64 (tH t - tH s) - wrap64 (if tL t < tL s then 1 else 0)) = tH (t - s) ∧ (tL t + 18446744073709551616 - tL s) % 18446744073709551616 = tL (t - s) := by
  obtain ⟨t1, t2⟩ := ht
  obtain ⟨n1, n2⟩ := hs
  unfold wrap64 tH tL
  split <;> omega
def heldT (n : Int) : Int := if n < -9223372036854775808 then -9223372036854775808 else if 9223372036854775807 < n then 9223372036854775807 else n
theorem heldT_in {n : Int} (h : I64 n) : heldT n = n := by obtain ⟨h1, h2⟩ := h; unfold heldT; split <;> (try split) <;> omega
theorem plus_any (t n : Int) (ht : Tot t) (hn : I64 n) (W : World) :
    Calls Try.prog 18 #[totV t, .int .i64 n] W fun e w' => e = .returned (totV (t + n)) ∧ Below W.heap.size W w' := by
  have hl := tL_in t
  obtain ⟨e1, e2⟩ := plus_code t n ht hn
  have E1 := Lib.hid e1
  have E2 := Lib.hid e2
  clear e1 e2 ht hn
  go_enter Try.func18, Try.ntmps18
  go_wp2_with (rw [add64_run _ _ (by first | exact hl.1 | (rw [IntKind.wrap_u64]; omega)) (by first | exact hl.1 | (rw [IntKind.wrap_u64]; omega))])
  refine bodyPost_ret (v := totV (t + n)) (by simp [results, Try.results18, go_sem, E1.out, E2.out]) rfl ⟨rfl, ?_⟩
  exact (((Below.refl _ _).alloc (Nat.le_refl _) _).alloc (by simp) _)
end Go.Proofs.Ytncaichachipkaa
