import Derived.Test.YtodnplllkpgfaaaFlexMemQ
import Derived.Test.YtodnplllkpgfaaaZQ
/- quoinlaw18.bases. -/
namespace Go.Proofs.Ytodnplllkpgfaaa
open Go Go.RowKit
set_option linter.unusedVariables false
set_option linter.unusedSimpArgs false
set_option maxRecDepth 20000
set_option maxHeartbeats 4000000

theorem i64b_info : (Try.prog.info? 2).map (fun i => (i.zero, i.size, i.bytes)) = some (some (.int .i64 0), 1, 8) := by kernel_rfl
theorem bases_any (l : List Fx) (A : Option Addr) (c : Nat) (W : World) (hR : Row W W.heap.size A (l.flatMap fxC)) (hm : l.length ≤ 1000000) :
    Calls Try.prog 12 #[.slice A l.length c] W fun e w' => ∃ A' c', e = .returned (.slice A' l.length c') ∧ w'.ownsRow W.heap.size 2 1 (.slice A' l.length c') l.length (i64s (l.map Fx.base)) ∧ Below W.heap.size W w' := by
  have HR := Lib.hid hR
  clear hR
  obtain ⟨n, hn⟩ : ∃ n, l.length = n := ⟨_, rfl⟩
  have HN := Lib.hid hn
  rw [hn] at hm ⊢
  clear hn
  go_enter Try.func12, Try.ntmps12
  go_wp2_with fail
  go_loopw [3, 4] (fun v3 v4 wr => ∃ (k : Nat) (A1 : Option Addr) (c1 : Nat), v3 = .slice A1 k c1 ∧ v4 = .int .i64 k ∧ k ≤ n ∧ Hid (wr.ownsRow W.heap.size 2 1 (.slice A1 k c1) k (i64s ((l.take k).map Fx.base))) ∧ Hid (Below W.heap.size W wr)) (fun _ v4 _ => n - (intOf v4).toNat)
  case atStart => exact ⟨0, none, 0, rfl, rfl, Nat.zero_le _, Lib.hid ⟨rfl, .inl ⟨rfl, rfl⟩⟩, Lib.hid (Below.refl _ _)⟩
  case round =>
    obtain ⟨k, A1, c1, rfl, rfl, hk, O, B⟩ := hrel
    by_cases hlt : k < n
    · have hltz : (k : Int) < n := by omega
      have hkl : k < l.length := by rw [HN.out]; exact hlt
      obtain ⟨ad, rfl, hb, d0, d1, d2, d3, d4, d5⟩ := Row.flex (HR.out.below B.out) hkl
      have ET : Hid (i64s ((l.take (k + 1)).map Fx.base) = i64s ((l.take k).map Fx.base) ++ [.int .i64 l[k].base]) := Lib.hid (by
        rw [List.take_succ_eq_append_getElem hkl, List.map_append, i64s_append]; rfl)
      obtain ⟨z, hz⟩ : ∃ z, l[k].base = z := ⟨_, rfl⟩
      rw [hz] at d0 ET
      clear hz d1 d2 d3 d4 d5
      have S1 := B.out.size
      have O1 := Lib.hid (own_below O.out ((Below.refl _ wr).alloc (Nat.le_refl _) (.cells #[.int .i64 z] 2)) (Nat.le_refl _))
      have B1 := Lib.hid (B.out.alloc S1 (.cells #[.int .i64 z] 2))
      clear O B
      go_upto_region 4 with (at_builtin; refine wpList_pushOne rfl (.tmp 11) (.tmp 17) _ rfl W.heap.size 2 1 8 (.int .i64 0) Try.underlying22 i64b_info rfl (by decide) k (.slice A1 k c1) _ rfl O1.out B1.out.size wr.heap.size [.int .i64 z] rfl (Whole.mk wr 2 #[.int .i64 z]) rfl (by simp [Value.oneCell']) (by unfold maxLen; omega) (by omega) ?_; intro A5 c5 w5 h5 ho5 hk5)
      have O5 : Hid (w5.ownsRow W.heap.size 2 1 (.slice A5 (k + 1) c5) (k + 1) (i64s ((l.take (k + 1)).map Fx.base))) := Lib.hid (by rw [ET.out]; exact h5)
      have B5 := Lib.hid (own_push O1.out B1.out B1.out.size ho5)
      clear h5 ho5 hk5 O1 B1
      go_wp2_with fail
      go_roundw
      case rel => exact ⟨k + 1, A5, c5, by go_num, by go_num, by omega, O5, B5⟩
      case measure => simp [intOf] <;> omega
    · obtain rfl : n = k := by omega
      have hltz : ¬ (n : Int) < n := by omega
      have e0 : l.take n = l := List.take_of_length_le (by rw [HN.out]; omega)
      rw [e0] at O
      clear e0
      go_wp2_with fail
      go_ret
      exact ⟨A1, c1, rfl, O.out, B.out⟩
end Go.Proofs.Ytodnplllkpgfaaa
