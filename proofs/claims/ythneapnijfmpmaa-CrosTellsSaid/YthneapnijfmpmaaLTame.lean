import Derived.Test.YthneapnijfmpmaaProg
import Derived.Test.YthneapnijfmpmaaCellMem
import Derived.Test.YthneapnijfmpmaaLaneC
import Derived.Test.YthneapnijfmpmaaAppTold
import Derived.OwnWalk
/- quoinlaw17.Tame: out of CollTame. -/
namespace Go.Proofs.Ythneapnijfmpmaa
open Go Go.RowKit
set_option linter.unusedVariables false
set_option linter.unusedSimpArgs false
set_option maxRecDepth 20000
set_option maxHeartbeats 4000000

def tameC (most : Int) (l : List Int) : List Int := (l.take 60).map fun z => z.tmod most
theorem tameC_len (most : Int) (l : List Int) : (tameC most l).length = min 60 l.length := by simp [tameC]
theorem tameC_take (most : Int) (l : List Int) (k : Nat) (h : k < l.length) (h6 : k < 60) : tameC most (l.take (k + 1)) = tameC most (l.take k) ++ [l[k].tmod most] := by
  unfold tameC
  rw [List.take_take, List.take_take, show min 60 (k + 1) = k + 1 by omega, show min 60 k = k by omega, List.take_succ_eq_append_getElem h, List.map_append]; rfl
theorem tmod_bd (z m : Int) (hm : 0 < m) : -m < z.tmod m ∧ z.tmod m < m := by
  have h1 := Int.tmod_lt_of_pos z hm
  have h2 := Int.lt_tmod_of_pos z hm
  exact ⟨h2, h1⟩
theorem tameC_bd (most : Int) (hm : 0 < most) (l : List Int) : ∀ z ∈ tameC most l, -most < z ∧ z < most := fun z hz => by
  obtain ⟨y, -, rfl⟩ := List.mem_map.1 hz
  exact tmod_bd y most hm
theorem i64c_info : (Try.prog.info? 2).map (fun i => (i.zero, i.size, i.bytes)) = some (some (.int .i64 0), 1, 8) := by kernel_rfl
def TamePost (most : Int) (l : List Int) (W : World) (e : Ending) (w' : World) : Prop :=
  ∃ A c, e = .returned (.slice A (tameC most l).length c) ∧ w'.ownsRow W.heap.size 2 1 (.slice A (tameC most l).length c) (tameC most l).length (i64s (tameC most l)) ∧ Below W.heap.size W w'
theorem ctame_any (l : List Int) (most : Int) (hm : 0 < most) (hm2 : most ≤ 4611686018427387904) (A : Option Addr) (c : Nat) (W : World) (hR : Row W W.heap.size A (i64s l)) (hl : l.length ≤ 9223372036854775807) :
    Calls Try.prog 11 #[.slice A l.length c, .int .i64 most] W (TamePost most l W) := by
  have HR := Lib.hid hR
  have hm0 : (most == 0) = false := by rw [beq_eq_false_iff_ne]; omega
  clear hR
  go_enter Try.func11, Try.ntmps11
  go_wp2_with fail
  go_loopw [5, 6] (fun v5 v6 wr => ∃ (A1 : Option Addr) (c1 k i : Nat), v5 = .slice A1 k c1 ∧ v6 = .int .i64 i ∧ k = (tameC most (l.take i)).length ∧ i ≤ l.length ∧ i ≤ 60 ∧ Hid (wr.ownsRow W.heap.size 2 1 (.slice A1 k c1) k (i64s (tameC most (l.take i)))) ∧ Hid (Below W.heap.size W wr)) (fun _ v6 _ => 60 - (intOf v6).toNat)
  case atStart => exact ⟨none, 0, 0, 0, rfl, rfl, rfl, Nat.zero_le _, by omega, Lib.hid ⟨rfl, .inl ⟨rfl, rfl⟩⟩, Lib.hid (Below.refl _ _)⟩
  case round =>
    obtain ⟨A1, c1, k, i, rfl, rfl, hk, hil, hi6, O, B⟩ := hrel
    have HK := Lib.hid hk
    rw [tameC_len, List.length_take] at hk
    have hkb : k ≤ 60 := by omega
    clear hk
    by_cases hlt : i < l.length
    · have hltz : (i : Int) < l.length := by omega
      by_cases h60 : i < 60
      · have h60z : (i : Int) < 60 := by omega
        obtain ⟨ad, rfl, hb, r0⟩ := (HR.out.below B.out).int hlt
        have TK := tameC_take most l i hlt h60
        have ZB := tmod_bd l[i] most hm
        generalize hz : l[i] = z at *
        have TK := Lib.hid TK
        clear hz
        have S1 := B.out.size
        have hw : -9223372036854775808 ≤ z.tmod most ∧ z.tmod most ≤ 9223372036854775807 := by omega
        go_upto_region 4 with (at_builtin; refine wpList_pushOne rfl (.tmp 17) (.tmp 24) _ rfl W.heap.size 2 1 8 (.int .i64 0) Try.underlying27 i64c_info rfl (by decide) k (.slice A1 k c1) _ rfl (own_below O.out ((Below.refl _ wr).alloc (Nat.le_refl _) (.cells #[.int .i64 (z.tmod most)] 2)) (Nat.le_refl _)) (by simp; omega) wr.heap.size [.int .i64 (z.tmod most)] rfl (Whole.mk wr 2 #[.int .i64 (z.tmod most)]) rfl (by simp [Value.oneCell']) (by unfold maxLen; omega) (by omega) ?_; intro A5 c5 w5 h5 ho5 hk5)
        have O5 : Hid (w5.ownsRow W.heap.size 2 1 (.slice A5 (k + 1) c5) (k + 1) (i64s (tameC most (l.take (i + 1))))) := Lib.hid (by
          rw [TK.out]
          have e : i64s (tameC most (l.take i) ++ [z.tmod most]) = i64s (tameC most (l.take i)) ++ [.int .i64 (z.tmod most)] := by simp [i64s]
          rw [e]; exact h5)
        have B5 := Lib.hid (own_push (own_below O.out ((Below.refl _ wr).alloc (Nat.le_refl _) (.cells #[.int .i64 (z.tmod most)] 2)) (Nat.le_refl _)) (B.out.alloc S1 _) (by simp; omega) ho5)
        clear h5 ho5 hk5 O B
        go_wp2_with fail
        go_roundw
        case rel => exact ⟨A5, c5, k + 1, i + 1, rfl, by go_num, by rw [TK.out, List.length_append, HK.out]; rfl, by omega, by omega, O5, B5⟩
        case measure => simp [intOf] <;> omega
      · have h60z : ¬ (i : Int) < 60 := by omega
        have E : tameC most (l.take i) = tameC most l := by unfold tameC; rw [List.take_take, show min 60 i = 60 by omega]
        have R : Hid (TamePost most l W (.returned (.slice A1 k c1)) wr) := Lib.hid ⟨A1, c1, by rw [HK.out, E], by have := O.out; rw [HK.out, E] at this; exact this, B.out⟩
        clear O B E
        go_wp2_with fail
        go_ret
        exact R.out
    · have hltz : ¬ (i : Int) < l.length := by omega
      have E : tameC most (l.take i) = tameC most l := by rw [List.take_of_length_le (by omega)]
      have R : Hid (TamePost most l W (.returned (.slice A1 k c1)) wr) := Lib.hid ⟨A1, c1, by rw [HK.out, E], by have := O.out; rw [HK.out, E] at this; exact this, B.out⟩
      clear O B E
      go_wp2_with fail
      go_ret
      exact R.out
end Go.Proofs.Ythneapnijfmpmaa
