import Derived.Test.YthneapnijfmpmaaRefCr
import Derived.Test.YthneapnijfmpmaaPush
/- quoinref9.CrossLines: where each line begins. -/
namespace Go.Proofs.Ythneapnijfmpmaa
open Go Go.RowKit
set_option linter.unusedVariables false
set_option linter.unusedSimpArgs false
set_option maxRecDepth 20000
set_option maxHeartbeats 4000000

/-- What Lines answers: an own row of the beginnings. -/
def BegPost (l : List Int) (whole : Int) (rev : Bool) (W : World) (e : Ending) (w' : World) : Prop :=
  ∃ A c, e = .returned (.slice A l.length c) ∧ w'.ownsRow W.heap.size 2 1 (.slice A l.length c) l.length (i64s (begsZ l whole rev)) ∧ Below W.heap.size W w'
structure BegOk (l : List Int) (whole : Int) : Prop where
  each : ∀ z ∈ l, -1099511627776 ≤ z ∧ z ≤ 1099511627776
  len : l.length ≤ 60
  whole : -140737488355328 ≤ whole ∧ whole ≤ 140737488355328
theorem rbegs_any (l : List Int) (A : Option Addr) (c : Nat) (whole : Int) (rev : Bool) (W : World) (hR : Row W W.heap.size A (i64s l)) (hk : BegOk l whole) :
    Calls Try.prog 17 #[.slice A l.length c, .int .i64 whole, .bool rev] W (BegPost l whole rev W) := by
  have HR := Lib.hid hR
  have HE := Lib.hid hk.each
  have HB := Lib.hid (fun k => sumC_takebd (c := 1099511627776) (by decide) l (fun z hz => hk.each z hz) hk.len k)
  have h60 := hk.len
  have hw := hk.whole
  have BL := Lib.hid (begsZ_len l whole rev)
  unfold BegPost
  obtain ⟨n, hn⟩ : ∃ n, l.length = n := ⟨_, rfl⟩
  have HN := Lib.hid hn
  rw [hn] at h60 ⊢
  clear hR hk hn
  go_enter Try.func17, Try.ntmps17
  go_wp2_with fail
  go_loopw [7, 8, 9] (fun v7 v8 v9 wr => ∃ (k : Nat) (A1 : Option Addr) (c1 : Nat), v7 = .slice A1 k c1 ∧ v8 = .int .i64 (l.take k).sum ∧ v9 = .int .i64 k ∧ k ≤ n ∧ Hid (wr.ownsRow W.heap.size 2 1 (.slice A1 k c1) k (i64s ((begsZ l whole rev).take k))) ∧ Hid (Below W.heap.size W wr)) (fun _ _ v9 _ => n - (intOf v9).toNat)
  case atStart => exact ⟨0, none, 0, rfl, by simp, rfl, Nat.zero_le _, Lib.hid ⟨rfl, .inl ⟨rfl, rfl⟩⟩, Lib.hid (Below.refl _ _)⟩
  case round =>
    obtain ⟨k, A1, c1, rfl, rfl, rfl, hk, O, B⟩ := hrel
    generalize wr = w1 at *
    by_cases hlt : k < n
    · have hltz : (k : Int) < n := by omega
      have hkl : k < l.length := by rw [HN.out]; exact hlt
      obtain ⟨ad, rfl, hb, d0⟩ := (HR.out.below B.out).int hkl
      have hz := HE.out _ (List.getElem_mem hkl)
      have ET := Lib.hid (begsZ_take l whole rev hkl)
      have ES := Lib.hid (sumC_take l hkl)
      have h0 := HB.out k
      have h1 := HB.out (k + 1)
      rw [ES.out] at h1
      obtain ⟨z, hze⟩ : ∃ z, l[k] = z := ⟨_, rfl⟩
      rw [hze] at d0 hz ET ES h1
      obtain ⟨s, hs⟩ : ∃ s, (l.take k).sum = s := ⟨_, rfl⟩
      rw [hs] at h0 h1 ET ES ⊢
      have HZ := Lib.hid hze
      clear hze hs
      have n1 : -9223372036854775808 ≤ whole - s ∧ whole - s ≤ 9223372036854775807 := by omega
      have n2 : -9223372036854775808 ≤ whole - s - z ∧ whole - s - z ≤ 9223372036854775807 := by omega
      have n3 : -9223372036854775808 ≤ s + z ∧ s + z ≤ 9223372036854775807 := by omega
      cases rev
      · have ES2 : Hid (i64s ((begsZ l whole false).take (k + 1)) = i64s ((begsZ l whole false).take k) ++ [.int .i64 (s)]) := Lib.hid (by rw [ET.out, i64s_append]; rfl)
        have O1 := Lib.hid (own_below O.out ((Below.refl _ w1).alloc (Nat.le_refl _) (.cells #[.int .i64 (s)] 2)) (Nat.le_refl _))
        have B1 := Lib.hid (B.out.alloc B.out.size (.cells #[.int .i64 (s)] 2))
        have W1 := Lib.hid (Whole.mk w1 2 #[.int .i64 (s)])
        clear O
        go_upto_region 10 with (at_builtin; refine wpList_pushOne rfl (.tmp 27) (.tmp 29) _ rfl W.heap.size 2 1 8 (.int .i64 0) Try.underlying27 i64o_info rfl (by decide) k (.slice A1 k c1) _ rfl O1.out B1.out.size w1.heap.size [.int .i64 (s)] rfl W1.out rfl (by simp [Value.oneCell']) (by unfold maxLen; omega) (by omega) ?_; intro A5 c5 w5 h5 ho5 hk5)
        have O5 : Hid (w5.ownsRow W.heap.size 2 1 (.slice A5 (k + 1) c5) (k + 1) (i64s ((begsZ l whole false).take (k + 1)))) := Lib.hid (by rw [ES2.out]; exact h5)
        have B5 := Lib.hid (own_push O1.out B1.out B1.out.size ho5)
        clear h5 ho5 hk5 O1 B1 W1 d0
        obtain ⟨ad5, he5, -, d5⟩ := (HR.out.below B5.out).int hkl
        injection he5 with he5
        subst he5
        rw [HZ.out] at d5
        go_wp2_with fail
        go_roundw
        case rel => exact ⟨k + 1, A5, c5, by go_num, by rw [ES.out], by go_num, by omega, O5, B5⟩
        case measure => simp [intOf] <;> omega
      · have ES2 : Hid (i64s ((begsZ l whole true).take (k + 1)) = i64s ((begsZ l whole true).take k) ++ [.int .i64 (whole - s - z)]) := Lib.hid (by rw [ET.out, i64s_append]; rfl)
        have O1 := Lib.hid (own_below O.out ((Below.refl _ w1).alloc (Nat.le_refl _) (.cells #[.int .i64 (whole - s - z)] 2)) (Nat.le_refl _))
        have B1 := Lib.hid (B.out.alloc B.out.size (.cells #[.int .i64 (whole - s - z)] 2))
        have W1 := Lib.hid (Whole.mk w1 2 #[.int .i64 (whole - s - z)])
        clear O
        go_upto_region 10 with (at_builtin; refine wpList_pushOne rfl (.tmp 27) (.tmp 29) _ rfl W.heap.size 2 1 8 (.int .i64 0) Try.underlying27 i64o_info rfl (by decide) k (.slice A1 k c1) _ rfl O1.out B1.out.size w1.heap.size [.int .i64 (whole - s - z)] rfl W1.out rfl (by simp [Value.oneCell']) (by unfold maxLen; omega) (by omega) ?_; intro A5 c5 w5 h5 ho5 hk5)
        have O5 : Hid (w5.ownsRow W.heap.size 2 1 (.slice A5 (k + 1) c5) (k + 1) (i64s ((begsZ l whole true).take (k + 1)))) := Lib.hid (by rw [ES2.out]; exact h5)
        have B5 := Lib.hid (own_push O1.out B1.out B1.out.size ho5)
        clear h5 ho5 hk5 O1 B1 W1 d0
        obtain ⟨ad5, he5, -, d5⟩ := (HR.out.below B5.out).int hkl
        injection he5 with he5
        subst he5
        rw [HZ.out] at d5
        go_wp2_with fail
        go_roundw
        case rel => exact ⟨k + 1, A5, c5, by go_num, by rw [ES.out], by go_num, by omega, O5, B5⟩
        case measure => simp [intOf] <;> omega
    · obtain rfl : n = k := by omega
      have hltz : ¬ (n : Int) < n := by omega
      have e1 : (begsZ l whole rev).take n = begsZ l whole rev := List.take_of_length_le (by rw [BL.out, HN.out]; omega)
      rw [e1] at O
      go_wp2_with fail
      go_ret
      exact ⟨A1, c1, rfl, O.out, B.out⟩
end Go.Proofs.Ythneapnijfmpmaa
