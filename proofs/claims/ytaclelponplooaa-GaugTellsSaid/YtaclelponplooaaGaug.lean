import Derived.Test.YtaclelponplooaaRet
import Derived.Test.YtaclelponplooaaGaugNum
import Derived.LoopTactic
/- gaug: Ok, Wide, Up. -/
namespace Go.Proofs.Ytaclelponplooaa
open Go Go.RowKit
set_option linter.unusedVariables false
set_option linter.unusedSimpArgs false
set_option maxRecDepth 20000
set_option maxHeartbeats 4000000

theorem gheld_any (n : Int) (w : World) : Calls Try.prog 14 #[.int .i64 n] w fun e w' => e = .returned (.int .i64 (advZ n)) ∧ w = w' := by
  rcases (show n < 0 ∨ (n = 0) ∨ (0 < n ∧ n ≤ 65536) ∨ 65536 < n by omega) with h | h | ⟨h, h'⟩ | h
  all_goals
    go_enter Try.func14, Try.ntmps14
    go_wp2
    all_goals (go_ret; exact ⟨ret_int (by unfold advZ; omega), rfl⟩)
theorem wide_any (zs : List Int) (hz : zs.length = 256) (s : ByteArray) (hs : s.size ≤ 1000000) (W : World) :
    Calls Try.prog 8 #[.agg (i64s zs).toArray, .string s] W fun e w' => e = .returned (.int .i64 (wideZ zs s)) ∧ Below W.heap.size W w' := by
  have HZ := Lib.hid hz
  clear hz
  have MW := Lib.hid (Whole.mk W 24 (i64s zs).toArray)
  go_enter Try.func8, Try.ntmps8
  go_wp2
  go_loop [5, 6, 9] (fun t v i => ∃ k : Nat, k ≤ s.size ∧ i = .int .i64 k ∧ t = .int .i64 (wideL zs ((bytesOf s).take k))) (fun _ _ i => s.size - (intOf i).toNat)
  case atStart => exact ⟨0, Nat.zero_le _, rfl, by simp [wideL]⟩
  case round =>
    obtain ⟨k, hk, rfl, rfl⟩ := hrel
    by_cases hlt : k < s.size
    · have hs2 := Lib.hid (wideL_take zs s k hlt)
      obtain ⟨b1, b2⟩ := wideL_bd zs ((bytesOf s).take k)
      have b3 : ((bytesOf s).take k).length ≤ 1000000 := by rw [List.length_take, bytesOf_length]; omega
      have hby : (s[k].toNat : Int) < 256 := by have := s[k].toNat_lt; omega
      have hc := MW.out.num s[k].toNat (by rw [HZ.out]; omega)
      obtain ⟨b4, b5⟩ := advZ_bd (zs.getD s[k].toNat 0)
      generalize zs.getD s[k].toNat 0 = z at *
      generalize wideL zs ((bytesOf s).take k) = t at *
      go_wp2_with (go_at_call 14; refine (gheld_any _ _).mono ?_; rintro e w' ⟨rfl, rfl⟩)
      go_round
      case rel => exact ⟨k + 1, by omega, by go_num, by rw [hs2.out]⟩
      case measure => simp [intOf]; omega
    · go_wp2
      obtain rfl : k = s.size := by omega
      go_ret
      exact ⟨ret_int (wideL_all zs s), (Below.refl _ _).alloc (Nat.le_refl _) _⟩
theorem met_flat : FlatT Try.prog 24 256 := ⟨⟨_, Try.underlying24, rfl⟩, by kernel_rfl⟩
theorem adv_flat : FlatT Try.prog 22 256 := ⟨⟨_, Try.underlying22, rfl⟩, by kernel_rfl⟩
theorem up_any (n : Int) (w : World) (hn : -9223372036854775808 ≤ n) (hn' : n ≤ 9223372036854775807) : Calls Try.prog 12 #[.int .i64 n] w fun e w' => e = .returned (.int .i64 (upZ n)) ∧ w = w' := by
  by_cases h : n < 0
  · go_enter Try.func12, Try.ntmps12
    go_wp2
    go_ret
    exact ⟨ret_int (by unfold upZ; rw [if_pos h]), rfl⟩
  · have e1 : n.tdiv 2 = n / 2 := Int.tdiv_eq_ediv_of_nonneg (by omega)
    have e2 : n.tmod 2 = n % 2 := Int.tmod_eq_emod_of_nonneg (by omega)
    go_enter Try.func12, Try.ntmps12
    go_wp2
    go_ret
    exact ⟨ret_int (by unfold upZ; rw [if_neg (by omega)]; omega), rfl⟩
theorem all_take (zs : List Int) (k : Nat) (h : k < zs.length) (hk : ∀ z ∈ zs.take k, advZ z = z) (he : advZ (zs.getD k 0) = zs.getD k 0) : ∀ z ∈ zs.take (k + 1), advZ z = z := by
  intro z hz
  rw [List.take_succ_eq_append_getElem h, List.mem_append, List.mem_singleton] at hz
  rcases hz with hz | rfl
  · exact hk z hz
  · simpa [List.getD, List.getElem?_eq_getElem h] using he
theorem okZ_true (zs : List Int) (h : ∀ z ∈ zs, advZ z = z) : okZ zs = true := by
  unfold okZ
  rw [List.all_eq_true]
  intro z hz
  have := h z hz
  unfold advZ at this
  exact decide_eq_true (by omega)
theorem okZ_false (zs : List Int) (k : Nat) (h : k < zs.length) (he : advZ (zs.getD k 0) ≠ zs.getD k 0) : okZ zs = false := by
  unfold okZ
  rw [List.all_eq_false]
  refine ⟨zs.getD k 0, by simp [List.getD, List.getElem?_eq_getElem h], ?_⟩
  unfold advZ at he
  simp only [decide_eq_true_eq]
  omega
theorem ok_any (zs : List Int) (hz : zs.length = 256) (W : World) :
    Calls Try.prog 9 #[.agg (i64s zs).toArray] W fun e w' => e = .returned (.bool (okZ zs)) ∧ Below W.heap.size W w' := by
  have HZ := Lib.hid hz
  clear hz
  have MW := Lib.hid (Whole.mk W 24 (i64s zs).toArray)
  go_enter Try.func9, Try.ntmps9
  go_wp2_with (refine flat_load adv_flat (.tmp 5) rfl rfl W.heap.size rfl zs HZ.out 24 ?_ ?_; (focus (exact MW.out)))
  go_loop [4, 7] (fun a i => ∃ k : Nat, k ≤ 256 ∧ i = .int .i64 k ∧ Hid (∀ z ∈ zs.take k, advZ z = z)) (fun _ i => 256 - (intOf i).toNat)
  case atStart => exact ⟨0, Nat.zero_le _, rfl, Lib.hid (by simp)⟩
  case round =>
    obtain ⟨k, hk, rfl, HA⟩ := hrel
    by_cases hlt : k < 256
    · have hzl : k < zs.length := by rw [HZ.out]; exact hlt
      have HS := Lib.hid (all_take zs k hzl HA.out)
      have HF := Lib.hid (okZ_false zs k hzl)
      have hg := fun w => run_index_ints (k := .i64) Try.underlying22 Try.underlying2 (by kernel_rfl) zs HZ.out k hlt w
      generalize zs.getD k 0 = z at *
      by_cases he : advZ z = z
      · have HS2 := Lib.hid (HS.out he)
        go_wp2_with (go_at_call 14; refine (gheld_any _ _).mono ?_; rintro e w' ⟨rfl, rfl⟩)
        go_round
        case rel => exact ⟨k + 1, by omega, by go_num, HS2⟩
        case measure => simp [intOf]; omega
      · have HF2 := Lib.hid (HF.out he)
        go_wp2_with (go_at_call 14; refine (gheld_any _ _).mono ?_; rintro e w' ⟨rfl, rfl⟩)
        go_ret
        exact ⟨ret_bool HF2.out.symm, (Below.refl _ _).alloc (Nat.le_refl _) _⟩
    · go_wp2
      obtain rfl : k = 256 := by omega
      have HT := Lib.hid (okZ_true zs (by have := HA.out; rw [List.take_of_length_le (by rw [HZ.out]; omega)] at this; exact this))
      go_ret
      exact ⟨ret_bool HT.out.symm, (Below.refl _ _).alloc (Nat.le_refl _) _⟩
end Go.Proofs.Ytaclelponplooaa
