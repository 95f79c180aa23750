import Derived.Test.YtbhdpfacfgldiaaGreatDoorZRQ
/- nodes.New. -/
namespace Go.Proofs.YtbhdpfacfgldiaaGreatDoor
open Go Go.RowKit
set_option linter.unusedVariables false
set_option linter.unusedSimpArgs false
set_option maxRecDepth 20000
set_option maxHeartbeats 4000000

def root0 : Nd := ⟨0, -1, false, ⟨#[]⟩, []⟩
theorem root0_ok : TreeOk [root0] := TreeOk.one (by decide +kernel)
theorem nnew_any (most : Int) (W : World) :
    Calls Tryz.prog 56 #[.int .i64 most] W fun e w' => ∃ t, e = .returned (.pointer (some ⟨t, 0, none⟩)) ∧ Tree w' W.heap.size t (mostZ most) [root0] ∧ Below W.heap.size W w' := by
  obtain ⟨m, hm⟩ : ∃ m : Int, (mostZ most : Int) = m := ⟨_, rfl⟩
  have hmm := @run_makeMap Tryz.prog
  have M0 := MapP.made Tryz.prog 3 W
  have B0 := ((((Below.refl W.heap.size W).alloc (Nat.le_refl _) (.map #[] 0)).alloc (by simp) (.cells #[.int .i64 m, .map (some W.heap.size)] 86)).alloc (by simp; omega) (.cells #[.int .i64 0, .int .i64 (-1), .bool false, .string ⟨#[]⟩, .slice none 0 0, .slice none 0 0] 88))
  have M1 := M0.only (Only.of_below (S := []) (((Below.refl _ _).alloc (Nat.le_refl _) (.cells #[.int .i64 m, .map (some W.heap.size)] 86)).alloc (by simp) (.cells #[.int .i64 0, .int .i64 (-1), .bool false, .string ⟨#[]⟩, .slice none 0 0, .slice none 0 0] 88))) (by simp)
  obtain ⟨w3, hrun, M3, O3⟩ := M1.store (t := 84) Tryz.underlying3 Tryz.underlying84 (by unfold maxLen; omega) (id := 0) (by unfold In64i; omega) (W.heap.size + 2) rfl
  have N1 := (Whole.mk (W.alloc (.map #[] 0)) 86 #[.int .i64 m, .map (some W.heap.size)]).made (.cells #[.int .i64 0, .int .i64 (-1), .bool false, .string ⟨#[]⟩, .slice none 0 0, .slice none 0 0] 88)
  have G1 := Whole.mk ((W.alloc (.map #[] 0)).alloc (.cells #[.int .i64 m, .map (some W.heap.size)] 86)) 88 #[.int .i64 0, .int .i64 (-1), .bool false, .string ⟨#[]⟩, .slice none 0 0, .slice none 0 0]
  simp only [World.size_alloc] at N1 G1
  have T3 : Hid (Tree w3 W.heap.size (W.heap.size + 1) m [root0]) := Lib.hid (by
    refine ⟨W.heap.size, _, fun _ => .slice none 0 0, fun _ => .slice none 0 0, root0_ok, ⟨by omega, Nat.le_refl _⟩, O3.whole N1 (by simp), M3, fun id => ?_, fun n hn g hg => ?_, fun n hn => ?_, fun n hn => ?_, fun i j g hi hj => ?_, fun n hn k hk g h1 h2 => ?_⟩
    · by_cases h : id = 0
      · subst h; rfl
      · have : ¬ (0 : Int) = id := fun e => h e.symm
        simp [h, hasZ, atZ, root0, this]
    · have e : n = root0 := by simpa using hn
      subst e
      have : g = W.heap.size + 2 := by
        have : some (W.heap.size + 2) = some g := hg
        injection this with this; exact this.symm
      subst this
      exact ⟨by omega, O3.whole G1 (by simp)⟩
    · have e : n = root0 := by simpa using hn
      subst e
      exact ⟨none, 0, rfl, ⟨rfl, .inl ⟨rfl, rfl⟩⟩, by simp [root0]⟩
    · have e : n = root0 := by simpa using hn
      subst e
      exact ⟨rfl, .inl ⟨rfl, rfl⟩⟩
    · by_cases h1 : i = 0
      · by_cases h2 : j = 0
        · rw [h1, h2]
        · simp [h2] at hj
      · simp [h1] at hi
    · simp [Value.ownBlock] at h1)
  have B3 := Lib.hid (B0.trans (O3.below (by simp) (by simp; omega)))
  clear M0 M1 M3 O3 N1 G1 B0
  have hmz : m = min (max most 1) 500 := by rw [← hm]; unfold mostZ; omega
  rw [hm]
  clear hm
  by_cases h1 : most < 1
  · have e : m = 1 := by omega
    clear hmz
    subst e
    go_enter Tryz.func56, Tryz.ntmps56
    go_wp2_with (rw [hrun])
    go_ret
    exact ⟨_, rfl, T3.out, B3.out⟩
  · by_cases h2 : most ≤ 500
    · have e : m = most := by omega
      clear hmz
      subst e
      go_enter Tryz.func56, Tryz.ntmps56
      go_wp2_with (rw [hrun])
      all_goals first | omega | (go_ret; exact ⟨_, rfl, T3.out, B3.out⟩)
    · have e : m = 500 := by omega
      clear hmz
      subst e
      go_enter Tryz.func56, Tryz.ntmps56
      go_wp2_with (rw [hrun])
      all_goals first | omega | (go_ret; exact ⟨_, rfl, T3.out, B3.out⟩)
end Go.Proofs.YtbhdpfacfgldiaaGreatDoor
