import Derived.Test.YtcdjdpgjflhjiaaShare
/- unit.Add by its contract; quoinlaw1.awake answers true; Tame. -/
namespace Go.Proofs.Ytcdjdpgjflhjiaa
open Go.RowKit
set_option linter.unusedVariables false
set_option linter.unusedSimpArgs false

def addZ (zs : List Int) : Int := zs.foldl (fun s z => holdZ (s + holdZ z)) 0
theorem addZ_take (zs : List Int) (k : Nat) (h : k < zs.length) : addZ (zs.take (k + 1)) = holdZ (addZ (zs.take k) + holdZ zs[k]) := by
  unfold addZ
  rw [take_succ' zs k h, List.foldl_append]
  rfl
theorem addZ_bd (zs : List Int) : -1073741824 ≤ addZ zs ∧ addZ zs ≤ 1073741824 := by
  rcases List.eq_nil_or_concat zs with rfl | ⟨l, z, rfl⟩
  · simp [addZ]
  · have : addZ (l ++ [z]) = holdZ (addZ l + holdZ z) := by simp [addZ]
    rw [List.concat_eq_append, this]
    exact hold_bd _
def ints64 (zs : List Int) : Prop := ∀ k (h : k < zs.length), -9223372036854775808 ≤ zs[k] ∧ zs[k] ≤ 9223372036854775807

theorem add_any (A : Option Addr) (c : Nat) (zs : List Int) (w : World) (B : Nat) (hr : Row w B A (i64s zs)) (hz : ints64 zs) (hm : zs.length ≤ 9223372036854775807) :
    Calls Try.prog 11 #[.slice A zs.length c] w fun e w' => e = .returned (.int .i64 (addZ zs)) ∧ w = w' := by
  have HZ := Lib.hid hz
  clear hz
  go_enter Try.func11, Try.ntmps11
  go_wp2
  go_loop [3, 8] (fun t i => ∃ k : Nat, k ≤ zs.length ∧ i = .int .i64 k ∧ t = .int .i64 (addZ (zs.take k))) (fun _ i => zs.length - (intOf i).toNat)
  case atStart => exact ⟨0, Nat.zero_le _, rfl, by simp [addZ]⟩
  case round =>
    obtain ⟨k, hk, rfl, rfl⟩ := hrel
    by_cases hlt : k < zs.length
    · obtain ⟨ad, rfl, _, hc⟩ := hr.int hlt
      obtain ⟨h1, h2⟩ := HZ.out k hlt
      obtain ⟨h3, h4⟩ := addZ_bd (zs.take k)
      have hs := Lib.hid (addZ_take zs k hlt)
      clear hr HZ
      generalize zs[k] = z at *
      obtain ⟨h5, h6⟩ := hold_bd z
      go_wp2_with (go_at_call 10; refine (hold_any _ _ (by omega) (by omega)).mono ?_; rintro e w' ⟨rfl, rfl⟩)
      go_round
      case rel => exact ⟨k + 1, by omega, by go_num, by rw [hs.out]⟩
      case measure => simp [intOf]; omega
    · go_wp2
      obtain rfl : k = zs.length := by omega
      go_ret
      exact ⟨ret_int (by rw [List.take_length]), rfl⟩

theorem add_n (A : Option Addr) (c n : Nat) (zs : List Int) (w : World) (B : Nat) (hn : zs.length = n) (hr : Row w B A (i64s zs)) (hz : ints64 zs) (hm : n ≤ 9223372036854775807) :
    Calls Try.prog 11 #[.slice A n c] w fun e w' => e = .returned (.int .i64 (addZ zs)) ∧ w = w' := by
  subst hn; exact add_any A c zs w B hr hz hm
theorem ints64_take (zs : List Int) (h : ints64 zs) (k : Nat) : ints64 (zs.take k) := fun i hi => by
  rw [List.getElem_take]; exact h i (by simp at hi; omega)
theorem ints64_mem (zs : List Int) : ints64 zs ↔ ∀ z ∈ zs, -9223372036854775808 ≤ z ∧ z ≤ 9223372036854775807 := by
  constructor
  · intro h z hz
    obtain ⟨i, hi, rfl⟩ := List.getElem_of_mem hz
    exact h i hi
  · intro h k hk; exact h _ (List.getElem_mem hk)

theorem awake_any (w : World) :
    Calls Try.prog 9 #[] w fun e w' => e = .returned (.bool true) ∧ Below w.heap.size w w' := by
  have e1 : (pxZ 1500 == 96) = true := by decide
  have e2 : (pxZ (-8) == -1) = true := by decide
  have e3 : (pctZ 100 3333 == 33) = true := by decide
  have e4 : (addZ [1099511627776, 1, -1] == 1073741823) = true := by decide
  have e5 : (holdZ (-1099511627776) == -1073741824) = true := by decide
  have e6 : (ratZ (-10) 1 3 == -4) = true := by decide
  have e7 : shareOk 10 [1, 1, 1] = true := by decide
  have r1 := row_new w #[.int .i64 1, .int .i64 1, .int .i64 1] 2
  go_enter Try.func9, Try.ntmps9
  have s0 : shareAt 10 [1, 1, 1] 0 = 3 := by decide
  have s1 : shareAt 10 [1, 1, 1] 1 = 3 := by decide
  have s2 : shareAt 10 [1, 1, 1] 2 = 4 := by decide
  have S := Lib.hid (And.intro s0 (And.intro s1 s2))
  have hz : ints64 [1099511627776, 1, -1] := by
    intro k hk
    match k, hk with
    | 0, _ => simp
    | 1, _ => simp
    | 2, _ => simp
  clear s0 s1 s2
  go_wp2_with (go_at_call 13; refine (share_yes 10 _ 3 [1, 1, 1] _ (w.heap.size + 1) (by simp) r1 e7).mono ?_; rintro e w1 ⟨rfl, hrow, hb⟩)
  have hb' : Below w.heap.size w w1 := (((Below.refl _ _).alloc (Nat.le_refl _) _).trans (hb.mono (by simp)))
  have hlt := hrow.lt
  have c0 := hrow.cell (i := 0) (by decide)
  have c1 := hrow.cell (i := 1) (by decide)
  have c2 := hrow.cell (i := 2) (by decide)
  simp only [S.out.1, S.out.2.1, S.out.2.2, World.size_alloc] at c0 c1 c2 hlt
  have r2 := row_new w1 #[.int .i64 1099511627776, .int .i64 1, .int .i64 (-1)] 2
  have HB := Lib.hid hb'
  clear hrow hb hb' r1 e7
  go_wp2_with (first
    | (go_at_call 16; refine (px_any _ _ (by omega) (by omega)).mono ?_; rintro e w' ⟨rfl, rfl⟩)
    | (go_at_call 18; refine (pct_any _ _ _ (by omega) (by omega) (by omega) (by omega)).mono ?_; rintro e w' ⟨rfl, rfl⟩)
    | (go_at_call 10; refine (hold_any _ _ (by omega) (by omega)).mono ?_; rintro e w' ⟨rfl, rfl⟩)
    | (go_at_call 11; refine (add_any _ 3 [1099511627776, 1, -1] _ _ r2 hz (by decide)).mono ?_; rintro e w' ⟨rfl, rfl⟩)
    | (go_at_call 12; refine (ratio_any _ _ _ _).mono ?_; rintro e w' ⟨rfl, kk, rfl⟩))
  go_ret
  exact ⟨rfl, Below.drewN' (HB.out.alloc HB.out.size _) _⟩

/-- Tame's number. -/
def tameZ (n m : Int) : Int := if n % 4 = 0 then (n / 4) % 256 else n.tmod (m + 1)
theorem and3 (n : Int) : bits .and .i64 n 3 = n % 4 := and_mask_i64 n 2 (by decide)
theorem and255 (n : Int) : bits .and .i64 n 255 = n % 256 := and_mask_i64 n 8 (by decide)
theorem tame_any (n m : Int) (w : World) (h0 : -9223372036854775808 ≤ n) (h1 : n ≤ 9223372036854775807) (hm0 : 1 ≤ m) (hm : m ≤ 4611686018427387904) :
    Calls Try.prog 23 #[.int .i64 n, .int .i64 m] w fun e w' => e = .returned (.int .i64 (tameZ n m)) ∧ w = w' := by
  have a1 := and3 n
  have a2 := and255 (n / 4)
  by_cases h : n % 4 = 0
  · have t : tameZ n m = n / 4 % 256 := by simp [tameZ, h]
    go_enter Try.func23, Try.ntmps23
    go_wp2
    go_ret
    exact ⟨ret_int t.symm, rfl⟩
  · have t : tameZ n m = n.tmod (m + 1) := by simp [tameZ, h]
    go_enter Try.func23, Try.ntmps23
    go_wp2
    go_ret
    exact ⟨ret_int t.symm, rfl⟩
theorem tameZ_bd (n m : Int) (hm : 255 ≤ m) : -m ≤ tameZ n m ∧ tameZ n m ≤ m := by
  unfold tameZ
  split
  · omega
  · have h1 := Int.tmod_lt_of_pos n (show 0 < m + 1 by omega)
    have h2 := Int.lt_tmod_of_pos n (show 0 < m + 1 by omega)
    omega
end Go.Proofs.Ytcdjdpgjflhjiaa
