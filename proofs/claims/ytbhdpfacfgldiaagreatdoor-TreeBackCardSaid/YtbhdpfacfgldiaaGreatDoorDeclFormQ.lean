import Derived.Test.YtbhdpfacfgldiaaGreatDoorZQ
import Derived.Test.YtbhdpfacfgldiaaGreatDoorZSQ
/- decl: what values a Prop has. -/
namespace Go.Proofs.YtbhdpfacfgldiaaGreatDoor
open Go Go.RowKit
set_option linter.unusedVariables false
set_option linter.unusedSimpArgs false
set_option maxRecDepth 20000
set_option maxHeartbeats 4000000

def autoS (p : Int) : ByteArray := if (12 ≤ p ∧ p ≤ 19) ∨ p = 31 ∨ p = 4 ∨ p = 5 then ⟨#[]⟩ else if p = 6 ∨ p = 7 then ⟨#[110, 111, 110, 101]⟩ else ⟨#[97, 117, 116, 111]⟩
def pctF (p : Int) : Bool := !decide ((12 ≤ p ∧ p ≤ 19) ∨ p = 31)
def minF (p : Int) : Bool := decide (8 ≤ p ∧ p ≤ 11)
def lenV (p : Int) : Value := .agg #[.string (autoS p), .bool (pctF p), .bool (minF p)]
def lenP (p : Int) : Prop := (2 ≤ p ∧ p ≤ 19) ∨ p = 22 ∨ p = 31
def LenPost (p : Int) (W : World) (e : Ending) (w' : World) : Prop := e = .returned (.agg #[.string (autoS p), .bool (pctF p), .bool (minF p)]) ∧ Below W.heap.size W w'
theorem lengthOf_2 (W : World) : Calls Tryz.prog 92 #[.int .i64 2] W fun e w' => LenPost 2 W e w' := by
  go_enter Tryz.func92, Tryz.ntmps92
  go_wp2
  exact bodyPost_ret (v := .agg #[.string ⟨#[97, 117, 116, 111]⟩, .bool true, .bool false]) (by simp [results, Tryz.results92, go_sem]) rfl ⟨rfl, ((Below.refl _ _).alloc (Nat.le_refl _) _).alloc (by simp) _⟩
theorem lengthOf_3 (W : World) : Calls Tryz.prog 92 #[.int .i64 3] W fun e w' => LenPost 3 W e w' := by
  go_enter Tryz.func92, Tryz.ntmps92
  go_wp2
  exact bodyPost_ret (v := .agg #[.string ⟨#[97, 117, 116, 111]⟩, .bool true, .bool false]) (by simp [results, Tryz.results92, go_sem]) rfl ⟨rfl, ((Below.refl _ _).alloc (Nat.le_refl _) _).alloc (by simp) _⟩
theorem lengthOf_4 (W : World) : Calls Tryz.prog 92 #[.int .i64 4] W fun e w' => LenPost 4 W e w' := by
  go_enter Tryz.func92, Tryz.ntmps92
  go_wp2
  exact bodyPost_ret (v := .agg #[.string ⟨#[]⟩, .bool true, .bool false]) (by simp [results, Tryz.results92, go_sem]) rfl ⟨rfl, ((Below.refl _ _).alloc (Nat.le_refl _) _).alloc (by simp) _⟩
theorem lengthOf_5 (W : World) : Calls Tryz.prog 92 #[.int .i64 5] W fun e w' => LenPost 5 W e w' := by
  go_enter Tryz.func92, Tryz.ntmps92
  go_wp2
  exact bodyPost_ret (v := .agg #[.string ⟨#[]⟩, .bool true, .bool false]) (by simp [results, Tryz.results92, go_sem]) rfl ⟨rfl, ((Below.refl _ _).alloc (Nat.le_refl _) _).alloc (by simp) _⟩
theorem lengthOf_6 (W : World) : Calls Tryz.prog 92 #[.int .i64 6] W fun e w' => LenPost 6 W e w' := by
  go_enter Tryz.func92, Tryz.ntmps92
  go_wp2
  exact bodyPost_ret (v := .agg #[.string ⟨#[110, 111, 110, 101]⟩, .bool true, .bool false]) (by simp [results, Tryz.results92, go_sem]) rfl ⟨rfl, ((Below.refl _ _).alloc (Nat.le_refl _) _).alloc (by simp) _⟩
theorem lengthOf_7 (W : World) : Calls Tryz.prog 92 #[.int .i64 7] W fun e w' => LenPost 7 W e w' := by
  go_enter Tryz.func92, Tryz.ntmps92
  go_wp2
  exact bodyPost_ret (v := .agg #[.string ⟨#[110, 111, 110, 101]⟩, .bool true, .bool false]) (by simp [results, Tryz.results92, go_sem]) rfl ⟨rfl, ((Below.refl _ _).alloc (Nat.le_refl _) _).alloc (by simp) _⟩
theorem lengthOf_8 (W : World) : Calls Tryz.prog 92 #[.int .i64 8] W fun e w' => LenPost 8 W e w' := by
  go_enter Tryz.func92, Tryz.ntmps92
  go_wp2
  exact bodyPost_ret (v := .agg #[.string ⟨#[97, 117, 116, 111]⟩, .bool true, .bool true]) (by simp [results, Tryz.results92, go_sem]) rfl ⟨rfl, ((Below.refl _ _).alloc (Nat.le_refl _) _).alloc (by simp) _⟩
theorem lengthOf_9 (W : World) : Calls Tryz.prog 92 #[.int .i64 9] W fun e w' => LenPost 9 W e w' := by
  go_enter Tryz.func92, Tryz.ntmps92
  go_wp2
  exact bodyPost_ret (v := .agg #[.string ⟨#[97, 117, 116, 111]⟩, .bool true, .bool true]) (by simp [results, Tryz.results92, go_sem]) rfl ⟨rfl, ((Below.refl _ _).alloc (Nat.le_refl _) _).alloc (by simp) _⟩
theorem lengthOf_10 (W : World) : Calls Tryz.prog 92 #[.int .i64 10] W fun e w' => LenPost 10 W e w' := by
  go_enter Tryz.func92, Tryz.ntmps92
  go_wp2
  exact bodyPost_ret (v := .agg #[.string ⟨#[97, 117, 116, 111]⟩, .bool true, .bool true]) (by simp [results, Tryz.results92, go_sem]) rfl ⟨rfl, ((Below.refl _ _).alloc (Nat.le_refl _) _).alloc (by simp) _⟩
theorem lengthOf_11 (W : World) : Calls Tryz.prog 92 #[.int .i64 11] W fun e w' => LenPost 11 W e w' := by
  go_enter Tryz.func92, Tryz.ntmps92
  go_wp2
  exact bodyPost_ret (v := .agg #[.string ⟨#[97, 117, 116, 111]⟩, .bool true, .bool true]) (by simp [results, Tryz.results92, go_sem]) rfl ⟨rfl, ((Below.refl _ _).alloc (Nat.le_refl _) _).alloc (by simp) _⟩
theorem lengthOf_12 (W : World) : Calls Tryz.prog 92 #[.int .i64 12] W fun e w' => LenPost 12 W e w' := by
  go_enter Tryz.func92, Tryz.ntmps92
  go_wp2
  exact bodyPost_ret (v := .agg #[.string ⟨#[]⟩, .bool false, .bool false]) (by simp [results, Tryz.results92, go_sem]) rfl ⟨rfl, ((Below.refl _ _).alloc (Nat.le_refl _) _).alloc (by simp) _⟩
theorem lengthOf_13 (W : World) : Calls Tryz.prog 92 #[.int .i64 13] W fun e w' => LenPost 13 W e w' := by
  go_enter Tryz.func92, Tryz.ntmps92
  go_wp2
  exact bodyPost_ret (v := .agg #[.string ⟨#[]⟩, .bool false, .bool false]) (by simp [results, Tryz.results92, go_sem]) rfl ⟨rfl, ((Below.refl _ _).alloc (Nat.le_refl _) _).alloc (by simp) _⟩
theorem lengthOf_14 (W : World) : Calls Tryz.prog 92 #[.int .i64 14] W fun e w' => LenPost 14 W e w' := by
  go_enter Tryz.func92, Tryz.ntmps92
  go_wp2
  exact bodyPost_ret (v := .agg #[.string ⟨#[]⟩, .bool false, .bool false]) (by simp [results, Tryz.results92, go_sem]) rfl ⟨rfl, ((Below.refl _ _).alloc (Nat.le_refl _) _).alloc (by simp) _⟩
theorem lengthOf_15 (W : World) : Calls Tryz.prog 92 #[.int .i64 15] W fun e w' => LenPost 15 W e w' := by
  go_enter Tryz.func92, Tryz.ntmps92
  go_wp2
  exact bodyPost_ret (v := .agg #[.string ⟨#[]⟩, .bool false, .bool false]) (by simp [results, Tryz.results92, go_sem]) rfl ⟨rfl, ((Below.refl _ _).alloc (Nat.le_refl _) _).alloc (by simp) _⟩
theorem lengthOf_16 (W : World) : Calls Tryz.prog 92 #[.int .i64 16] W fun e w' => LenPost 16 W e w' := by
  go_enter Tryz.func92, Tryz.ntmps92
  go_wp2
  exact bodyPost_ret (v := .agg #[.string ⟨#[]⟩, .bool false, .bool false]) (by simp [results, Tryz.results92, go_sem]) rfl ⟨rfl, ((Below.refl _ _).alloc (Nat.le_refl _) _).alloc (by simp) _⟩
theorem lengthOf_17 (W : World) : Calls Tryz.prog 92 #[.int .i64 17] W fun e w' => LenPost 17 W e w' := by
  go_enter Tryz.func92, Tryz.ntmps92
  go_wp2
  exact bodyPost_ret (v := .agg #[.string ⟨#[]⟩, .bool false, .bool false]) (by simp [results, Tryz.results92, go_sem]) rfl ⟨rfl, ((Below.refl _ _).alloc (Nat.le_refl _) _).alloc (by simp) _⟩
theorem lengthOf_18 (W : World) : Calls Tryz.prog 92 #[.int .i64 18] W fun e w' => LenPost 18 W e w' := by
  go_enter Tryz.func92, Tryz.ntmps92
  go_wp2
  exact bodyPost_ret (v := .agg #[.string ⟨#[]⟩, .bool false, .bool false]) (by simp [results, Tryz.results92, go_sem]) rfl ⟨rfl, ((Below.refl _ _).alloc (Nat.le_refl _) _).alloc (by simp) _⟩
theorem lengthOf_19 (W : World) : Calls Tryz.prog 92 #[.int .i64 19] W fun e w' => LenPost 19 W e w' := by
  go_enter Tryz.func92, Tryz.ntmps92
  go_wp2
  exact bodyPost_ret (v := .agg #[.string ⟨#[]⟩, .bool false, .bool false]) (by simp [results, Tryz.results92, go_sem]) rfl ⟨rfl, ((Below.refl _ _).alloc (Nat.le_refl _) _).alloc (by simp) _⟩
theorem lengthOf_22 (W : World) : Calls Tryz.prog 92 #[.int .i64 22] W fun e w' => LenPost 22 W e w' := by
  go_enter Tryz.func92, Tryz.ntmps92
  go_wp2
  exact bodyPost_ret (v := .agg #[.string ⟨#[97, 117, 116, 111]⟩, .bool true, .bool false]) (by simp [results, Tryz.results92, go_sem]) rfl ⟨rfl, ((Below.refl _ _).alloc (Nat.le_refl _) _).alloc (by simp) _⟩
theorem lengthOf_31 (W : World) : Calls Tryz.prog 92 #[.int .i64 31] W fun e w' => LenPost 31 W e w' := by
  go_enter Tryz.func92, Tryz.ntmps92
  go_wp2
  exact bodyPost_ret (v := .agg #[.string ⟨#[]⟩, .bool false, .bool false]) (by simp [results, Tryz.results92, go_sem]) rfl ⟨rfl, ((Below.refl _ _).alloc (Nat.le_refl _) _).alloc (by simp) _⟩
theorem lengthOf_any (p : Int) (hp : lenP p) (W : World) : Calls Tryz.prog 92 #[.int .i64 p] W fun e w' => LenPost p W e w' := by
  unfold lenP at hp
  rcases (show p = 2 ∨ p = 3 ∨ p = 4 ∨ p = 5 ∨ p = 6 ∨ p = 7 ∨ p = 8 ∨ p = 9 ∨ p = 10 ∨ p = 11 ∨ p = 12 ∨ p = 13 ∨ p = 14 ∨ p = 15 ∨ p = 16 ∨ p = 17 ∨ p = 18 ∨ p = 19 ∨ p = 22 ∨ p = 31 by omega) with rfl | rfl | rfl | rfl | rfl | rfl | rfl | rfl | rfl | rfl | rfl | rfl | rfl | rfl | rfl | rfl | rfl | rfl | rfl | rfl
  · exact lengthOf_2 W
  · exact lengthOf_3 W
  · exact lengthOf_4 W
  · exact lengthOf_5 W
  · exact lengthOf_6 W
  · exact lengthOf_7 W
  · exact lengthOf_8 W
  · exact lengthOf_9 W
  · exact lengthOf_10 W
  · exact lengthOf_11 W
  · exact lengthOf_12 W
  · exact lengthOf_13 W
  · exact lengthOf_14 W
  · exact lengthOf_15 W
  · exact lengthOf_16 W
  · exact lengthOf_17 W
  · exact lengthOf_18 W
  · exact lengthOf_19 W
  · exact lengthOf_22 W
  · exact lengthOf_31 W
def FormWords (w0 : World) (p : Int) (e : Ending) (w : World) : Prop := ∃ A, e = .returned (.iface 131 (.slice (some A) (wordsS p).length (wordsS p).length)) ∧ Row w (w0.heap.size + 1) (some A) (strs (wordsS p)) ∧ Below w0.heap.size w0 w
theorem formWords_mk (W : World) (p : Int) (cs : Array Value) (n : Nat) (hn : (wordsS p).length = n) (t : TypeId) (h : strs (wordsS p) = cs.toList) : FormWords W p (.returned (.iface 131 (.slice (some ⟨W.heap.size, 0, none⟩) n n))) (W.alloc (.cells cs t)) := by
  subst hn
  exact ⟨_, rfl, h ▸ row_new W cs t, (Below.refl _ _).alloc (Nat.le_refl _) _⟩
theorem formOf_w1 (W : World) : Calls Tryz.prog 82 #[.int .i64 1] W fun e w' => FormWords W 1 e w' := by
  go_enter Tryz.func82, Tryz.ntmps82
  go_wp2
  go_ret
  exact formWords_mk W 1 _ 4 rfl 9 rfl
theorem formOf_w20 (W : World) : Calls Tryz.prog 82 #[.int .i64 20] W fun e w' => FormWords W 20 e w' := by
  go_enter Tryz.func82, Tryz.ntmps82
  go_wp2
  go_ret
  exact formWords_mk W 20 _ 4 rfl 9 rfl
theorem formOf_w21 (W : World) : Calls Tryz.prog 82 #[.int .i64 21] W fun e w' => FormWords W 21 e w' := by
  go_enter Tryz.func82, Tryz.ntmps82
  go_wp2
  go_ret
  exact formWords_mk W 21 _ 3 rfl 9 rfl
theorem formOf_w26 (W : World) : Calls Tryz.prog 82 #[.int .i64 26] W fun e w' => FormWords W 26 e w' := by
  go_enter Tryz.func82, Tryz.ntmps82
  go_wp2
  go_ret
  exact formWords_mk W 26 _ 5 rfl 9 rfl
theorem formOf_w27 (W : World) : Calls Tryz.prog 82 #[.int .i64 27] W fun e w' => FormWords W 27 e w' := by
  go_enter Tryz.func82, Tryz.ntmps82
  go_wp2
  go_ret
  exact formWords_mk W 27 _ 4 rfl 9 rfl
theorem formOf_w28 (W : World) : Calls Tryz.prog 82 #[.int .i64 28] W fun e w' => FormWords W 28 e w' := by
  go_enter Tryz.func82, Tryz.ntmps82
  go_wp2
  go_ret
  exact formWords_mk W 28 _ 5 rfl 9 rfl
theorem formOf_w29 (W : World) : Calls Tryz.prog 82 #[.int .i64 29] W fun e w' => FormWords W 29 e w' := by
  go_enter Tryz.func82, Tryz.ntmps82
  go_wp2
  go_ret
  exact formWords_mk W 29 _ 3 rfl 9 rfl
theorem formOf_w30 (W : World) : Calls Tryz.prog 82 #[.int .i64 30] W fun e w' => FormWords W 30 e w' := by
  go_enter Tryz.func82, Tryz.ntmps82
  go_wp2
  go_ret
  exact formWords_mk W 30 _ 3 rfl 9 rfl
theorem formOf_w32 (W : World) : Calls Tryz.prog 82 #[.int .i64 32] W fun e w' => FormWords W 32 e w' := by
  go_enter Tryz.func82, Tryz.ntmps82
  go_wp2
  go_ret
  exact formWords_mk W 32 _ 2 rfl 9 rfl
theorem formOf_words (p : Int) (h : p = 1 ∨ p = 20 ∨ p = 21 ∨ p = 26 ∨ p = 27 ∨ p = 28 ∨ p = 29 ∨ p = 30 ∨ p = 32) (W : World) : Calls Tryz.prog 82 #[.int .i64 p] W fun e w' => FormWords W p e w' := by
  rcases h with rfl | rfl | rfl | rfl | rfl | rfl | rfl | rfl | rfl
  · exact formOf_w1 W
  · exact formOf_w20 W
  · exact formOf_w21 W
  · exact formOf_w26 W
  · exact formOf_w27 W
  · exact formOf_w28 W
  · exact formOf_w29 W
  · exact formOf_w30 W
  · exact formOf_w32 W
theorem formOf_whole (p : Int) (h : p = 23 ∨ p = 24) (W : World) : Calls Tryz.prog 82 #[.int .i64 p] W fun e w' => e = .returned (.iface 133 (.agg #[.int .i64 0, .int .i64 100])) ∧ W = w' := by
  rcases h with rfl | rfl
  all_goals
    go_enter Tryz.func82, Tryz.ntmps82
    go_wp2
    go_ret
    exact ⟨rfl, rfl⟩
theorem formOf_order (W : World) : Calls Tryz.prog 82 #[.int .i64 25] W fun e w' => e = .returned (.iface 133 (.agg #[.int .i64 (-1000), .int .i64 1000])) ∧ W = w' := by
  go_enter Tryz.func82, Tryz.ntmps82
  go_wp2
  go_ret
  exact ⟨rfl, rfl⟩
theorem formOf_out (p : Int) (h : p < 1 ∨ 32 < p) (W : World) : Calls Tryz.prog 82 #[.int .i64 p] W fun e w' => e = .returned .nilIface ∧ W = w' := by
  have h1 : p ≠ 1 := by omega
  have h2 : p ≠ 20 := by omega
  have h3 : p ≠ 21 := by omega
  have h4 : p ≠ 26 := by omega
  have h5 : p ≠ 27 := by omega
  have h6 : p ≠ 28 := by omega
  have h7 : p ≠ 29 := by omega
  have h8 : p ≠ 30 := by omega
  have h9 : p ≠ 32 := by omega
  have ha : p ≠ 23 := by omega
  have hb : p ≠ 24 := by omega
  have hc : p ≠ 25 := by omega
  rcases h with h | h
  · go_enter Tryz.func82, Tryz.ntmps82
    go_wp2
    go_ret
    exact ⟨rfl, rfl⟩
  · have h0 : ¬ p < 1 := by omega
    go_enter Tryz.func82, Tryz.ntmps82
    go_wp2
    go_ret
    exact ⟨rfl, rfl⟩
theorem formOf_length (p : Int) (h : lenP p) (W : World) : Calls Tryz.prog 82 #[.int .i64 p] W fun e w' => e = .returned (.iface 135 (.agg #[.string (autoS p), .bool (pctF p), .bool (minF p)])) ∧ Below W.heap.size W w' := by
  have hp := h
  unfold lenP at h
  have h1 : p ≠ 1 := by omega
  have h2 : p ≠ 20 := by omega
  have h3 : p ≠ 21 := by omega
  have h4 : p ≠ 26 := by omega
  have h5 : p ≠ 27 := by omega
  have h6 : p ≠ 28 := by omega
  have h7 : p ≠ 29 := by omega
  have h8 : p ≠ 30 := by omega
  have h9 : p ≠ 32 := by omega
  have ha : p ≠ 23 := by omega
  have hb : p ≠ 24 := by omega
  have hc : p ≠ 25 := by omega
  have h0 : ¬ p < 1 := by omega
  have hd : p ≤ 32 := by omega
  have HP := Lib.hid hp
  clear h hp
  go_enter Tryz.func82, Tryz.ntmps82
  go_wp2_with (go_at_call 92; refine (lengthOf_any p HP.out _).mono ?_; rintro e w1 ⟨rfl, b⟩; have B := Lib.hid b; clear b)
  go_ret
  exact ⟨rfl, B.out⟩
def wordsB (m : Nat) (w k n : Int) : Bool := decide (0 ≤ w ∧ w < m ∧ k = 0 ∧ n = 0)
def wholeB (lo hi w k n : Int) : Bool := decide (lo ≤ w ∧ w ≤ hi ∧ k = 0 ∧ n = 0)
def holdsB (mn : Bool) (n most : Int) : Bool := decide ((mn = true ∨ 0 ≤ n) ∧ -most ≤ n ∧ n ≤ most)
theorem wordsHas_any (A : Option Addr) (m : Nat) (p w k n : Int) (hm : m ≤ 5) (W : World) : Calls Tryz.prog 119 #[.slice A m m, .agg #[.int .i64 p, .int .i64 w, .int .i64 k, .int .i64 n]] W fun e w' => e = .returned (.bool (wordsB m w k n)) ∧ Below W.heap.size W w' := by
  go_enter Tryz.func119, Tryz.ntmps119
  go_wp2
  all_goals
    go_ret
    refine ⟨ret_bool ?_, (Below.refl _ _).alloc (Nat.le_refl _) _⟩
    unfold wordsB
    first | (rw [decide_eq_decide]; omega) | (exact (decide_eq_false (by omega)).symm) | (exact (decide_eq_true (by omega)).symm)
theorem wholeHas_any (lo hi p w k n : Int) (W : World) : Calls Tryz.prog 122 #[.agg #[.int .i64 lo, .int .i64 hi], .agg #[.int .i64 p, .int .i64 w, .int .i64 k, .int .i64 n]] W fun e w' => e = .returned (.bool (wholeB lo hi w k n)) ∧ Below W.heap.size W w' := by
  go_enter Tryz.func122, Tryz.ntmps122
  go_wp2
  all_goals
    go_ret
    refine ⟨ret_bool ?_, ((Below.refl _ _).alloc (Nat.le_refl _) _).alloc (by simp) _⟩
    unfold wholeB
    first | (rw [decide_eq_decide]; omega) | (exact (decide_eq_false (by omega)).symm) | (exact (decide_eq_true (by omega)).symm)
theorem holds_any (a : ByteArray) (pc mn : Bool) (n most : Int) (h0 : 0 ≤ most) (h1 : most ≤ 6400000) (W : World) : Calls Tryz.prog 140 #[.agg #[.string a, .bool pc, .bool mn], .int .i64 n, .int .i64 most] W fun e w' => e = .returned (.bool (holdsB mn n most)) ∧ Below W.heap.size W w' := by
  cases mn
  all_goals
    go_enter Tryz.func140, Tryz.ntmps140
    go_wp2
    all_goals
      go_ret
      refine ⟨ret_bool ?_, (Below.refl _ _).alloc (Nat.le_refl _) _⟩
      unfold holdsB
      first | (rw [decide_eq_decide]; simp; omega) | (exact (decide_eq_false (by simp; omega)).symm) | (exact (decide_eq_true (by simp; omega)).symm) | (exact (decide_eq_false (by omega)).symm) | (exact (decide_eq_true (by omega)).symm) | (rw [decide_eq_decide]; omega)
end Go.Proofs.YtbhdpfacfgldiaaGreatDoor
