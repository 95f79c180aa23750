import Derived.Test.YtnhhalhaefeoeaaStkAwake
import Derived.Test.YtnhhalhaefeoeaaPush
/- quoinlaw16.Tame. -/
namespace Go.Proofs.Ytnhhalhaefeoeaa
open Go Go.RowKit
set_option linter.unusedVariables false
set_option linter.unusedSimpArgs false
set_option maxRecDepth 20000
set_option maxHeartbeats 4000000

/-- int64(uint64(a) % c). -/
def uZ (a c : Int) : Int := (a % 18446744073709551616) % c
theorem uZ_in (a c : Int) (h1 : 1 ≤ c) : 0 ≤ uZ a c ∧ uZ a c < c := ⟨Int.emod_nonneg _ (by omega), Int.emod_lt_of_pos _ (by omega)⟩
theorem uZ_code (a c : Int) (h1 : 1 ≤ c) (h2 : c ≤ 4611686018427387904) : wrap64 ((IntKind.u64.wrap a).tmod c) = uZ a c := by
  have hw : 0 ≤ IntKind.u64.wrap a := by rw [IntKind.wrap_u64]; omega
  rw [Int.tmod_eq_emod_of_nonneg hw]
  obtain ⟨h3, h4⟩ := uZ_in a c h1
  have e : IntKind.u64.wrap a % c = uZ a c := by rw [IntKind.wrap_u64]; rfl
  rw [e]
  exact IntWalk.wrap64_in _ ⟨by omega, by omega⟩
def ldTame (x : Ld) : Ld := ⟨if x.th then 0 else uZ x.h 68719476736, ⟨uZ x.t.p 4294967296, -(uZ x.t.q 4294967296)⟩, ⟨uZ x.b.p 4294967296, -(uZ x.b.q 4294967296)⟩, x.th⟩
theorem ldTame_ok (x : Ld) : LdOk (ldTame x) := by
  have a1 := uZ_in x.h 68719476736 (by decide)
  have a2 := uZ_in x.t.p 4294967296 (by decide)
  have a3 := uZ_in x.t.q 4294967296 (by decide)
  have a4 := uZ_in x.b.p 4294967296 (by decide)
  have a5 := uZ_in x.b.q 4294967296 (by decide)
  unfold ldTame
  refine ⟨?_, ?_, by simp only; omega, by simp only; omega, by simp only; omega, by simp only; omega, by simp only; omega, by simp only; omega, by simp only; omega, by simp only; omega, fun h => by simp only at h ⊢; rw [if_pos h]⟩
  · simp only; split <;> omega
  · simp only; split <;> omega
def tameLd (l : List Ld) : List Ld := (l.take 40).map ldTame
theorem tameLd_ok (l : List Ld) : ∀ x ∈ tameLd l, LdOk x := fun x hx => by
  unfold tameLd at hx
  obtain ⟨y, -, rfl⟩ := List.mem_map.1 hx
  exact ldTame_ok y
theorem tameLd_len (l : List Ld) : (tameLd l).length ≤ 40 := by unfold tameLd; rw [List.length_map, List.length_take]; omega
def ldV0 : Value := .agg #[.int .i64 0, .int .i64 0, .int .i64 0, .int .i64 0, .int .i64 0, .bool false]
theorem ld_info : (Try.prog.info? 27).map (fun i => (i.zero, i.size, i.bytes)) = some (some ldV0, 6, 48) := by kernel_rfl
def soTame (l : List Ld) (k : Nat) : List Value := ((l.take k).map ldTame).flatMap ldC
theorem soTame_step (l : List Ld) (k : Nat) (h : k < l.length) : soTame l (k + 1) = soTame l k ++ ldC (ldTame l[k]) := by
  unfold soTame
  rw [List.take_succ_eq_append_getElem h, List.map_append, List.flatMap_append]; simp
theorem ktame_any (l : List Ld) (hl : l.length ≤ 9223372036854775807) (A : Option Addr) (c : Nat) (W : World) (hR : Row W W.heap.size A (l.flatMap ldC)) :
    Calls Try.prog 8 #[.slice A l.length c] W fun e w' => ∃ A' c', e = .returned (.slice A' (tameLd l).length c') ∧ w'.ownsRow W.heap.size 27 6 (.slice A' (tameLd l).length c') (tameLd l).length ((tameLd l).flatMap ldC) ∧ Below W.heap.size W w' := by
  have HR := Lib.hid hR
  clear hR
  go_enter Try.func8, Try.ntmps8
  go_upto_region 3 with fail
  go_loopw [3, 4, 5] (fun v3 v4 v5 wr => ∃ (k : Nat) (A' : Option Addr) (c' : Nat), k ≤ l.length ∧ k ≤ 40 ∧ v3 = .slice A' k c' ∧ v4 = .int .i64 k ∧ Hid (wr.ownsRow W.heap.size 27 6 (.slice A' k c') k (soTame l k)) ∧ Hid (Below W.heap.size W wr)) (fun _ v4 _ _ => l.length - (intOf v4).toNat)
  case atStart => exact ⟨0, none, 0, Nat.zero_le _, by omega, rfl, rfl, Lib.hid ⟨rfl, .inl ⟨rfl, rfl⟩⟩, Lib.hid (Below.refl _ _)⟩
  case round =>
    obtain ⟨k, A', c', hk, hk2, rfl, rfl, O, B⟩ := hrel
    by_cases hlt : k < l.length ∧ k < 40
    · have hki : (k : Int) < l.length := by omega
      have hkj : (k : Int) < 40 := by omega
      obtain ⟨ad, rfl, hb, r0, r1⟩ := (HR.out.below B.out).ld hlt.1
      have ET := Lib.hid (soTame_step l k hlt.1)
      generalize l[k] = x at *
      obtain ⟨h, ⟨tp, tq⟩, ⟨bp, bq⟩, th⟩ := x
      have q1 := r1 1 _ (by decide) rfl
      have q2 := r1 2 _ (by decide) rfl
      have q3 := r1 3 _ (by decide) rfl
      have q4 := r1 4 _ (by decide) rfl
      have q5 := r1 5 _ (by decide) rfl
      simp only at r0 q1 q2 q3 q4 q5
      have u1 := uZ_code h 68719476736 (by decide) (by decide)
      have u2 := uZ_code tp 4294967296 (by decide) (by decide)
      have u3 := uZ_code tq 4294967296 (by decide) (by decide)
      have u4 := uZ_code bp 4294967296 (by decide) (by decide)
      have u5 := uZ_code bq 4294967296 (by decide) (by decide)
      obtain ⟨i1, j1⟩ := uZ_in h 68719476736 (by decide)
      obtain ⟨i2, j2⟩ := uZ_in tp 4294967296 (by decide)
      obtain ⟨i3, j3⟩ := uZ_in tq 4294967296 (by decide)
      obtain ⟨i4, j4⟩ := uZ_in bp 4294967296 (by decide)
      obtain ⟨i5, j5⟩ := uZ_in bq 4294967296 (by decide)
      obtain ⟨a1, e1⟩ : ∃ a, uZ h 68719476736 = a := ⟨_, rfl⟩
      obtain ⟨a2, e2⟩ : ∃ a, uZ tp 4294967296 = a := ⟨_, rfl⟩
      obtain ⟨a3, e3⟩ : ∃ a, -(uZ tq 4294967296) = a := ⟨_, rfl⟩
      obtain ⟨a4, e4⟩ : ∃ a, uZ bp 4294967296 = a := ⟨_, rfl⟩
      obtain ⟨a5, e5⟩ : ∃ a, -(uZ bq 4294967296) = a := ⟨_, rfl⟩
      clear r1
      have X0 := Lib.hid (Whole.mk wr 27 #[.int .i64 h, .int .i64 tp, .int .i64 tq, .int .i64 bp, .int .i64 bq, .bool th])
      have O1 := Lib.hid (own_below O.out ((Below.refl _ wr).alloc (Nat.le_refl _) (.cells #[.int .i64 h, .int .i64 tp, .int .i64 tq, .int .i64 bp, .int .i64 bq, .bool th] 27)) (Nat.le_refl _))
      have B1 := Lib.hid (B.out.alloc B.out.size (.cells #[.int .i64 h, .int .i64 tp, .int .i64 tq, .int .i64 bp, .int .i64 bq, .bool th] 27))
      have NB : Hid (∀ g, (Value.slice A' k c').ownBlock = some g → g ≠ wr.heap.size) := Lib.hid (fun g hg => by have := owns_lt O.out hg; omega)
      have hbs := B.out.size
      go_upto_region 6 with fail
      clear O B r0 q1 q2 q3 q4 q5
      generalize wr.alloc _ = w1 at *
      obtain ⟨g, hg⟩ : ∃ g, wr.heap.size = g := ⟨_, rfl⟩
      rw [hg] at X0 NB hbs ⊢
      clear hg
      have n0 : (Value.slice A' k c').ownBlock ≠ some g := fun e => NB.out g e rfl
      have c0 : w1.cell? ⟨g, 0, none⟩ = some (.int .i64 h) := X0.out.cell 0
      have c1 : w1.cell? ⟨g, 1, none⟩ = some (.int .i64 tp) := X0.out.cell 1
      have c2 : w1.cell? ⟨g, 2, none⟩ = some (.int .i64 tq) := X0.out.cell 2
      have c3 : w1.cell? ⟨g, 3, none⟩ = some (.int .i64 bp) := X0.out.cell 3
      have c4 : w1.cell? ⟨g, 4, none⟩ = some (.int .i64 bq) := X0.out.cell 4
      have c5 : w1.cell? ⟨g, 5, none⟩ = some (.bool th) := X0.out.cell 5
      have f0 := X0.out.free 0
      have f1 := X0.out.free 1
      have f2 := X0.out.free 2
      have f3 := X0.out.free 3
      have f4 := X0.out.free 4
      go_upto_region 9 with fail
      have X2 := Lib.hid (((((X0.out.put 0 (.int .i64 a1)).put 1 (.int .i64 a2)).put 2 (.int .i64 a3)).put 3 (.int .i64 a4)).put 4 (.int .i64 a5))
      have O2 := Lib.hid (ownsRow_setCell_other (ownsRow_setCell_other (ownsRow_setCell_other (ownsRow_setCell_other (ownsRow_setCell_other O1.out (a := ⟨g, 0, none⟩) n0 (.int .i64 a1)) (a := ⟨g, 1, none⟩) n0 (.int .i64 a2)) (a := ⟨g, 2, none⟩) n0 (.int .i64 a3)) (a := ⟨g, 3, none⟩) n0 (.int .i64 a4)) (a := ⟨g, 4, none⟩) n0 (.int .i64 a5))
      have B2 := Lib.hid (((((B1.out.setCell (p := ⟨g, 0, none⟩) hbs (.int .i64 a1)).setCell (p := ⟨g, 1, none⟩) hbs (.int .i64 a2)).setCell (p := ⟨g, 2, none⟩) hbs (.int .i64 a3)).setCell (p := ⟨g, 3, none⟩) hbs (.int .i64 a4)).setCell (p := ⟨g, 4, none⟩) hbs (.int .i64 a5))
      clear u1 u2 u3 u4 u5 c0 c1 c2 c3 c4 c5 f0 f1 f2 f3 f4 X0 O1 B1
      generalize ((((w1.setCell _ _).setCell _ _).setCell _ _).setCell _ _).setCell _ _ = w2 at *
      simp only [List.set_cons_zero, List.set_cons_succ] at X2
      have c5 : w2.cell? ⟨g, 5, none⟩ = some (.bool th) := X2.out.cell 5
      have c0 : w2.cell? ⟨g, 0, none⟩ = some (.int .i64 a1) := X2.out.cell 0
      have f0 := X2.out.free 0
      cases th
      · have ET2 : Hid (soTame l (k + 1) = soTame l k ++ [.int .i64 a1, .int .i64 a2, .int .i64 a3, .int .i64 a4, .int .i64 a5, .bool false]) := Lib.hid (by rw [ET.out]; subst e1 e2 e3 e4 e5; rfl)
        clear ET e1 e2 e3 e4 e5 i1 j1 i2 j2 i3 j3 i4 j4 i5 j5 f0
        go_upto_region 11 with fail
        clear c0 c5
        have c0 : w2.cell? ⟨g, 0, none⟩ = some (.int .i64 a1) := X2.out.cell 0
        have c1 : w2.cell? ⟨g, 1, none⟩ = some (.int .i64 a2) := X2.out.cell 1
        have c2 : w2.cell? ⟨g, 2, none⟩ = some (.int .i64 a3) := X2.out.cell 2
        have c3 : w2.cell? ⟨g, 3, none⟩ = some (.int .i64 a4) := X2.out.cell 3
        have c4 : w2.cell? ⟨g, 4, none⟩ = some (.int .i64 a5) := X2.out.cell 4
        have c5 : w2.cell? ⟨g, 5, none⟩ = some (.bool false) := X2.out.cell 5
        have H3 := Lib.hid (Whole.mk w2 27 #[.int .i64 a1, .int .i64 a2, .int .i64 a3, .int .i64 a4, .int .i64 a5, .bool false])
        have O3 := Lib.hid (own_below O2.out ((Below.refl _ w2).alloc (Nat.le_refl _) (.cells #[.int .i64 a1, .int .i64 a2, .int .i64 a3, .int .i64 a4, .int .i64 a5, .bool false] 27)) (Nat.le_refl _))
        have B3 := Lib.hid (B2.out.alloc B2.out.size (.cells #[.int .i64 a1, .int .i64 a2, .int .i64 a3, .int .i64 a4, .int .i64 a5, .bool false] 27))
        clear X2 O2 B2
        go_upto_region 4 with (at_builtin; refine wpList_pushOne rfl (.tmp 59) (.tmp 61) _ rfl W.heap.size 27 6 48 ldV0 Try.underlying22 ld_info rfl (by decide) k (.slice A' k c') _ rfl O3.out B3.out.size w2.heap.size [.int .i64 a1, .int .i64 a2, .int .i64 a3, .int .i64 a4, .int .i64 a5, .bool false] rfl H3.out rfl (by simp [Value.oneCell']) (by unfold maxLen; omega) (by omega) ?_; intro A5 c5' w5 o5 h5 k5)
        have B5 := Lib.hid (B3.out.trans (h5.below (B := W.heap.size) (fun x hx => (O3.out.lt x (by simpa using hx)).1) B3.out.size))
        have O5 := Lib.hid o5
        clear o5 h5 k5 O3 B3 H3 c0 c1 c2 c3 c4 c5
        go_wp2_with fail
        go_roundw
        case rel => exact ⟨k + 1, A5, c5', by omega, by omega, by go_num, by go_num, Lib.hid (by rw [ET2.out]; exact O5.out), B5⟩
        case measure => simp [intOf]; omega
      · have ET2 : Hid (soTame l (k + 1) = soTame l k ++ [.int .i64 0, .int .i64 a2, .int .i64 a3, .int .i64 a4, .int .i64 a5, .bool true]) := Lib.hid (by rw [ET.out]; subst e1 e2 e3 e4 e5; rfl)
        clear ET e1 e2 e3 e4 e5 i1 j1 i2 j2 i3 j3 i4 j4 i5 j5
        have X3 := Lib.hid (X2.out.put 0 (.int .i64 0))
        have O3 := Lib.hid (ownsRow_setCell_other O2.out (a := ⟨g, 0, none⟩) n0 (.int .i64 0))
        have B3 := Lib.hid (B2.out.setCell (p := ⟨g, 0, none⟩) hbs (.int .i64 0))
        clear X2 O2 B2
        go_upto_region 11 with fail
        clear c0 c5 f0
        generalize w2.setCell _ _ = w3 at *
        have X2 := X3
        have O2 := O3
        have B2 := B3
        clear X3 O3 B3
        have c0 : w3.cell? ⟨g, 0, none⟩ = some (.int .i64 0) := X2.out.cell 0
        have c1 : w3.cell? ⟨g, 1, none⟩ = some (.int .i64 a2) := X2.out.cell 1
        have c2 : w3.cell? ⟨g, 2, none⟩ = some (.int .i64 a3) := X2.out.cell 2
        have c3 : w3.cell? ⟨g, 3, none⟩ = some (.int .i64 a4) := X2.out.cell 3
        have c4 : w3.cell? ⟨g, 4, none⟩ = some (.int .i64 a5) := X2.out.cell 4
        have c5 : w3.cell? ⟨g, 5, none⟩ = some (.bool true) := X2.out.cell 5
        have H3 := Lib.hid (Whole.mk w3 27 #[.int .i64 0, .int .i64 a2, .int .i64 a3, .int .i64 a4, .int .i64 a5, .bool true])
        have O3 := Lib.hid (own_below O2.out ((Below.refl _ w3).alloc (Nat.le_refl _) (.cells #[.int .i64 0, .int .i64 a2, .int .i64 a3, .int .i64 a4, .int .i64 a5, .bool true] 27)) (Nat.le_refl _))
        have B3 := Lib.hid (B2.out.alloc B2.out.size (.cells #[.int .i64 0, .int .i64 a2, .int .i64 a3, .int .i64 a4, .int .i64 a5, .bool true] 27))
        clear X2 O2 B2
        go_upto_region 4 with (at_builtin; refine wpList_pushOne rfl (.tmp 59) (.tmp 61) _ rfl W.heap.size 27 6 48 ldV0 Try.underlying22 ld_info rfl (by decide) k (.slice A' k c') _ rfl O3.out B3.out.size w3.heap.size [.int .i64 0, .int .i64 a2, .int .i64 a3, .int .i64 a4, .int .i64 a5, .bool true] rfl H3.out rfl (by simp [Value.oneCell']) (by unfold maxLen; omega) (by omega) ?_; intro A5 c5' w5 o5 h5 k5)
        have B5 := Lib.hid (B3.out.trans (h5.below (B := W.heap.size) (fun x hx => (O3.out.lt x (by simpa using hx)).1) B3.out.size))
        have O5 := Lib.hid o5
        clear o5 h5 k5 O3 B3 H3 c0 c1 c2 c3 c4 c5
        go_wp2_with fail
        go_roundw
        case rel => exact ⟨k + 1, A5, c5', by omega, by omega, by go_num, by go_num, Lib.hid (by rw [ET2.out]; exact O5.out), B5⟩
        case measure => simp [intOf]; omega
    · have HN : Hid ((tameLd l).length = k) := Lib.hid (by unfold tameLd; rw [List.length_map, List.length_take]; omega)
      have HT : Hid ((tameLd l).flatMap ldC = soTame l k) := Lib.hid (by
        unfold tameLd soTame
        rcases (show k = 40 ∨ k = l.length by omega) with rfl | rfl
        · rfl
        · rw [List.take_of_length_le (show l.length ≤ 40 by omega), List.take_length])
      by_cases h1 : k < l.length
      · have hki : (k : Int) < l.length := by omega
        have hkj : ¬ (k : Int) < 40 := by omega
        go_wp2_with fail
        go_ret
        exact ⟨A', c', congrArg (fun n => Ending.returned (.slice A' n c')) HN.out.symm, by rw [HN.out, HT.out]; exact O.out, B.out⟩
      · have hki : ¬ (k : Int) < l.length := by omega
        go_wp2_with fail
        go_ret
        exact ⟨A', c', congrArg (fun n => Ending.returned (.slice A' n c')) HN.out.symm, by rw [HN.out, HT.out]; exact O.out, B.out⟩
end Go.Proofs.Ytnhhalhaefeoeaa
