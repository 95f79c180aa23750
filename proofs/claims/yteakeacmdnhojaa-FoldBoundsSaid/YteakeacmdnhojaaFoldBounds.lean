import Derived.Test.YteakeacmdnhojaaFoldTells
/- FoldBounds answers true. -/
namespace Go.Proofs.Yteakeacmdnhojaa
open Go Go.RowKit
set_option linter.unusedVariables false
set_option linter.unusedSimpArgs false
set_option maxRecDepth 20000
set_option maxHeartbeats 4000000

/-- A margin of the sign that is asked for. -/
def signZ (minus : Bool) (n : Int) : Int := if decide (n < 0) != minus then -n else n
def farZ : List Int → Int := fun l => l.foldl (fun a n => max a (max n (-n))) 0
def sgnL (minus : Bool) (zs : List Int) : List Int := zs.map fun z => signZ minus (ftameZ z)
def onesF (ns : List Int) : List Fd := ns.map oneF
theorem sgnL_take (minus : Bool) (zs : List Int) (k : Nat) (h : k < zs.length) : sgnL minus (zs.take (k + 1)) = sgnL minus (zs.take k) ++ [signZ minus (ftameZ zs[k])] := by
  unfold sgnL; rw [List.take_succ_eq_append_getElem h, List.map_append]; rfl
theorem onesF_snoc (l : List Int) (n : Int) : onesF (l ++ [n]) = onesF l ++ [oneF n] := by unfold onesF; rw [List.map_append]; rfl
theorem farZ_snoc (l : List Int) (n : Int) : farZ (l ++ [n]) = max (farZ l) (max n (-n)) := by unfold farZ; rw [List.foldl_append]; rfl
/-- Of margins of one sign: the farthest. -/
theorem sgn_far (minus : Bool) : ∀ (l : List Int), (∀ n ∈ l, signZ minus n = n) → 0 ≤ farZ l ∧ foldF (onesF l) = (if minus then ⟨0, -farZ l⟩ else ⟨farZ l, 0⟩) := by
  have key : ∀ (r : List Int), (∀ n ∈ r, signZ minus n = n) → 0 ≤ farZ r.reverse ∧ foldF (onesF r.reverse) = (if minus then ⟨0, -farZ r.reverse⟩ else ⟨farZ r.reverse, 0⟩) := fun r => by
    induction r with
    | nil => intro _; cases minus <;> exact ⟨Int.le_refl _, rfl⟩
    | cons n r ih =>
      intro h
      obtain ⟨i1, i2⟩ := ih fun x hx => h x (List.mem_cons_of_mem _ hx)
      have hn := h n List.mem_cons_self
      rw [List.reverse_cons, farZ_snoc, onesF_snoc, foldF_snoc, i2]
      unfold signZ at hn
      cases minus
      · have h0 : 0 ≤ n := by
          apply Decidable.byContradiction; intro hx
          have h2 : decide (n < 0) = true := by rw [decide_eq_true_eq]; omega
          rw [h2] at hn; simp at hn; omega
        unfold joinS oneF
        simp only [Bool.false_eq_true, if_false, Fd.mk.injEq]
        omega
      · have h0 : n ≤ 0 := by
          apply Decidable.byContradiction; intro hx
          have h2 : decide (n < 0) = false := by rw [decide_eq_false_iff_not]; omega
          rw [h2] at hn; simp at hn; omega
        unfold joinS oneF
        simp only [if_true, Fd.mk.injEq]
        omega
  intro l h
  have := key l.reverse fun n hn => h n (List.mem_reverse.1 hn)
  rwa [List.reverse_reverse] at this
theorem signZ_twice (minus : Bool) (n : Int) : signZ minus (signZ minus n) = signZ minus n := by
  unfold signZ
  cases minus <;> by_cases h : n < 0
  · have e1 : decide (n < 0) = true := by simpa using h
    have e2 : decide (-n < 0) = false := by rw [decide_eq_false_iff_not]; omega
    simp [e1, e2]; try omega
  · have e1 : decide (n < 0) = false := by simpa using h
    simp [e1]
  · have e1 : decide (n < 0) = true := by simpa using h
    simp [e1]
  · have e1 : decide (n < 0) = false := by simpa using h
    by_cases h0 : n = 0
    · subst h0; rfl
    have e2 : decide (-n < 0) = true := by rw [decide_eq_true_eq]; omega
    simp [e1, e2]; try omega
theorem sgnL_sgn (minus : Bool) (zs : List Int) : ∀ n ∈ sgnL minus zs, signZ minus n = n := fun n hn => by
  unfold sgnL at hn
  obtain ⟨z, -, rfl⟩ := List.mem_map.1 hn
  exact signZ_twice _ _
theorem signZ_bd (minus : Bool) (z : Int) : -1099511627776 < signZ minus (ftameZ z) ∧ signZ minus (ftameZ z) < 1099511627776 := by
  have := ftameZ_bd z
  unfold signZ; split <;> omega
theorem run_max_three {P : Program} (w : World) (ts : Array TypeId) (t : TypeId) (k : IntKind) (x y z : Int) :
    (Builtin.max_ ts t #[.int k x, .int k y, .int k z]).run P w = .ok (.int k (max x (max y z))) w := by
  have e : (if z > (if y > x then y else x) then z else (if y > x then y else x)) = max x (max y z) := by
    rw [Int.max_def, Int.max_def]
    split <;> split <;> split <;> (try split) <;> omega
  simp [Builtin.max_, Builtin.max2, e]

structure Two (W w : World) (a b : List Fd) (A1 : Option Addr) (c1 : Nat) (A2 : Option Addr) (c2 n1 n2 : Nat) : Prop where
  one : w.ownsRow W.heap.size 27 2 (.slice A1 n1 c1) n1 (a.flatMap fdC)
  two : w.ownsRow W.heap.size 27 2 (.slice A2 n2 c2) n2 (b.flatMap fdC)
  far : ∀ g, (Value.slice A1 n1 c1).ownBlock = some g → (Value.slice A2 n2 c2).ownBlock ≠ some g
  low : Below W.heap.size W w
section
variable {W w w' : World} {a b : List Fd} {A1 A2 A' : Option Addr} {c1 c2 n1 n2 c' : Nat}
theorem Two.behind (h : Two W w a b A1 c1 A2 c2 n1 n2) (hb : Below w.heap.size w w') : Two W w' a b A1 c1 A2 c2 n1 n2 :=
  ⟨own_below h.one hb (Nat.le_refl _), own_below h.two hb (Nat.le_refl _), h.far, h.low.trans (hb.mono h.low.size)⟩
theorem Two.push1 (h : Two W w a b A1 c1 A2 c2 n1 n2) (f : Fd) (ho : w'.ownsRow W.heap.size 27 2 (.slice A' (n1 + 1) c') (n1 + 1) (a.flatMap fdC ++ fdC f)) (hn : Only (Value.slice A1 n1 c1).ownBlock.toList w w')
    (hk : ∀ g, (Value.slice A' (n1 + 1) c').ownBlock = some g → (Value.slice A1 n1 c1).ownBlock = some g ∨ w.heap.size ≤ g) : Two W w' (a ++ [f]) b A' c' A2 c2 (n1 + 1) n2 :=
  ⟨by simpa [List.flatMap_append] using ho, hn.owns h.two (fun g hg e => h.far g (by simpa using e) hg), fun g hg e => by
    rcases hk g hg with h1 | h1
    · exact h.far g h1 e
    · have := owns_lt h.two e; omega, own_push h.one h.low h.low.size hn⟩
theorem Two.push2 (h : Two W w a b A1 c1 A2 c2 n1 n2) (f : Fd) (ho : w'.ownsRow W.heap.size 27 2 (.slice A' (n2 + 1) c') (n2 + 1) (b.flatMap fdC ++ fdC f)) (hn : Only (Value.slice A2 n2 c2).ownBlock.toList w w')
    (hk : ∀ g, (Value.slice A' (n2 + 1) c').ownBlock = some g → (Value.slice A2 n2 c2).ownBlock = some g ∨ w.heap.size ≤ g) : Two W w' a (b ++ [f]) A1 c1 A' c' n1 (n2 + 1) :=
  ⟨hn.owns h.one (fun g hg e => h.far g hg (by simpa using e)), by simpa [List.flatMap_append] using ho, fun g hg e => by
    rcases hk g e with h1 | h1
    · exact h.far g hg h1
    · have := owns_lt h.one hg; omega, own_push h.two h.low h.low.size hn⟩
end
theorem foldBounds_any (zs : List Int) (A : Option Addr) (c : Nat) (b : Bool) (W : World) (hR : Row W W.heap.size A (i64s zs)) (hm : zs.length ≤ 9223372036854775807) :
    Calls Try.prog 3 #[.slice A zs.length c, .bool b] W fun e w' => e = .returned (.bool true) ∧ Below W.heap.size W w' := by
  have HR := Lib.hid hR
  clear hR
  go_enter Try.func3, Try.ntmps3
  by_cases hl : 60 < zs.length
  · have hl' : (60 : Int) < zs.length := by omega
    go_wp2_with fail
    refine (fdawake_any _).mono ?_
    rintro e w1 ⟨rfl, hb⟩
    go_wp2_with fail
    go_ret
    exact ⟨rfl, hb⟩
  have hl' : ¬ (60 : Int) < zs.length := by omega
  go_upto_region 6 with fail
  go_loopw [5, 6, 7, 8, 9, 10, 11] (fun v5 v6 v7 v8 v9 v10 v11 wr => ∃ (A1 A2 : Option Addr) (c1 c2 k : Nat), k ≤ zs.length ∧ v5 = .slice A1 k c1 ∧ v6 = .slice A2 k c2 ∧ v7 = .int .i64 (foldF (fdsZ (zs.take k))).p ∧ v8 = .int .i64 (foldF (fdsZ (zs.take k))).q ∧
    v9 = .int .i64 (farZ (sgnL b (zs.take k))) ∧ v10 = .int .i64 k ∧ Hid (Two W wr (fdsZ (zs.take k)) (onesF (sgnL b (zs.take k))) A1 c1 A2 c2 k k)) (fun _ _ _ _ _ v10 _ _ => zs.length - (intOf v10).toNat)
  case atStart => exact ⟨none, none, 0, 0, 0, Nat.zero_le _, rfl, rfl, rfl, rfl, rfl, rfl, Lib.hid ⟨⟨rfl, .inl ⟨rfl, rfl⟩⟩, ⟨rfl, .inl ⟨rfl, rfl⟩⟩, fun g hg => by simp [Value.ownBlock] at hg, Below.refl _ _⟩⟩
  case round =>
    obtain ⟨A1, A2, c1, c2, k, hk, rfl, rfl, rfl, rfl, rfl, rfl, HT⟩ := hrel
    by_cases hlt : k < zs.length
    · have hki : (k : Int) < zs.length := by omega
      obtain ⟨ad, rfl, hb, r0⟩ := (HR.out.below HT.out.low).int hlt
      obtain ⟨e1, e2⟩ := foldF_step zs k hlt
      have E3 := Lib.hid (fdsZ_take zs k hlt)
      have E4 := Lib.hid (sgnL_take b zs k hlt)
      have E1 := Lib.hid e1
      have E2 := Lib.hid e2
      clear e1 e2
      generalize zs[k] = z at *
      go_wp2_with fail
      refine (ftame_any z _).mono ?_
      rintro e w' ⟨rfl, rfl⟩
      obtain ⟨hb1, hb2⟩ := ftameZ_bd z
      obtain ⟨hs1, hs2⟩ := signZ_bd b z
      generalize ftameZ z = t at *
      go_upto_region 10 with fail
      rw [E1.out, E2.out]
      go_wp2_with fail
      refine (fof_any t _).mono ?_
      rintro e w2 ⟨rfl, hb⟩
      have T2 := Lib.hid (HT.out.behind hb)
      have O1 := Lib.hid T2.out.one
      clear hb HT r0
      have hsz := T2.out.low.size
      have hal := Lib.hid ((Below.refl w2.heap.size w2).alloc (Nat.le_refl _) (.cells #[.int .i64 (max t 0), .int .i64 (min t 0)] 27))
      go_upto_region 11 with (at_builtin; refine wpList_pushOne rfl (.tmp 35) (.tmp 38) _ rfl W.heap.size 27 2 16 fdV0 Try.underlying24 fd_info rfl (by decide) k (.slice A1 k c1) _ rfl (own_below O1.out ((Below.refl _ w2).alloc (Nat.le_refl _) (.cells #[.int .i64 (max t 0), .int .i64 (min t 0)] 27)) (Nat.le_refl _)) (by simp; omega) w2.heap.size [.int .i64 (max t 0), .int .i64 (min t 0)] rfl (Whole.mk w2 27 #[.int .i64 (max t 0), .int .i64 (min t 0)]) rfl (by simp [Value.oneCell']) (by unfold maxLen; omega) (by omega) ?_; intro A5 c5 w5 h5 ho5 hk5)
      have T5 : Hid (Two W w5 (fdsZ (zs.take (k + 1))) (onesF (sgnL b (zs.take k))) A5 c5 A2 c2 (k + 1) k) := Lib.hid (by rw [E3.out]; exact (T2.out.behind hal.out).push1 (oneF t) h5 ho5 hk5)
      clear h5 ho5 hk5 O1 T2 hal hsz
      obtain ⟨s, hs⟩ : ∃ s, signZ b t = s := ⟨_, rfl⟩
      have HS := Lib.hid hs
      rw [hs] at hs1 hs2 E4
      clear hs
      have hb0 : Hid (((decide (t < 0) == b) = true ∧ s = t) ∨ ((decide (t < 0) == b) = false ∧ s = -t)) := Lib.hid (by
        have h0 := HS.out
        unfold signZ at h0
        cases hq : (decide (t < 0) == b)
        · rw [show (decide (t < 0) != b) = true by rw [bne, hq]; rfl] at h0
          exact .inr ⟨rfl, h0.symm⟩
        · rw [show (decide (t < 0) != b) = false by rw [bne, hq]; rfl] at h0
          exact .inl ⟨rfl, h0.symm⟩)
      clear HS
      rcases hb0.out with ⟨hq, hst⟩ | ⟨hq, hst⟩
      all_goals
        clear hb0
        go_upto_region 13 with fail
        rw [← hst]
        clear hq hst
        go_wp2_with fail
        refine (fof_any s _).mono ?_
        rintro e w6 ⟨rfl, hb⟩
        have T7 := Lib.hid (T5.out.behind hb)
        have O2 := Lib.hid T7.out.two
        clear hb T5
        have hsz := T7.out.low.size
        have hal := Lib.hid ((Below.refl w6.heap.size w6).alloc (Nat.le_refl _) (.cells #[.int .i64 (max s 0), .int .i64 (min s 0)] 27))
        go_upto_region 14 with (at_builtin; refine wpList_pushOne rfl (.tmp 46) (.tmp 49) _ rfl W.heap.size 27 2 16 fdV0 Try.underlying24 fd_info rfl (by decide) k (.slice A2 k c2) _ rfl (own_below O2.out ((Below.refl _ w6).alloc (Nat.le_refl _) (.cells #[.int .i64 (max s 0), .int .i64 (min s 0)] 27)) (Nat.le_refl _)) (by simp; omega) w6.heap.size [.int .i64 (max s 0), .int .i64 (min s 0)] rfl (Whole.mk w6 27 #[.int .i64 (max s 0), .int .i64 (min s 0)]) rfl (by simp [Value.oneCell']) (by unfold maxLen; omega) (by omega) ?_; intro A8 c8 w8 h5 ho5 hk5)
        have T8 : Hid (Two W w8 (fdsZ (zs.take (k + 1))) (onesF (sgnL b (zs.take (k + 1)))) A5 c5 A8 c8 (k + 1) (k + 1)) := Lib.hid (by rw [E4.out, onesF_snoc]; exact (T7.out.behind hal.out).push2 (oneF s) h5 ho5 hk5)
        have E5 : Hid ((if (if farZ (sgnL b (zs.take k)) < s then s else farZ (sgnL b (zs.take k))) < -s then -s else if farZ (sgnL b (zs.take k)) < s then s else farZ (sgnL b (zs.take k))) = farZ (sgnL b (zs.take (k + 1)))) := Lib.hid (by
          rw [E4.out, farZ_snoc]
          generalize farZ (sgnL b (zs.take k)) = fr
          split <;> split <;> omega)
        clear h5 ho5 hk5 O2 T7 hal hsz
        go_wp2_with fail
        go_roundw
        case rel => exact ⟨A5, A8, c5, c8, k + 1, by omega, rfl, rfl, rfl, rfl, congrArg (Value.int .i64) E5.out, by go_num, T8⟩
        case measure => simp [intOf]; omega
    · have hq : k = zs.length := by omega
      subst hq
      obtain ⟨O1, O2, -, HB⟩ := HT.out
      rw [List.take_length] at O1 O2 ⊢
      have R1 := Lib.hid (row_of_own O1)
      have R2 := Lib.hid (row_of_own O2)
      have B0 := Lib.hid HB
      obtain ⟨f1, f2⟩ := sgn_far b (sgnL b zs) (sgnL_sgn b zs)
      have L1 : (fdsZ zs).length = zs.length := by unfold fdsZ; rw [List.length_map]
      have L2 : (onesF (sgnL b zs)).length = zs.length := by unfold onesF sgnL; rw [List.length_map, List.length_map]
      have hbd := foldF_bd 1099511627776 (by decide) (fdsZ zs) (fun f hf => by
        unfold fdsZ at hf
        obtain ⟨z, -, rfl⟩ := List.mem_map.1 hf
        have := ftameZ_bd z
        unfold oneF; simp only; omega)
      have hbd2 := foldF_bd 1099511627776 (by decide) (onesF (sgnL b zs)) (fun f hf => by
        unfold onesF sgnL at hf
        obtain ⟨n, hn, rfl⟩ := List.mem_map.1 hf
        obtain ⟨z, -, rfl⟩ := List.mem_map.1 hn
        have := signZ_bd b z
        unfold oneF; simp only; omega)
      have hsg := foldF_sgn (fdsZ zs)
      clear O1 O2 HT HB hlt HR hk
      generalize farZ (sgnL b zs) = fr at *
      have HF2 := Lib.hid f2
      rw [HF2.out] at hbd2
      obtain ⟨f, hf⟩ : ∃ f, foldF (fdsZ zs) = f := ⟨_, rfl⟩
      rw [hf] at hbd hsg ⊢
      have HF := Lib.hid hf
      obtain ⟨p, q⟩ := f
      obtain ⟨g1, g2⟩ := hbd
      obtain ⟨g3, g4⟩ := hsg
      simp only at g1 g2 g3 g4
      have hfr : fr ≤ 1099511627776 := by cases b <;> simp at hbd2 <;> omega
      have V1 := Lib.hid (fun w => fval_any ⟨p, q⟩ (by unfold I64; simp only; omega) (by unfold I64; simp only; omega) (by unfold I64; simp only; omega) w)
      have J1 := Lib.hid (fun w (h : Row w w.heap.size A1 ((fdsZ zs).flatMap fdC)) => fjoin_any (fdsZ zs) A1 c1 w h (by omega))
      have J2 := Lib.hid (fun w (h : Row w w.heap.size A2 ((onesF (sgnL b zs)).flatMap fdC)) => fjoin_any (onesF (sgnL b zs)) A2 c2 w h (by omega))
      rw [HF.out, L1] at J1
      rw [HF2.out, L2] at J2
      generalize (fdsZ zs).flatMap fdC = cs1 at *
      generalize (onesF (sgnL b zs)).flatMap fdC = cs2 at *
      generalize zs.length = n at *
      clear hf f2 HF HF2 hbd2 L1 L2
      have hv1 : decide (p + q ≤ p) = true := by rw [decide_eq_true_eq]; omega
      have hv2 : decide (q ≤ p + q) = true := by rw [decide_eq_true_eq]; omega
      go_upto_region 15 with fail
      go_wp2_with fail
      refine (J1.out _ R1.out).mono ?_
      rintro e w1 ⟨rfl, hb⟩
      have B1 := Lib.hid (B0.out.trans (hb.mono B0.out.size))
      have R3 := Lib.hid ((R2.out.below hb).more hb.size)
      clear hb J1 R1 R2 B0
      go_wp2_with fail
      refine (V1.out _).mono ?_
      rintro e w2 ⟨rfl, hb⟩
      have B2 := Lib.hid (B1.out.trans (hb.mono B1.out.size))
      have R4 := Lib.hid ((R3.out.below hb).more hb.size)
      clear hb V1 R3 B1
      go_wp2_with fail
      refine (J2.out _ R4.out).mono ?_
      rintro e w3 ⟨rfl, hb⟩
      have B3 := Lib.hid (B2.out.trans (hb.mono B2.out.size))
      clear hb J2 R4 B2
      cases b
      · rw [if_neg (by decide)]
        go_wp2_with fail
        refine (fval_any ⟨fr, 0⟩ (by unfold I64; simp only; omega) (by unfold I64; simp only; omega) (by unfold I64; simp only; omega) _).mono ?_
        rintro e w4 ⟨rfl, hb⟩
        have B4 := Lib.hid (B3.out.trans (hb.mono B3.out.size))
        simp only [Int.add_zero]
        go_wp2_with fail
        refine (fdawake_any _).mono ?_
        rintro e w5 ⟨rfl, hb⟩
        have B5 := Lib.hid (B4.out.trans (hb.mono B4.out.size))
        go_wp2_with fail
        go_ret
        exact ⟨rfl, B5.out⟩
      · rw [if_pos rfl]
        go_wp2_with fail
        refine (fval_any ⟨0, -fr⟩ (by unfold I64; simp only; omega) (by unfold I64; simp only; omega) (by unfold I64; simp only; omega) _).mono ?_
        rintro e w4 ⟨rfl, hb⟩
        have B4 := Lib.hid (B3.out.trans (hb.mono B3.out.size))
        have hn : (0 : Int) + -fr = -fr := by omega
        have hnn : - -fr = fr := by omega
        simp only [hn]
        go_upto_region 18 with fail
        try rw [hnn]
        go_wp2_with fail
        refine (fdawake_any _).mono ?_
        rintro e w5 ⟨rfl, hb⟩
        have B5 := Lib.hid (B4.out.trans (hb.mono B4.out.size))
        go_wp2_with fail
        go_ret
        exact ⟨rfl, B5.out⟩
end Go.Proofs.Yteakeacmdnhojaa
