import Derived.Test.YtpbfdfpedpfemaaGreatDoorLaw6Awake
import Derived.Test.YtpbfdfpedpfemaaGreatDoorTwoOwn
import Derived.Test.YtpbfdfpedpfemaaGreatDoorTreeFlat
/- TreeBounds answers true. -/
namespace Go.Proofs.YtpbfdfpedpfemaaGreatDoor
open Go Go.RowKit
set_option linter.unusedVariables false
set_option linter.unusedSimpArgs false
set_option maxRecDepth 20000
set_option maxHeartbeats 4000000

abbrev NodeT : TypeId × Nat := (32, 5)
def Two6 (W w : World) (l1 : List Nd) (A1 : Option Addr) (n1 c1 : Nat) (l2 : List Nd) (A2 : Option Addr) (n2 c2 : Nat) : Prop := TwoOwn W w NodeT NodeT (.slice A1 n1 c1) n1 (plC l1) (.slice A2 n2 c2) n2 (plC l2)
/-- The first node of a row of plain nodes. -/
theorem first_cells {w : World} {lo n c : Nat} {A : Option Addr} {l : List Nd} (h : w.ownsRow lo 32 5 (.slice A n c) n (plC (root0 :: l))) :
    ∃ g, A = some ⟨g, 0, none⟩ ∧ w.cell? ⟨g, 0, none⟩ = some (.int .i64 0) ∧ w.cell? ⟨g, 1, none⟩ = some (.int .i64 (-1)) ∧ w.cell? ⟨g, 2, none⟩ = some (.bool false) ∧ w.cell? ⟨g, 3, none⟩ = some (.string ⟨#[]⟩) ∧ w.cell? ⟨g, 4, none⟩ = some (.slice none 0 0) := by
  have hr := row_of_own h
  have e : plC (root0 :: l) = [.int .i64 0, .int .i64 (-1), .bool false, .string ⟨#[]⟩, .slice none 0 0] ++ plC l := rfl
  rw [e] at hr
  obtain ⟨ad, rfl, -, hc⟩ := hr (by simp)
  have hg : ∃ g, ad = ⟨g, 0, none⟩ := by
    rcases h.2 with ⟨h0, _⟩ | ⟨g, cap, cur, hv, _⟩
    · cases h0
    · injection hv with h1 _ _
      injection h1 with h1
      exact ⟨g, h1⟩
  obtain ⟨g, rfl⟩ := hg
  have at_ : ∀ i (h : i < 5), w.cell? ⟨g, i, none⟩ = some ([Value.int .i64 0, .int .i64 (-1), .bool false, .string ⟨#[]⟩, .slice none 0 0][i]'h) := fun i hi => by
    have := hc i (by simp; omega)
    rw [head_add, List.getElem_append_left hi] at this
    exact this
  exact ⟨g, rfl, at_ 0 (by decide), at_ 1 (by decide), at_ 2 (by decide), at_ 3 (by decide), at_ 4 (by decide)⟩
theorem plC_push (l : List Nd) (n : Nd) : plC (l ++ [n]) = plC l ++ [.int .i64 n.id, .int .i64 n.par, .bool n.tx, .string n.dat, noS] := plC_append l n
theorem deep_plain (m : Nat) (hm : m ≤ 1000) : ∀ x ∈ deepL m, x.sty = [] ∧ x.dat.size = 0 ∧ 0 ≤ x.id + 1 ∧ x.id ≤ 1000000 ∧ 0 ≤ x.par + 1 ∧ x.par ≤ 1000000 := by
  intro x hx
  unfold deepL at hx
  rcases List.mem_cons.1 hx with rfl | h
  · exact ⟨rfl, rfl, by decide, by decide, by decide, by decide⟩
  · obtain ⟨i, hi, rfl⟩ := List.mem_map.1 h
    have := List.mem_range.1 hi
    refine ⟨rfl, rfl, ?_, ?_, ?_, ?_⟩ <;> simp only [plN] <;> omega
theorem flat_plain (m : Nat) (hm : m ≤ 1000) : ∀ x ∈ flatL m, x.sty = [] ∧ x.dat.size = 0 ∧ 0 ≤ x.id + 1 ∧ x.id ≤ 1000000 ∧ 0 ≤ x.par + 1 ∧ x.par ≤ 1000000 := by
  intro x hx
  unfold flatL at hx
  rcases List.mem_cons.1 hx with rfl | h
  · exact ⟨rfl, rfl, by decide, by decide, by decide, by decide⟩
  · obtain ⟨i, hi, rfl⟩ := List.mem_map.1 h
    have := List.mem_range.1 hi
    refine ⟨rfl, rfl, ?_, ?_, ?_, ?_⟩ <;> simp only [plN] <;> omega
theorem of_plain (most : Int) (A : Option Addr) (n c : Nat) (l : List Nd) (w : World) (lo : Nat) (h : PlOwn w lo A n c l) (hn : l.length = n) (hs : ∀ x ∈ l, x.sty = [] ∧ x.dat.size = 0 ∧ 0 ≤ x.id + 1 ∧ x.id ≤ 1000000 ∧ 0 ≤ x.par + 1 ∧ x.par ≤ 1000000) (hc : n ≤ c) (hl : n ≤ 1000000) :
    Calls Tryz.prog 9 #[.int .i64 most, .slice A n c] w fun e w' => (∃ p, e = .returned (.tuple #[.pointer p, .bool (ofB most l)])) ∧ Below w.heap.size w w' := by
  have hN := h.low hn hs hl
  subst hn
  refine (tof_any most A c l _ w hN hc fun x hx _ d hd => by rw [(hs x hx).1] at hd; cases hd).mono ?_
  rintro e w' ⟨h1, h2⟩
  unfold OfPost at h1
  refine ⟨?_, h2⟩
  cases hb : ofB most l
  · rw [hb, if_neg (by decide)] at h1; exact ⟨none, h1⟩
  · rw [hb, if_pos rfl] at h1
    obtain ⟨t, h3, -⟩ := h1
    exact ⟨some ⟨t, 0, none⟩, h3⟩
theorem nodes_see_behind {w w' : World} {v : Value} {l : List Nd} (h : NodesSee w v l) (hb : Below w.heap.size w w') : NodesSee w' v l := by
  obtain ⟨A, c, svs, e, h1, h2, h3, h4⟩ := h
  exact ⟨A, c, svs, e, h1, h2, (h3.below hb).more hb.size, fun k hk hk2 => (h4 k hk hk2).below hb⟩
theorem treeBounds_any (a b most : Int) (W : World) :
    Calls Tryz.prog 4 #[.int .i64 a, .int .i64 b, .int .i64 most] W fun e w' => e = .returned (.bool true) ∧ Below W.heap.size W w' := by
  have a3 : ∀ x : Int, bits .and .i64 x 3 = x % 4 := fun x => and_mask_i64 x 2 (by decide)
  obtain ⟨n, hn, n1, n2⟩ : ∃ n : Nat, 18 + a % 4 = n ∧ 18 ≤ n ∧ n ≤ 21 := ⟨(18 + a % 4).toNat, by omega, by omega, by omega⟩
  obtain ⟨k, hk, k1, k2⟩ : ∃ k : Nat, 498 + b % 4 = k ∧ 498 ≤ k ∧ k ≤ 501 := ⟨(498 + b % 4).toNat, by omega, by omega, by omega⟩
  go_enter Tryz.func4, Tryz.ntmps4
  go_upto_region 2 with fail
  have HF : ∀ (m : Int) (g : Nat) (w : World), (Instr.field 39 (.agg #[.int .i64 m, .slice (some ⟨g, 0, none⟩) 1 1]) 1).run Tryz.prog w = .ok (.slice (some ⟨g, 0, none⟩) 1 1) w := fun _ _ _ => by kernel_rfl

  clear hn hk a3
  go_wp2_with fail
  refine (rnew_any 500 W).mono ?_
  rintro e w1 ⟨g1, rfl, ho1, hb1⟩
  have O1 := Lib.hid ho1
  have B1 := Lib.hid hb1
  clear ho1 hb1
  go_wp2_with (rw [HF])
  refine (rnew_any 500 w1).mono ?_
  rintro e w2 ⟨g2, rfl, ho2, hb2⟩
  have T2 : Hid (Two6 W w2 (deepL 0) (some ⟨g1, 0, none⟩) 1 1 (flatL 0) (some ⟨g2, 0, none⟩) 1 1) := Lib.hid ⟨own_below O1.out hb2 (Nat.le_refl _), own_mono ho2 B1.out.size, fun g e1 e2 => by
    have h1 := (O1.out.lt g e1).2
    have h2 := (ho2.lt g e2).1
    omega, B1.out.trans (hb2.mono B1.out.size)⟩
  clear ho2 hb2 O1 B1
  go_upto_region 4 with (rw [HF])
  go_loopw [7, 9, 10] (fun v7 v9 v10 wr => ∃ (A1 : Option Addr) (c1 m : Nat), m ≤ n ∧ v7 = .slice A1 (m + 1) c1 ∧ v9 = .int .i64 ((m : Int) + 1) ∧ Hid (Two6 W wr (deepL m) A1 (m + 1) c1 (flatL 0) (some ⟨g2, 0, none⟩) 1 1)) (fun _ v9 _ _ => (n + 2) - (intOf v9).toNat)
  case atStart => exact ⟨some ⟨g1, 0, none⟩, 1, 0, Nat.zero_le _, rfl, rfl, T2⟩
  case round =>
    clear T2
    obtain ⟨A1, c1, m, hm, rfl, rfl, HT⟩ := hrel
    by_cases hlt : m < n
    · have hle : (m : Int) + 1 ≤ n := by omega
      have h0 : (0 : Int) < ((m + 1 : Nat) : Int) := by omega
      obtain ⟨g, rfl, r0, r1, r2, r3, r4⟩ := first_cells HT.out.one
      go_upto_region 8 with fail
      have hal : Below wr.heap.size wr (wr.alloc (.cells #[.int .i64 ((m : Int) + 1), .int .i64 (m : Int), .bool false, .string ⟨#[]⟩, .slice none 0 0] 32)) := (Below.refl _ _).alloc (Nat.le_refl _) _
      have T3 := Lib.hid (HT.out.behind hal)
      have X3 := Lib.hid (Whole.mk wr 32 #[.int .i64 ((m : Int) + 1), .int .i64 (m : Int), .bool false, .string ⟨#[]⟩, .slice none 0 0])
      clear hal HT r0 r1 r2 r3 r4
      generalize wr.alloc _ = w3 at *
      generalize wr.heap.size = gx at *
      have x0 : w3.cell? ⟨gx, 0, none⟩ = some (.int .i64 ((m : Int) + 1)) := X3.out.cell 0
      have x1 : w3.cell? ⟨gx, 1, none⟩ = some (.int .i64 (m : Int)) := X3.out.cell 1
      have x2 : w3.cell? ⟨gx, 2, none⟩ = some (.bool false) := X3.out.cell 2
      have x3 : w3.cell? ⟨gx, 3, none⟩ = some (.string ⟨#[]⟩) := X3.out.cell 3
      have x4 : w3.cell? ⟨gx, 4, none⟩ = some (.slice none 0 0) := X3.out.cell 4
      have hal := Lib.hid ((Below.refl w3.heap.size w3).alloc (Nat.le_refl _) (.cells #[.int .i64 ((m : Int) + 1), .int .i64 (m : Int), .bool false, .string ⟨#[]⟩, .slice none 0 0] 32))
      have hsz := T3.out.low.size
      have hT4 := T3.out.behind hal.out
      have O4 := Lib.hid hT4.one
      have T4 := Lib.hid hT4
      clear hT4
      go_wp2_with (at_builtin; refine wpList_pushOne rfl (.tmp 41) (.tmp 43) _ rfl W.heap.size 32 5 64 _ Tryz.underlying23 nodeInfo rfl (by decide) (m + 1) (.slice (some ⟨g, 0, none⟩) (m + 1) c1) _ rfl O4.out (by simp; omega) w3.heap.size [.int .i64 ((m : Int) + 1), .int .i64 (m : Int), .bool false, .string ⟨#[]⟩, .slice none 0 0] rfl (Whole.mk w3 32 #[.int .i64 ((m : Int) + 1), .int .i64 (m : Int), .bool false, .string ⟨#[]⟩, .slice none 0 0]) rfl (by simp [Value.oneCell']) (by unfold maxLen; omega) (by omega) ?_; intro A5 c5 w5 h5 ho5 hk5)
      have T5 := Lib.hid (T4.out.push1 h5 ho5 hk5)
      clear h5 ho5 hk5 O4 T4 T3 X3 hal x0 x1 x2 x3 x4
      have T6 : Hid (Two6 W w5 (deepL (m + 1)) A5 (m + 1 + 1) c5 (flatL 0) (some ⟨g2, 0, none⟩) 1 1) := Lib.hid (by unfold Two6; rw [deepL_succ, plC_push]; exact T5.out)
      clear T5
      go_wp2_with fail
      go_roundw
      case rel => exact ⟨A5, c5, m + 1, by omega, rfl, by go_num, T6⟩
      case measure => simp [intOf]; omega
    · have hq : m = n := by omega
      subst hq
      have hle : ¬ ((m : Int) + 1 ≤ m) := by omega
      clear hlt hm
      go_upto_region 10 with fail
      go_loopw [8, 11, 12] (fun v8 v11 v12 ws => ∃ (A2 : Option Addr) (c2 j : Nat), j + 1 ≤ k ∧ v8 = .slice A2 (j + 1) c2 ∧ v11 = .int .i64 ((j : Int) + 1) ∧ Hid (Two6 W ws (deepL m) A1 (m + 1) c1 (flatL j) A2 (j + 1) c2)) (fun _ v11 _ _ => (k + 2) - (intOf v11).toNat)
      case atStart => exact ⟨some ⟨g2, 0, none⟩, 1, 0, by omega, rfl, rfl, HT⟩
      case round =>
        clear HT
        obtain ⟨A2, c2, j, hj, rfl, rfl, HT⟩ := hrel
        by_cases hlt : j + 1 < k
        · have hle2 : (j : Int) + 1 < k := by omega
          have h0 : (0 : Int) < ((j + 1 : Nat) : Int) := by omega
          obtain ⟨g, rfl, r0, r1, r2, r3, r4⟩ := first_cells HT.out.two
          go_upto_region 14 with fail
          have hal : Below wr.heap.size wr (wr.alloc (.cells #[.int .i64 ((j : Int) + 1), .int .i64 0, .bool false, .string ⟨#[]⟩, .slice none 0 0] 32)) := (Below.refl _ _).alloc (Nat.le_refl _) _
          have T3 := Lib.hid (HT.out.behind hal)
          have X3 := Lib.hid (Whole.mk wr 32 #[.int .i64 ((j : Int) + 1), .int .i64 0, .bool false, .string ⟨#[]⟩, .slice none 0 0])
          clear hal HT r0 r1 r2 r3 r4
          generalize wr.alloc _ = w3 at *
          generalize wr.heap.size = gx at *
          have x0 : w3.cell? ⟨gx, 0, none⟩ = some (.int .i64 ((j : Int) + 1)) := X3.out.cell 0
          have x1 : w3.cell? ⟨gx, 1, none⟩ = some (.int .i64 0) := X3.out.cell 1
          have x2 : w3.cell? ⟨gx, 2, none⟩ = some (.bool false) := X3.out.cell 2
          have x3 : w3.cell? ⟨gx, 3, none⟩ = some (.string ⟨#[]⟩) := X3.out.cell 3
          have x4 : w3.cell? ⟨gx, 4, none⟩ = some (.slice none 0 0) := X3.out.cell 4
          have hal := Lib.hid ((Below.refl w3.heap.size w3).alloc (Nat.le_refl _) (.cells #[.int .i64 ((j : Int) + 1), .int .i64 0, .bool false, .string ⟨#[]⟩, .slice none 0 0] 32))
          have hsz := T3.out.low.size
          have hT4 := T3.out.behind hal.out
          have O4 := Lib.hid hT4.two
          have T4 := Lib.hid hT4
          clear hT4
          go_wp2_with (at_builtin; refine wpList_pushOne rfl (.tmp 56) (.tmp 58) _ rfl W.heap.size 32 5 64 _ Tryz.underlying23 nodeInfo rfl (by decide) (j + 1) (.slice (some ⟨g, 0, none⟩) (j + 1) c2) _ rfl O4.out (by simp; omega) w3.heap.size [.int .i64 ((j : Int) + 1), .int .i64 0, .bool false, .string ⟨#[]⟩, .slice none 0 0] rfl (Whole.mk w3 32 #[.int .i64 ((j : Int) + 1), .int .i64 0, .bool false, .string ⟨#[]⟩, .slice none 0 0]) rfl (by simp [Value.oneCell']) (by unfold maxLen; omega) (by omega) ?_; intro A5 c5 w5 h5 ho5 hk5)
          have T5 := Lib.hid (T4.out.push2 h5 ho5 hk5)
          clear h5 ho5 hk5 O4 T4 T3 X3 hal x0 x1 x2 x3 x4
          have T6 : Hid (Two6 W w5 (deepL m) A1 (m + 1) c1 (flatL (j + 1)) A5 (j + 1 + 1) c5) := Lib.hid (by unfold Two6; rw [flatL_succ, plC_push]; exact T5.out)
          clear T5
          go_wp2_with fail
          go_roundw
          case rel => exact ⟨A5, c5, j + 1, by omega, rfl, by go_num, T6⟩
          case measure => simp [intOf]; omega
        · have hq : k = j + 1 := by omega
          subst hq
          have hle2 : ¬ ((j : Int) + 1 < ((j + 1 : Nat) : Int)) := by omega
          clear hlt hj
          have L1 := Lib.hid (deepL_length m)
          have L2 := Lib.hid (flatL_length j)
          have E1 := Lib.hid (deep_of m n1 n2)
          have E2 := Lib.hid (flat_of (j + 1) k1 k2)
          rw [Nat.add_sub_cancel] at E2
          have C1 : Hid (m + 1 ≤ c1) := Lib.hid (by obtain ⟨A', c', e, h1, -, -⟩ := owns_nil HT.out.one; injection e with e1 e2 e3; subst e1 e3; exact h1)
          have C2 : Hid (j + 1 ≤ c2) := Lib.hid (by obtain ⟨A', c', e, h1, -, -⟩ := owns_nil HT.out.two; injection e with e1 e2 e3; subst e1 e3; exact h1)
          have OF1 := Lib.hid (fun w (h : PlOwn w W.heap.size A1 (m + 1) c1 (deepL m)) => of_plain 500 A1 (m + 1) c1 (deepL m) w W.heap.size h L1.out (deep_plain m (by omega)) C1.out (by omega))
          have OF2 := Lib.hid (fun w (h : PlOwn w W.heap.size A2 (j + 1) c2 (flatL j)) => of_plain 1000 A2 (j + 1) c2 (flatL j) w W.heap.size h L2.out (flat_plain j (by omega)) C2.out (by omega))
          obtain ⟨d1, hd1⟩ : ∃ d, decide (m ≤ 20) = d := ⟨_, rfl⟩
          obtain ⟨d2, hd2⟩ : ∃ d, decide (j + 1 ≤ 500) = d := ⟨_, rfl⟩
          have i1 : decide ((m : Int) ≤ 20) = d1 := by rw [← hd1, decide_eq_decide]; omega
          have i2 : decide ((j : Int) + 1 ≤ 500) = d2 := by rw [← hd2, decide_eq_decide]; omega
          have i3 : decide ((j : Int) ≤ 499) = d2 := by rw [← hd2, decide_eq_decide]; omega
          have q1 : (d1 == d1) = true := by cases d1 <;> rfl
          have q2 : (d2 == d2) = true := by cases d2 <;> rfl
          rw [E1.out, hd1] at OF1
          rw [E2.out, hd2] at OF2
          clear hd1 hd2
          have B0 := Lib.hid HT.out.low
          clear E1 E2 C1 C2 L1 L2
          go_upto_region 15 with fail
          go_wp2_with fail
          refine (OF1.out _ HT.out.one).mono ?_
          rintro e w1 ⟨⟨p1, rfl⟩, hb⟩
          have T1 := Lib.hid (HT.out.behind hb)
          have B1 := Lib.hid (B0.out.trans (hb.mono B0.out.size))
          clear hb HT B0 OF1
          go_wp2_with fail
          refine (OF2.out _ T1.out.two).mono ?_
          rintro e w2 ⟨⟨p2, rfl⟩, hb⟩
          have B2 := Lib.hid (B1.out.trans (hb.mono B1.out.size))
          clear hb T1 B1 OF2
          go_wp2_with fail
          refine (tnew_any most _).mono ?_
          rintro e w3 ⟨t, rfl, hT, hb⟩
          have B3 := Lib.hid (B2.out.trans (hb.mono B2.out.size))
          have T3 := Lib.hid hT
          clear hb hT B2
          go_wp2_with fail
          refine (tlen_any T3.out).mono ?_
          rintro e w' ⟨rfl, rfl⟩
          rw [show (([root0].length : Nat) : Int) = 1 from rfl]
          go_wp2_with fail
          refine (thas_any T3.out (id := 0) (by unfold In64i; omega)).mono ?_
          rintro e w' ⟨rfl, rfl⟩
          rw [show hasZ [root0] 0 = true by decide +kernel]
          go_wp2_with fail
          refine (thas_any T3.out (id := 1) (by unfold In64i; omega)).mono ?_
          rintro e w' ⟨rfl, rfl⟩
          rw [show hasZ [root0] 1 = false by decide +kernel]
          obtain ⟨Tr, f1, f2, f3⟩ := of_tree 9 [root0] (by decide +kernel)
          go_wp2_with fail
          refine (tsay_any T3.out (by decide) f1 f2 f3).mono ?_
          rintro e w7 ⟨v, rfl, hN, -, hb⟩
          have B7 := Lib.hid (B3.out.trans (hb.mono B3.out.size))
          have S7 := Lib.hid (hN.see (by decide))
          clear f1 f2 f3 hb hN T3 B3
          go_wp2_with fail
          refine (rnew_any 1 w7).mono ?_
          rintro e w8 ⟨gn, rfl, ho, hb⟩
          have B8 := Lib.hid (B7.out.trans (hb.mono B7.out.size))
          have S8 := Lib.hid (nodes_see_behind S7.out hb)
          have N8 := Lib.hid (ho.see rfl (by intro x hx; simp at hx; subst hx; rfl) (by decide))
          clear hb ho S7 B7
          go_wp2_with (rw [HF])
          refine (nsame_any [root0] v _ w8 S8.out N8.out).mono ?_
          rintro e w9 ⟨rfl, hb⟩
          have B9 := Lib.hid (B8.out.trans (hb.mono B8.out.size))
          clear hb S8 N8 B8
          go_wp2_with fail
          refine (lawake6_any _).mono ?_
          rintro e w10 ⟨rfl, hb⟩
          have B10 := Lib.hid (B9.out.trans (hb.mono B9.out.size))
          go_wp2_with fail
          go_ret
          exact ⟨rfl, B10.out⟩
end Go.Proofs.YtpbfdfpedpfemaaGreatDoor
