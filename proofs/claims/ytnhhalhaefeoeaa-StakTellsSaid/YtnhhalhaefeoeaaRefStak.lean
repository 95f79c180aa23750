import Derived.Test.YtnhhalhaefeoeaaStak
import Derived.Test.YtnhhalhaefeoeaaPush
/- quoinref9.FoldJoin, both, Value, Stack. -/
namespace Go.Proofs.Ytnhhalhaefeoeaa
open Go Go.RowKit
set_option linter.unusedVariables false
set_option linter.unusedSimpArgs false
set_option maxRecDepth 20000
set_option maxHeartbeats 4000000

theorem rval_any (f : Fd) (h : I64 (f.p + f.q)) (W : World) : Calls Try.prog 17 #[fdV f] W fun e w' => e = .returned (.int .i64 (f.p + f.q)) ∧ Below W.heap.size W w' := by
  obtain ⟨p, q⟩ := f
  obtain ⟨h1, h2⟩ := h
  simp only at h1 h2
  have B0 := Lib.hid ((Below.refl W.heap.size W).alloc (Nat.le_refl _) (.cells #[.int .i64 p, .int .i64 q] 25))
  go_enter Try.func17, Try.ntmps17
  go_wp2
  go_ret
  exact ⟨ret_int (by go_num), B0.out⟩
theorem rjoin_any (l : List Fd) (A : Option Addr) (c : Nat) (W : World) (hR : Row W W.heap.size A (l.flatMap fdC)) (hl : l.length ≤ 1000) :
    Calls Try.prog 22 #[.slice A l.length c] W fun e w' => e = .returned (fdV (foldF l)) ∧ Below W.heap.size W w' := by
  have HR := Lib.hid hR
  clear hR
  have B0 := Lib.hid (((Below.refl W.heap.size W).alloc (Nat.le_refl _) (.cells #[.int .i64 0, .int .i64 0] 25)).alloc (by simp) (.cells #[.int .i64 0, .int .i64 0] 25))
  have D0 : Hid (Whole ((W.alloc (.cells #[.int .i64 0, .int .i64 0] 25)).alloc (.cells #[.int .i64 0, .int .i64 0] 25)) W.heap.size 25 [.int .i64 0, .int .i64 0]) :=
    Lib.hid ((Whole.mk W 25 #[.int .i64 0, .int .i64 0]).made _)
  have S0 : Hid (Whole ((W.alloc (.cells #[.int .i64 0, .int .i64 0] 25)).alloc (.cells #[.int .i64 0, .int .i64 0] 25)) (W.heap.size + 1) 25 [.int .i64 0, .int .i64 0]) :=
    Lib.hid (by have h := Whole.mk (W.alloc (.cells #[.int .i64 0, .int .i64 0] 25)) 25 #[.int .i64 0, .int .i64 0]; simpa using h)
  go_enter Try.func22, Try.ntmps22
  go_upto_region 3 with fail
  generalize (W.alloc _).alloc _ = w1 at *
  go_loopw [4] (fun v4 wr => ∃ k : Nat, k ≤ l.length ∧ v4 = .int .i64 k ∧ Hid (Whole wr W.heap.size 25 [.int .i64 0, .int .i64 0]) ∧ Hid (Whole wr (W.heap.size + 1) 25 (fdC (foldF (l.take k)))) ∧ Hid (Below W.heap.size W wr)) (fun v4 _ => l.length - (intOf v4).toNat)
  case atStart => exact ⟨0, Nat.zero_le _, rfl, D0, S0, B0⟩
  case round =>
    clear D0 S0 B0
    obtain ⟨k, hk, rfl, D, S, B⟩ := hrel
    by_cases hlt : k < l.length
    · have hki : (k : Int) < l.length := by omega
      obtain ⟨ad, rfl, hb, r0, r1⟩ := (HR.out.below B.out).fd hlt
      have HE := Lib.hid (foldF_take l k hlt)
      have hz := S.out.size
      have hbz := B.out.size
      generalize foldF (l.take k) = a at *
      obtain ⟨ap, aq⟩ := a
      generalize l[k] = f at *
      obtain ⟨fp, fq⟩ := f
      simp only at r0 r1
      have Y0 : ∀ t : Later wr.heap.size wr, t.w.cell? ⟨W.heap.size + 1, 0, none⟩ = some (.int .i64 ap) := fun t => (S.out.under t.h S.out.size).cell 0
      have Y1 : ∀ t : Later wr.heap.size wr, t.w.cell? ⟨W.heap.size + 1, 1, none⟩ = some (.int .i64 aq) := fun t => (S.out.under t.h S.out.size).cell 1
      have Z0 : ∀ t : Later wr.heap.size wr, t.w.cell? (ad.add (k * 2)) = some (.int .i64 fp) := fun t => (t.h.cell (by rw [add_block]; omega)).trans r0
      have Z1 : ∀ t : Later wr.heap.size wr, t.w.cell? ⟨(ad.add (k * 2)).block, (ad.add (k * 2)).off + 1, none⟩ = some (.int .i64 fq) := fun t => (t.h.cell (p := ⟨(ad.add (k * 2)).block, (ad.add (k * 2)).off + 1, none⟩) (by simp only [add_block]; omega)).trans r1
      clear r0 r1
      go_upto_region 5 with fail
      refine region_lane [] (List.range 17) [17] (by kernel_rfl) (by kernel_rfl) (fun _ _ _ _ _ h => h) ?_
      simp only [pick, List.map_nil]
      refine wpQuiet_nil ⟨rfl, ?_⟩
      rw [show List.range 17 = [0, 1, 2, 3, 4, 5, 6, 7, 8, 9, 10, 11, 12, 13, 14, 15, 16] from rfl]
      simp only [List.map_cons, List.map_nil, List.getD_cons_zero, List.getD_cons_succ, List.drop_succ_cons, List.drop_zero]
      refine laneO_run 7 (by kernel_rfl) ?_
      simp only [List.take_succ_cons, List.take_zero, List.drop_succ_cons, List.drop_zero]
      repeat (go_big_quiet_step (fail))
      refine wpQuiet_nil ?_
      refine laneO_fixed (v := .int .i64 (max ap fp)) (by kernel_rfl) (fun w hw => .inl ⟨by rfl, ?_⟩) ?_
      focus (unfold gives; simp [go_sem, run_max_two]; exact Behind.refl w)
      simp only [Act.put, List.setIfInBounds_toArray, List.set_cons_zero, List.set_cons_succ]
      refine laneO_run 7 (by kernel_rfl) ?_
      simp only [List.take_succ_cons, List.take_zero, List.drop_succ_cons, List.drop_zero]
      repeat (go_big_quiet_step (fail))
      refine wpQuiet_nil ?_
      refine laneO_fixed (v := .int .i64 (min aq fq)) (by kernel_rfl) (fun w hw => .inl ⟨by rfl, ?_⟩) ?_
      focus (unfold gives; simp [go_sem, run_min_two]; exact Behind.refl w)
      simp only [Act.put, List.setIfInBounds_toArray, List.set_cons_zero, List.set_cons_succ]
      refine laneO_fixed (v := .agg #[.int .i64 (max ap fp), .int .i64 (min aq fq)]) (by kernel_rfl) (fun w hw => .inl ⟨by rfl, built_gives _ _ rfl _ (by kernel_rfl)⟩) ?_
      simp only [Act.put, List.setIfInBounds_toArray, List.set_cons_zero, List.set_cons_succ]
      refine laneO_end0 rfl rfl fun w2 hb0 => ?_
      have S1 := Lib.hid (S.out.under hb0 S.out.size)
      have D1 := Lib.hid (D.out.under hb0 D.out.size)
      have B1 := Lib.hid (B.out.trans (hb0.mono B.out.size))
      have c0 := S1.out.cell 0
      have c1 := S1.out.cell 1
      have f0 := S1.out.free 0
      have f1 := S1.out.free 1
      simp only [List.getElem?_cons_zero, List.getElem?_cons_succ, fdC] at c0 c1
      have S2 := Lib.hid ((S1.out.put 0 (.int .i64 (max ap fp))).put 1 (.int .i64 (min aq fq)))
      have D2 := Lib.hid ((D1.out.other (p := ⟨W.heap.size + 1, 0, none⟩) (by simp) (.int .i64 (max ap fp))).other (p := ⟨W.heap.size + 1, 1, none⟩) (by simp) (.int .i64 (min aq fq)))
      have B2 := Lib.hid ((B1.out.setCell (p := ⟨W.heap.size + 1, 0, none⟩) (by simp) (.int .i64 (max ap fp))).setCell (p := ⟨W.heap.size + 1, 1, none⟩) (by simp) (.int .i64 (min aq fq)))
      clear S1 D1 B1 hb0 Y0 Y1 Z0 Z1 S D B
      go_wp2_with fail
      go_roundw
      case rel => exact ⟨k + 1, by omega, by go_num, D2, Lib.hid (by rw [HE.out]; exact S2.out), B2⟩
      case measure => simp [intOf]; omega
    · have hq : k = l.length := by omega
      have hki : ¬ (k : Int) < l.length := by omega
      have HE := Lib.hid (show foldF (l.take k) = foldF l by rw [hq, List.take_length])
      rw [HE.out] at S
      clear HE
      obtain ⟨a, ha⟩ : ∃ a, foldF l = a := ⟨_, rfl⟩
      rw [ha] at S
      have HA := Lib.hid ha
      clear ha
      obtain ⟨p, q⟩ := a
      have c0 : wr.cell? ⟨W.heap.size + 1, 0, none⟩ = some (.int .i64 p) := S.out.cell 0
      have c1 : wr.cell? ⟨W.heap.size + 1, 1, none⟩ = some (.int .i64 q) := S.out.cell 1
      have e0 := D.out.cell 0
      have e1 := D.out.cell 1
      have g0 := D.out.free 0
      have g1 := D.out.free 1
      simp only [List.getElem?_cons_zero, List.getElem?_cons_succ] at e0 e1
      have R := Lib.hid ((D.out.put 0 (.int .i64 p)).put 1 (.int .i64 q))
      have B3 := Lib.hid ((B.out.setCell (p := ⟨W.heap.size, 0, none⟩) (by simp) (.int .i64 p)).setCell (p := ⟨W.heap.size, 1, none⟩) (by simp) (.int .i64 q))
      clear S D B
      go_wp2_with fail
      exact cells_end (n := 2) fd_flat rfl W.heap.size rfl (fdC ⟨p, q⟩) rfl 25 R.out rfl ⟨by rw [HA.out]; rfl, B3.out⟩
theorem both_any (f t : Fd) (hs : Sgn f) (W : World) : Calls Try.prog 16 #[fdV f, fdV t] W fun e w' => e = .returned (fdV (joinS f t)) ∧ Below W.heap.size W w' := by
  have J := Lib.hid (fun A c w hR => rjoin_any [f, t] A c w hR (by simp))
  rw [foldF_two f t hs] at J
  obtain ⟨x, hx⟩ : ∃ x, joinS f t = x := ⟨_, rfl⟩
  rw [hx] at J ⊢
  clear hx hs
  obtain ⟨p, q⟩ := f
  obtain ⟨r, s⟩ := t
  obtain ⟨x, y⟩ := x
  have B0 := Lib.hid ((((Below.refl W.heap.size W).alloc (Nat.le_refl _) (.cells #[.int .i64 p, .int .i64 q] 25)).alloc (by simp) (.cells #[.int .i64 r, .int .i64 s] 25)).alloc (by simp; omega) (.cells #[.int .i64 0, .int .i64 0] 25))
  have R0 : Hid (Whole (((W.alloc (.cells #[.int .i64 p, .int .i64 q] 25)).alloc (.cells #[.int .i64 r, .int .i64 s] 25)).alloc (.cells #[.int .i64 0, .int .i64 0] 25)) (W.heap.size + 2) 25 [.int .i64 0, .int .i64 0]) := Lib.hid (by
    have h := Whole.mk ((W.alloc (.cells #[.int .i64 p, .int .i64 q] 25)).alloc (.cells #[.int .i64 r, .int .i64 s] 25)) 25 #[.int .i64 0, .int .i64 0]
    simpa using h)
  go_enter Try.func16, Try.ntmps16
  go_wp2_with fail
  have R1 := Lib.hid (R0.out.made (.cells #[.int .i64 p, .int .i64 q, .int .i64 r, .int .i64 s] 25))
  have B1 := Lib.hid (B0.out.alloc (by simp; omega) (.cells #[.int .i64 p, .int .i64 q, .int .i64 r, .int .i64 s] 25))
  have RW := Lib.hid (row_new (((W.alloc (.cells #[.int .i64 p, .int .i64 q] 25)).alloc (.cells #[.int .i64 r, .int .i64 s] 25)).alloc (.cells #[.int .i64 0, .int .i64 0] 25)) #[.int .i64 p, .int .i64 q, .int .i64 r, .int .i64 s] 25)
  clear R0 B0
  refine (J.out _ _ _ (by have h := RW.out; simpa [fdC] using h)).mono ?_
  rintro e w2 ⟨rfl, hb⟩
  have R2 := Lib.hid (R1.out.under hb R1.out.size)
  have B2 := Lib.hid (B1.out.trans (hb.mono B1.out.size))
  have f0 := R2.out.free 0
  have f1 := R2.out.free 1
  have e0 := R2.out.cell 0
  have e1 := R2.out.cell 1
  simp only [List.getElem?_cons_zero, List.getElem?_cons_succ] at e0 e1
  have R3 := Lib.hid ((R2.out.put 0 (.int .i64 x)).put 1 (.int .i64 y))
  have B3 := Lib.hid ((B2.out.setCell (p := ⟨W.heap.size + 2, 0, none⟩) (by simp) (.int .i64 x)).setCell (p := ⟨W.heap.size + 2, 1, none⟩) (by simp) (.int .i64 y))
  clear R1 B1 RW hb J R2 B2
  go_wp2_with fail
  exact cells_end (n := 2) fd_flat rfl (W.heap.size + 2) rfl (fdC ⟨x, y⟩) rfl 25 R3.out rfl ⟨rfl, B3.out⟩

/-- What quoinref9.Stack holds behind some boxes. -/
structure RSt (W w : World) (f t : Fd) (n : Nat) (zs : List Int) (A : Option Addr) (c : Nat) : Prop where
  own : w.ownsRow W.heap.size 2 1 (.slice A n c) n (i64s zs)
  res : Whole w W.heap.size 31 [.int .i64 0, .int .i64 0, .int .i64 0, .int .i64 0, .bool false, .int .i64 0]
  fv : Whole w (W.heap.size + 1) 25 [.int .i64 f.p, .int .i64 f.q]
  out : Whole w (W.heap.size + 2) 31 [.int .i64 t.p, .int .i64 t.q, .int .i64 0, .int .i64 0, .bool false, .int .i64 0]
  low : Below W.heap.size W w
section
variable {W w w' : World} {f t : Fd} {n : Nat} {zs : List Int} {A A' : Option Addr} {c c' : Nat}
theorem RSt.behind (h : RSt W w f t n zs A c) (hb : Below w.heap.size w w') : RSt W w' f t n zs A c :=
  ⟨own_below h.own hb (Nat.le_refl _), h.res.under hb h.res.size, h.fv.under hb h.fv.size, h.out.under hb h.out.size, h.low.trans (hb.mono h.low.size)⟩
theorem RSt.setF (h : RSt W w f t n zs A c) (p q : Int) : RSt W ((w.setCell ⟨W.heap.size + 1, 0, none⟩ (.int .i64 p)).setCell ⟨W.heap.size + 1, 1, none⟩ (.int .i64 q)) ⟨p, q⟩ t n zs A c := by
  have n1 : (Value.slice A n c).ownBlock ≠ some (W.heap.size + 1) := whole_ne h.fv h.own (by decide)
  exact ⟨ownsRow_setCell_other (ownsRow_setCell_other h.own (a := ⟨W.heap.size + 1, 0, none⟩) n1 _) (a := ⟨W.heap.size + 1, 1, none⟩) n1 _,
    (h.res.other (p := ⟨W.heap.size + 1, 0, none⟩) (by simp) _).other (p := ⟨W.heap.size + 1, 1, none⟩) (by simp) _, (h.fv.put 0 _).put 1 _,
    (h.out.other (p := ⟨W.heap.size + 1, 0, none⟩) (by simp) _).other (p := ⟨W.heap.size + 1, 1, none⟩) (by simp) _,
    (h.low.setCell (p := ⟨W.heap.size + 1, 0, none⟩) (by simp) _).setCell (p := ⟨W.heap.size + 1, 1, none⟩) (by simp) _⟩
theorem RSt.setT (h : RSt W w f t n zs A c) (p q : Int) : RSt W ((w.setCell ⟨W.heap.size + 2, 0, none⟩ (.int .i64 p)).setCell ⟨W.heap.size + 2, 1, none⟩ (.int .i64 q)) f ⟨p, q⟩ n zs A c := by
  have n1 : (Value.slice A n c).ownBlock ≠ some (W.heap.size + 2) := whole_ne h.out h.own (by decide)
  exact ⟨ownsRow_setCell_other (ownsRow_setCell_other h.own (a := ⟨W.heap.size + 2, 0, none⟩) n1 _) (a := ⟨W.heap.size + 2, 1, none⟩) n1 _,
    (h.res.other (p := ⟨W.heap.size + 2, 0, none⟩) (by simp) _).other (p := ⟨W.heap.size + 2, 1, none⟩) (by simp) _,
    (h.fv.other (p := ⟨W.heap.size + 2, 0, none⟩) (by simp) _).other (p := ⟨W.heap.size + 2, 1, none⟩) (by simp) _, (h.out.put 0 _).put 1 _,
    (h.low.setCell (p := ⟨W.heap.size + 2, 0, none⟩) (by simp) _).setCell (p := ⟨W.heap.size + 2, 1, none⟩) (by simp) _⟩
theorem RSt.push (h : RSt W w f t n zs A c) (z : Int) (ho : w'.ownsRow W.heap.size 2 1 (.slice A' (n + 1) c') (n + 1) (i64s zs ++ [.int .i64 z])) (hn : Only (Value.slice A n c).ownBlock.toList w w') : RSt W w' f t (n + 1) (zs ++ [z]) A' c' :=
  ⟨by have := ho; rwa [show i64s zs ++ [Value.int .i64 z] = i64s (zs ++ [z]) by simp [i64s]] at this,
    hn.whole h.res (by intro hx; exact whole_ne h.res h.own (by decide) (by simpa using hx)), hn.whole h.fv (by intro hx; exact whole_ne h.fv h.own (by decide) (by simpa using hx)),
    hn.whole h.out (by intro hx; exact whole_ne h.out h.own (by decide) (by simpa using hx)),
    h.low.trans (hn.below (fun x hx => (h.own.lt x (by simpa using hx)).1) h.low.size)⟩
end
theorem rstack_any (l : List Ld) (hl : l.length ≤ 80) (hok : ∀ x ∈ l, LdOk x) (A : Option Addr) (c : Nat) (top bottom : Bool) (W : World) (hR : Row W W.heap.size A (l.flatMap ldC)) :
    Calls Try.prog 11 #[.slice A l.length c, .bool top, .bool bottom] W fun e w' => ∃ A' c', e = .returned (.tuple #[.slice A' l.length c', sdV (endS (runS (startS top) l) bottom)]) ∧
      w'.ownsRow W.heap.size 2 1 (.slice A' l.length c') l.length (i64s (atL (startS top) l)) ∧ Below W.heap.size W w' := by
  have HR := Lib.hid hR
  have HOK := Lib.hid hok
  clear hR hok
  have R0 : Hid (RSt W (((W.alloc (.cells #[.int .i64 0, .int .i64 0, .int .i64 0, .int .i64 0, .bool false, .int .i64 0] 31)).alloc (.cells #[.int .i64 0, .int .i64 0] 25)).alloc (.cells #[.int .i64 0, .int .i64 0, .int .i64 0, .int .i64 0, .bool false, .int .i64 0] 31)) zF zF 0 [] none 0) := Lib.hid (by
    refine ⟨⟨rfl, .inl ⟨rfl, rfl⟩⟩, ((Whole.mk W 31 #[.int .i64 0, .int .i64 0, .int .i64 0, .int .i64 0, .bool false, .int .i64 0]).made _).made _, ?_, ?_, (((Below.refl W.heap.size W).alloc (Nat.le_refl _) _).alloc (by simp) _).alloc (by simp; omega) _⟩
    · have h := (Whole.mk (W.alloc (.cells #[.int .i64 0, .int .i64 0, .int .i64 0, .int .i64 0, .bool false, .int .i64 0] 31)) 25 #[.int .i64 0, .int .i64 0]).made (.cells #[.int .i64 0, .int .i64 0, .int .i64 0, .int .i64 0, .bool false, .int .i64 0] 31)
      simpa [zF] using h
    · have h := Whole.mk ((W.alloc (.cells #[.int .i64 0, .int .i64 0, .int .i64 0, .int .i64 0, .bool false, .int .i64 0] 31)).alloc (.cells #[.int .i64 0, .int .i64 0] 25)) 31 #[.int .i64 0, .int .i64 0, .int .i64 0, .int .i64 0, .bool false, .int .i64 0]
      simp at h
      exact h)
  go_enter Try.func11, Try.ntmps11
  go_upto_region 5 with fail
  generalize ((W.alloc _).alloc _).alloc _ = w1 at *
  go_upto_region 7 with fail
  go_loopw [8, 9, 12, 13, 14] (fun v8 v9 v12 v13 v14 wr => ∃ (k : Nat) (A' : Option Addr) (c' : Nat), k ≤ l.length ∧ v8 = .slice A' k c' ∧ v9 = .int .i64 (runS (startS top) (l.take k)).y ∧ v12 = .bool (runS (startS top) (l.take k)).a ∧ v13 = .int .i64 k ∧
    Hid (RSt W wr (runS (startS top) (l.take k)).f (runS (startS top) (l.take k)).t k (atL (startS top) (l.take k)) A' c')) (fun _ _ _ v13 _ _ => l.length - (intOf v13).toNat)
  case atStart => exact ⟨0, none, 0, Nat.zero_le _, rfl, rfl, rfl, rfl, R0⟩
  case round =>
    clear R0
    obtain ⟨k, A', c', hk, rfl, rfl, rfl, rfl, R⟩ := hrel
    by_cases hlt : k < l.length
    · have hki : (k : Int) < l.length := by omega
      obtain ⟨ad, rfl, hb, r0, r1⟩ := (HR.out.below R.out.low).ld hlt
      have hp : (ad.add (k * 6)).block < W.heap.size := by rw [add_block]; exact hb
      have OK := Lib.hid (take_ok HOK.out top k hk)
      have OX := Lib.hid (HOK.out _ (List.getElem_mem hlt))
      have ER := Lib.hid (runS_take (startS top) l k hlt)
      have EA := Lib.hid (atL_take (startS top) l k hlt)
      have PO := Lib.hid (putS_ok OK.out OX.out).2
      generalize runS (startS top) (l.take k) = s at *
      generalize l[k] = x at *
      generalize atL (startS top) (l.take k) = zs at *
      have YP := Lib.hid (fun (w : World) (j : Nat) (v : Value) (hw : Below W.heap.size wr w) (hj : 0 < j) (he : (ldC x)[j]? = some v) => (hw.cell (p := ⟨(ad.add (k * 6)).block, (ad.add (k * 6)).off + j, none⟩) hp).trans (r1 j v hj he))
      have YH := Lib.hid (fun (w : World) (hw : Below W.heap.size wr w) => (hw.cell hp).trans r0)
      clear r0 r1
      obtain ⟨y, ⟨fp, fq⟩, a, ⟨tp, tq⟩⟩ := s
      obtain ⟨h, ⟨xp, xq⟩, ⟨bp, bq⟩, th⟩ := x
      obtain ⟨z, hz⟩ : ∃ z, atZ ⟨y, ⟨fp, fq⟩, a, ⟨tp, tq⟩⟩ ⟨h, ⟨xp, xq⟩, ⟨bp, bq⟩, th⟩ = z := ⟨_, rfl⟩
      obtain ⟨jp, hjp⟩ : ∃ z, max fp xp = z := ⟨_, rfl⟩
      obtain ⟨jq, hjq⟩ : ∃ z, min fq xq = z := ⟨_, rfl⟩
      have HJ : Hid (joinS ⟨fp, fq⟩ ⟨xp, xq⟩ = ⟨jp, jq⟩) := Lib.hid (by rw [← hjp, ← hjq]; rfl)
      have HB : Hid (0 ≤ jp ∧ jp < 4294967296 ∧ jq ≤ 0 ∧ -4294967296 < jq) := Lib.hid (by
        obtain ⟨c1, c2, c3, c4, c5, c6, c7, c8, c9, c10, -⟩ := OX.out
        obtain ⟨d1, d2, d3, d4, -⟩ := OK.out
        simp only at *; omega)
      have HP : Hid (putS ⟨y, ⟨fp, fq⟩, a, ⟨tp, tq⟩⟩ ⟨h, ⟨xp, xq⟩, ⟨bp, bq⟩, th⟩ = if th then ⟨y, joinS ⟨jp, jq⟩ ⟨bp, bq⟩, a, ⟨tp, tq⟩⟩ else ⟨z + h, ⟨bp, bq⟩, false, if a then ⟨jp, jq⟩ else ⟨tp, tq⟩⟩) := Lib.hid (by
        unfold putS; simp only [hz, HJ.out])
      have HZ : Hid (z = if a then y else y + (jp + jq)) := Lib.hid (by rw [← hz]; unfold atZ posS; simp only [HJ.out])
      have ZB := Lib.hid (by have := PO.out; rw [hz] at this; exact this)
      rw [HP.out] at ER
      rw [hz] at EA
      have J1 := Lib.hid (fun w => both_any ⟨fp, fq⟩ ⟨xp, xq⟩ ⟨OK.out.fp, OK.out.fq⟩ w)
      rw [HJ.out] at J1
      have VF := Lib.hid (fun w => rval_any ⟨jp, jq⟩ (by have := HB.out; unfold I64; simp only; omega) w)
      have J2 := Lib.hid (fun w => both_any ⟨jp, jq⟩ ⟨bp, bq⟩ ⟨HB.out.1, HB.out.2.2.1⟩ w)
      have HC : Hid ((a = true → z = 0 ∧ y = 0) ∧ -9223372036854775808 ≤ z + h ∧ z + h < 9223372036854775808 ∧ -9223372036854775808 ≤ z ∧ z < 9223372036854775808) := Lib.hid (by
        have o1 := OX.out.h0
        have o2 := OX.out.h1
        have o3 := ZB.out
        have o4 := OK.out.top
        simp only at o1 o2 o4
        refine ⟨fun ha => ?_, by omega, by omega, by omega, by omega⟩
        have h0 := o4 ha
        have h1 := HZ.out
        rw [ha, if_pos rfl] at h1
        omega)
      clear hz hjp hjq OK OX PO HP HJ ZB
      go_upto_region 9 with fail
      have Y0 : ∀ t : Later wr.heap.size wr, t.w.cell? ⟨W.heap.size + 1, 0, none⟩ = some (.int .i64 fp) := fun t => (R.out.fv.under t.h R.out.fv.size).cell 0
      have Y1 : ∀ t : Later wr.heap.size wr, t.w.cell? ⟨W.heap.size + 1, 1, none⟩ = some (.int .i64 fq) := fun t => (R.out.fv.under t.h R.out.fv.size).cell 1
      have Z0 : ∀ t : Later wr.heap.size wr, t.w.cell? ⟨(ad.add (k * 6)).block, (ad.add (k * 6)).off + 1, none⟩ = some (.int .i64 xp) := fun t => YP.out t.w 1 _ (t.h.mono R.out.low.size) (by decide) rfl
      have Z1 : ∀ t : Later wr.heap.size wr, t.w.cell? ⟨(ad.add (k * 6)).block, (ad.add (k * 6)).off + 2, none⟩ = some (.int .i64 xq) := fun t => YP.out t.w 2 _ (t.h.mono R.out.low.size) (by decide) rfl
      refine region_lane [] [0, 1, 2, 3, 4, 5, 6] [7] (by kernel_rfl) (by kernel_rfl) (fun _ _ _ _ _ h => h) ?_
      simp only [pick, List.map_nil]
      refine wpQuiet_nil ⟨rfl, ?_⟩
      simp only [List.map_cons, List.map_nil, List.getD_cons_zero, List.getD_cons_succ, List.drop_succ_cons, List.drop_zero]
      refine laneO_run 6 (by kernel_rfl) ?_
      simp only [List.take_succ_cons, List.take_zero, List.drop_succ_cons, List.drop_zero]
      repeat (go_big_quiet_step (fail))
      refine wpQuiet_nil ?_
      refine laneO_call (v := (.agg #[.int .i64 jp, .int .i64 jq])) (by kernel_rfl) (by rfl) (fun C hC h0 => ?_) ?_
      focus (go_big_quiet_op; exact ⟨_, fun w hw => (J1.out w).mono fun e w' ⟨he, hb⟩ => ⟨he, hC _ _ hw hb⟩, rfl⟩)
      simp only [Act.put, List.setIfInBounds_toArray, List.set_cons_zero, List.set_cons_succ]
      refine laneO_end0 rfl rfl fun w2 hb0 => ?_
      have R2 := Lib.hid (R.out.behind hb0)
      have U2 := Lib.hid (hb0.mono R.out.low.size)
      clear Y0 Y1 Z0 Z1 hb0 J1 R
      have f0 := R2.out.fv.free 0
      have f1 := R2.out.fv.free 1
      have e0 := R2.out.fv.cell 0
      have e1 := R2.out.fv.cell 1
      simp only [List.getElem?_cons_zero, List.getElem?_cons_succ] at e0 e1
      have R3 := Lib.hid (R2.out.setF jp jq)
      have U3 := Lib.hid ((U2.out.setCell (p := ⟨W.heap.size + 1, 0, none⟩) (by simp) (.int .i64 jp)).setCell (p := ⟨W.heap.size + 1, 1, none⟩) (by simp) (.int .i64 jq))
      clear R2 U2
      go_upto_region 10 with fail
      generalize (w2.setCell _ _).setCell _ _ = w3 at *
      clear f0 f1 e0 e1
      have KEY : Hid (∀ w4 : World, RSt W w4 ⟨jp, jq⟩ ⟨tp, tq⟩ k zs A' c' → Below W.heap.size wr w4 → True) := Lib.hid (fun _ _ _ => trivial)
      clear KEY
      cases a
      · rw [if_neg (by decide)] at HZ
        have HZ0 := HZ.out
        have g0 : w3.cell? ⟨W.heap.size + 1, 0, none⟩ = some (.int .i64 jp) := R3.out.fv.cell 0
        have g1 : w3.cell? ⟨W.heap.size + 1, 1, none⟩ = some (.int .i64 jq) := R3.out.fv.cell 1
        clear HZ0
        go_wp2_with fail
        refine (VF.out _).mono ?_
        rintro e w4 ⟨rfl, hb⟩
        have R4 := Lib.hid (R3.out.behind hb)
        have U4 := Lib.hid (U3.out.trans (hb.mono (by have := R3.out.low.size; have := U3.out.size; omega)))
        clear hb R3 U3 g0 g1 VF
        obtain ⟨-, v1, v2, v3, v4⟩ := HC.out
        rw [HZ.out] at v3 v4
        go_upto_region 13 with fail
        rw [← HZ.out]
        clear v3 v4
        have q5 : w4.cell? ⟨(ad.add (k * 6)).block, (ad.add (k * 6)).off + 5, none⟩ = some (.bool th) := YP.out w4 5 _ U4.out (by decide) rfl
        obtain ⟨-, v1, v2, -, -⟩ := HC.out
        cases th
        · clear J2
          have RA := Lib.hid (R4.out.behind ((Below.refl _ w4).alloc (Nat.le_refl _) (.cells #[.int .i64 z] 2)))
          have UA := Lib.hid (U4.out.alloc (by have := R4.out.low.size; omega) (.cells #[.int .i64 z] 2))
          clear R4 U4
          go_upto_region 21 with (at_builtin; refine wpList_pushOne rfl (.tmp 57) (.tmp 59) _ rfl W.heap.size 2 1 8 (.int .i64 0) Try.underlying29 i64cell_info rfl (by decide) k (.slice A' k c') _ rfl RA.out.own RA.out.low.size w4.heap.size [.int .i64 z] rfl (Whole.mk w4 2 #[.int .i64 z]) rfl (by simp [Value.oneCell']) (by unfold maxLen; omega) (by omega) ?_; intro A5 c5 w5 o5 h5 k5)
          have R5 := Lib.hid (RA.out.push z o5 h5)
          have U5 := Lib.hid (UA.out.trans (h5.below (B := W.heap.size) (fun x hx => (RA.out.own.lt x (by simpa using hx)).1) RA.out.low.size))
          clear RA UA o5 h5 k5
          have q0 : w5.cell? (ad.add (k * 6)) = some (.int .i64 h) := YH.out w5 U5.out
          have q3 : w5.cell? ⟨(ad.add (k * 6)).block, (ad.add (k * 6)).off + 3, none⟩ = some (.int .i64 bp) := YP.out w5 3 _ U5.out (by decide) rfl
          have q4 : w5.cell? ⟨(ad.add (k * 6)).block, (ad.add (k * 6)).off + 4, none⟩ = some (.int .i64 bq) := YP.out w5 4 _ U5.out (by decide) rfl
          have f0 := R5.out.fv.free 0
          have f1 := R5.out.fv.free 1
          have e0 := R5.out.fv.cell 0
          have e1 := R5.out.fv.cell 1
          simp only [List.getElem?_cons_zero, List.getElem?_cons_succ] at e0 e1
          have R6 := Lib.hid (R5.out.setF bp bq)
          clear R5 U5 YP YH
          go_wp2_with fail
          go_roundw
          case rel => exact ⟨k + 1, A5, c5, by omega, by go_num, by rw [ER.out]; rfl, by rw [ER.out]; rfl, by go_num, Lib.hid (by rw [ER.out, EA.out]; exact R6.out)⟩
          case measure => simp [intOf]; omega
        · have hk0 := hk
          have RA := Lib.hid (R4.out.behind ((Below.refl _ w4).alloc (Nat.le_refl _) (.cells #[.int .i64 z] 2)))
          have UA := Lib.hid (U4.out.alloc (by have := R4.out.low.size; omega) (.cells #[.int .i64 z] 2))
          clear R4 U4
          go_upto_region 15 with (at_builtin; refine wpList_pushOne rfl (.tmp 43) (.tmp 45) _ rfl W.heap.size 2 1 8 (.int .i64 0) Try.underlying29 i64cell_info rfl (by decide) k (.slice A' k c') _ rfl RA.out.own RA.out.low.size w4.heap.size [.int .i64 z] rfl (Whole.mk w4 2 #[.int .i64 z]) rfl (by simp [Value.oneCell']) (by unfold maxLen; omega) (by omega) ?_; intro A5 c5 w5 o5 h5 k5)
          have R5 := Lib.hid (RA.out.push z o5 h5)
          have U5 := Lib.hid (UA.out.trans (h5.below (B := W.heap.size) (fun x hx => (RA.out.own.lt x (by simpa using hx)).1) RA.out.low.size))
          clear RA UA o5 h5 k5
          obtain ⟨up, hup⟩ : ∃ z, max jp bp = z := ⟨_, rfl⟩
          obtain ⟨uq, huq⟩ : ∃ z, min jq bq = z := ⟨_, rfl⟩
          have HJ : Hid (joinS ⟨jp, jq⟩ ⟨bp, bq⟩ = ⟨up, uq⟩) := Lib.hid (by rw [← hup, ← huq]; rfl)
          rw [HJ.out] at J2 ER
          clear hup huq q5
          have Y0 : ∀ t : Later w5.heap.size w5, t.w.cell? ⟨W.heap.size + 1, 0, none⟩ = some (.int .i64 jp) := fun t => (R5.out.fv.under t.h R5.out.fv.size).cell 0
          have Y1 : ∀ t : Later w5.heap.size w5, t.w.cell? ⟨W.heap.size + 1, 1, none⟩ = some (.int .i64 jq) := fun t => (R5.out.fv.under t.h R5.out.fv.size).cell 1
          have Z0 : ∀ t : Later w5.heap.size w5, t.w.cell? ⟨(ad.add (k * 6)).block, (ad.add (k * 6)).off + 3, none⟩ = some (.int .i64 bp) := fun t => YP.out t.w 3 _ (U5.out.trans (t.h.mono R5.out.low.size)) (by decide) rfl
          have Z1 : ∀ t : Later w5.heap.size w5, t.w.cell? ⟨(ad.add (k * 6)).block, (ad.add (k * 6)).off + 4, none⟩ = some (.int .i64 bq) := fun t => YP.out t.w 4 _ (U5.out.trans (t.h.mono R5.out.low.size)) (by decide) rfl
          refine region_lane [] [0, 1, 2, 3, 4, 5, 6] [7] (by kernel_rfl) (by kernel_rfl) (fun _ _ _ _ _ h => h) ?_
          simp only [pick, List.map_nil]
          refine wpQuiet_nil ⟨rfl, ?_⟩
          simp only [List.map_cons, List.map_nil, List.getD_cons_zero, List.getD_cons_succ, List.drop_succ_cons, List.drop_zero]
          refine laneO_run 6 (by kernel_rfl) ?_
          simp only [List.take_succ_cons, List.take_zero, List.drop_succ_cons, List.drop_zero]
          repeat (go_big_quiet_step (fail))
          refine wpQuiet_nil ?_
          refine laneO_call (v := (.agg #[.int .i64 up, .int .i64 uq])) (by kernel_rfl) (by rfl) (fun C hC h0 => ?_) ?_
          focus (go_big_quiet_op; exact ⟨_, fun w hw => (J2.out w).mono fun e w' ⟨he, hb⟩ => ⟨he, hC _ _ hw hb⟩, rfl⟩)
          simp only [Act.put, List.setIfInBounds_toArray, List.set_cons_zero, List.set_cons_succ]
          refine laneO_end0 rfl rfl fun w6 hb0 => ?_
          have R6 := Lib.hid (R5.out.behind hb0)
          clear Y0 Y1 Z0 Z1 hb0 J2 R5 U5 YP YH
          have f0 := R6.out.fv.free 0
          have f1 := R6.out.fv.free 1
          have e0 := R6.out.fv.cell 0
          have e1 := R6.out.fv.cell 1
          simp only [List.getElem?_cons_zero, List.getElem?_cons_succ] at e0 e1
          have R7 := Lib.hid (R6.out.setF up uq)
          clear R6
          go_wp2_with fail
          go_roundw
          case rel => exact ⟨k + 1, A5, c5, by omega, by go_num, by rw [ER.out]; rfl, by rw [ER.out]; rfl, by go_num, Lib.hid (by rw [ER.out, EA.out]; exact R7.out)⟩
          case measure => simp [intOf]; omega
      · rw [if_pos rfl] at HZ
        have R4 := R3
        have U4 := U3
        clear R3 U3 VF
        go_upto_region 13 with fail
        have q5 : w3.cell? ⟨(ad.add (k * 6)).block, (ad.add (k * 6)).off + 5, none⟩ = some (.bool th) := YP.out w3 5 _ U4.out (by decide) rfl
        obtain ⟨-, v1, v2, -, -⟩ := HC.out
        cases th
        · clear J2
          have g0 : w3.cell? ⟨W.heap.size + 1, 0, none⟩ = some (.int .i64 jp) := R4.out.fv.cell 0
          have g1 : w3.cell? ⟨W.heap.size + 1, 1, none⟩ = some (.int .i64 jq) := R4.out.fv.cell 1
          have t0 : w3.cell? ⟨W.heap.size + 1 + 1, 0, none⟩ = some (.int .i64 tp) := R4.out.out.cell 0
          have t1 : w3.cell? ⟨W.heap.size + 1 + 1, 1, none⟩ = some (.int .i64 tq) := R4.out.out.cell 1
          have s0 : w3.frozen? ⟨W.heap.size + 1 + 1, 0, none⟩ = false := R4.out.out.free 0
          have s1 : w3.frozen? ⟨W.heap.size + 1 + 1, 1, none⟩ = false := R4.out.out.free 1
          have R4' : Hid (RSt W ((w3.setCell ⟨W.heap.size + 1 + 1, 0, none⟩ (.int .i64 jp)).setCell ⟨W.heap.size + 1 + 1, 1, none⟩ (.int .i64 jq)) ⟨jp, jq⟩ ⟨jp, jq⟩ k zs A' c') := Lib.hid (R4.out.setT jp jq)
          have U4' : Hid (Below W.heap.size wr ((w3.setCell ⟨W.heap.size + 1 + 1, 0, none⟩ (.int .i64 jp)).setCell ⟨W.heap.size + 1 + 1, 1, none⟩ (.int .i64 jq))) := Lib.hid ((U4.out.setCell (p := ⟨W.heap.size + 1 + 1, 0, none⟩) (by simp; omega) _).setCell (p := ⟨W.heap.size + 1 + 1, 1, none⟩) (by simp; omega) _)
          clear R4 U4
          go_upto_region 20 with fail
          clear g0 g1 t0 t1 s0 s1 q5
          generalize (w3.setCell _ _).setCell _ _ = w3' at *
          have R4 := R4'
          have U4 := U4'
          clear R4' U4'
          have RA := Lib.hid (R4.out.behind ((Below.refl _ w3').alloc (Nat.le_refl _) (.cells #[.int .i64 0] 2)))
          have UA := Lib.hid (U4.out.alloc (by have := R4.out.low.size; omega) (.cells #[.int .i64 0] 2))
          clear R4 U4
          go_upto_region 21 with (at_builtin; refine wpList_pushOne rfl (.tmp 57) (.tmp 59) _ rfl W.heap.size 2 1 8 (.int .i64 0) Try.underlying29 i64cell_info rfl (by decide) k (.slice A' k c') _ rfl RA.out.own RA.out.low.size w3'.heap.size [.int .i64 0] rfl (Whole.mk w3' 2 #[.int .i64 0]) rfl (by simp [Value.oneCell']) (by unfold maxLen; omega) (by omega) ?_; intro A5 c5 w5 o5 h5 k5)
          have R5 := Lib.hid (RA.out.push 0 o5 h5)
          have U5 := Lib.hid (UA.out.trans (h5.below (B := W.heap.size) (fun x hx => (RA.out.own.lt x (by simpa using hx)).1) RA.out.low.size))
          clear RA UA o5 h5 k5
          have q0 : w5.cell? (ad.add (k * 6)) = some (.int .i64 h) := YH.out w5 U5.out
          have q3 : w5.cell? ⟨(ad.add (k * 6)).block, (ad.add (k * 6)).off + 3, none⟩ = some (.int .i64 bp) := YP.out w5 3 _ U5.out (by decide) rfl
          have q4 : w5.cell? ⟨(ad.add (k * 6)).block, (ad.add (k * 6)).off + 4, none⟩ = some (.int .i64 bq) := YP.out w5 4 _ U5.out (by decide) rfl
          have f0 := R5.out.fv.free 0
          have f1 := R5.out.fv.free 1
          have e0 := R5.out.fv.cell 0
          have e1 := R5.out.fv.cell 1
          simp only [List.getElem?_cons_zero, List.getElem?_cons_succ] at e0 e1
          have R6 := Lib.hid (R5.out.setF bp bq)
          clear R5 U5 YP YH
          have hz0 := HC.out.1 rfl
          have hzz : z = 0 := hz0.1
          rw [hzz] at v1 v2 EA ER
          clear hz0 hzz HC HZ
          have v3 : -9223372036854775808 ≤ h := by omega
          have v4 : h < 9223372036854775808 := by omega
          go_wp2_with fail
          go_roundw
          case rel => exact ⟨k + 1, A5, c5, by omega, by go_num, by rw [ER.out]; exact congrArg (Value.int .i64) (by simp only [Bool.false_eq_true, if_false]; omega), by rw [ER.out]; rfl, by go_num, Lib.hid (by rw [ER.out, EA.out]; exact R6.out)⟩
          case measure => simp [intOf]; omega
        · have hk0 := hk
          have RA := Lib.hid (R4.out.behind ((Below.refl _ w3).alloc (Nat.le_refl _) (.cells #[.int .i64 y] 2)))
          have UA := Lib.hid (U4.out.alloc (by have := R4.out.low.size; omega) (.cells #[.int .i64 y] 2))
          clear R4 U4
          go_upto_region 15 with (at_builtin; refine wpList_pushOne rfl (.tmp 43) (.tmp 45) _ rfl W.heap.size 2 1 8 (.int .i64 0) Try.underlying29 i64cell_info rfl (by decide) k (.slice A' k c') _ rfl RA.out.own RA.out.low.size w3.heap.size [.int .i64 y] rfl (Whole.mk w3 2 #[.int .i64 y]) rfl (by simp [Value.oneCell']) (by unfold maxLen; omega) (by omega) ?_; intro A5 c5 w5 o5 h5 k5)
          have R5 := Lib.hid (RA.out.push y o5 h5)
          have U5 := Lib.hid (UA.out.trans (h5.below (B := W.heap.size) (fun x hx => (RA.out.own.lt x (by simpa using hx)).1) RA.out.low.size))
          clear RA UA o5 h5 k5
          obtain ⟨up, hup⟩ : ∃ z, max jp bp = z := ⟨_, rfl⟩
          obtain ⟨uq, huq⟩ : ∃ z, min jq bq = z := ⟨_, rfl⟩
          have HJ : Hid (joinS ⟨jp, jq⟩ ⟨bp, bq⟩ = ⟨up, uq⟩) := Lib.hid (by rw [← hup, ← huq]; rfl)
          rw [HJ.out] at J2 ER
          clear hup huq q5
          have Y0 : ∀ t : Later w5.heap.size w5, t.w.cell? ⟨W.heap.size + 1, 0, none⟩ = some (.int .i64 jp) := fun t => (R5.out.fv.under t.h R5.out.fv.size).cell 0
          have Y1 : ∀ t : Later w5.heap.size w5, t.w.cell? ⟨W.heap.size + 1, 1, none⟩ = some (.int .i64 jq) := fun t => (R5.out.fv.under t.h R5.out.fv.size).cell 1
          have Z0 : ∀ t : Later w5.heap.size w5, t.w.cell? ⟨(ad.add (k * 6)).block, (ad.add (k * 6)).off + 3, none⟩ = some (.int .i64 bp) := fun t => YP.out t.w 3 _ (U5.out.trans (t.h.mono R5.out.low.size)) (by decide) rfl
          have Z1 : ∀ t : Later w5.heap.size w5, t.w.cell? ⟨(ad.add (k * 6)).block, (ad.add (k * 6)).off + 4, none⟩ = some (.int .i64 bq) := fun t => YP.out t.w 4 _ (U5.out.trans (t.h.mono R5.out.low.size)) (by decide) rfl
          refine region_lane [] [0, 1, 2, 3, 4, 5, 6] [7] (by kernel_rfl) (by kernel_rfl) (fun _ _ _ _ _ h => h) ?_
          simp only [pick, List.map_nil]
          refine wpQuiet_nil ⟨rfl, ?_⟩
          simp only [List.map_cons, List.map_nil, List.getD_cons_zero, List.getD_cons_succ, List.drop_succ_cons, List.drop_zero]
          refine laneO_run 6 (by kernel_rfl) ?_
          simp only [List.take_succ_cons, List.take_zero, List.drop_succ_cons, List.drop_zero]
          repeat (go_big_quiet_step (fail))
          refine wpQuiet_nil ?_
          refine laneO_call (v := (.agg #[.int .i64 up, .int .i64 uq])) (by kernel_rfl) (by rfl) (fun C hC h0 => ?_) ?_
          focus (go_big_quiet_op; exact ⟨_, fun w hw => (J2.out w).mono fun e w' ⟨he, hb⟩ => ⟨he, hC _ _ hw hb⟩, rfl⟩)
          simp only [Act.put, List.setIfInBounds_toArray, List.set_cons_zero, List.set_cons_succ]
          refine laneO_end0 rfl rfl fun w6 hb0 => ?_
          have R6 := Lib.hid (R5.out.behind hb0)
          clear Y0 Y1 Z0 Z1 hb0 J2 R5 U5 YP YH
          have f0 := R6.out.fv.free 0
          have f1 := R6.out.fv.free 1
          have e0 := R6.out.fv.cell 0
          have e1 := R6.out.fv.cell 1
          simp only [List.getElem?_cons_zero, List.getElem?_cons_succ] at e0 e1
          have R7 := Lib.hid (R6.out.setF up uq)
          clear R6
          go_wp2_with fail
          go_roundw
          case rel => exact ⟨k + 1, A5, c5, by omega, by go_num, by rw [ER.out]; rfl, by rw [ER.out]; rfl, by go_num, Lib.hid (by rw [ER.out, EA.out, show z = y by have := HC.out.1 rfl; omega]; exact R7.out)⟩
          case measure => simp [intOf]; omega
    · have hq : k = l.length := by omega
      subst hq
      have OK := Lib.hid (by have h := take_ok HOK.out top l.length (Nat.le_refl _); rw [List.take_length] at h; exact h)
      rw [List.take_length] at R ⊢
      obtain ⟨s, hs⟩ : ∃ s, runS (startS top) l = s := ⟨_, rfl⟩
      obtain ⟨zs, hzs⟩ : ∃ s, atL (startS top) l = s := ⟨_, rfl⟩
      rw [hs] at R OK ⊢
      rw [hzs] at R
      have HS := Lib.hid hs
      have HZS := Lib.hid hzs
      clear hs hzs
      obtain ⟨y, ⟨p, q⟩, a, ⟨tp, tq⟩⟩ := s
      have BD := Lib.hid (show -9223372036854775808 ≤ y + (p + q) ∧ y + (p + q) < 9223372036854775808 ∧ I64 (p + q) by
        obtain ⟨c1, c2, c3, c4, -, -, -, -, c5, c6, -⟩ := OK.out
        simp only at *
        unfold I64; omega)
      clear OK hlt hk HR HOK
      have g0 : wr.cell? ⟨W.heap.size + 1, 0, none⟩ = some (.int .i64 p) := R.out.fv.cell 0
      have g1 : wr.cell? ⟨W.heap.size + 1, 1, none⟩ = some (.int .i64 q) := R.out.fv.cell 1
      cases a
      · cases bottom
        · clear g0 g1
          have VF := Lib.hid (fun w => rval_any ⟨p, q⟩ BD.out.2.2 w)
          have g0 : wr.cell? ⟨W.heap.size + 1, 0, none⟩ = some (.int .i64 p) := R.out.fv.cell 0
          have g1 : wr.cell? ⟨W.heap.size + 1, 1, none⟩ = some (.int .i64 q) := R.out.fv.cell 1
          go_wp2_with fail
          refine (VF.out _).mono ?_
          rintro e w4 ⟨rfl, hb⟩
          have R4 := Lib.hid (R.out.behind hb)
          clear hb R g0 g1 VF
          obtain ⟨v1, v2, -⟩ := BD.out
          have s5 : w4.frozen? ⟨W.heap.size + 1 + 1, 5, none⟩ = false := R4.out.out.free 5
          have t5 : w4.cell? ⟨W.heap.size + 1 + 1, 5, none⟩ = some (.int .i64 0) := R4.out.out.cell 5
          obtain ⟨O4, P4, -, T4, B4⟩ := R4.out
          have nO : (Value.slice A' l.length c').ownBlock ≠ some (W.heap.size + 1 + 1) := whole_ne T4 O4 (by decide)
          have T5 : Hid (Whole (w4.setCell ⟨W.heap.size + 1 + 1, 5, none⟩ (.int .i64 (max (y + (p + q)) 0))) (W.heap.size + 1 + 1) 31 [.int .i64 tp, .int .i64 tq, .int .i64 0, .int .i64 0, .bool false, .int .i64 (max (y + (p + q)) 0)]) := Lib.hid (T4.put 5 _)
          have P5 := Lib.hid (P4.other (p := ⟨W.heap.size + 1 + 1, 5, none⟩) (by first | (simp; done) | (simp; omega)) (.int .i64 (max (y + (p + q)) 0)))
          have O5 := Lib.hid (ownsRow_setCell_other O4 (a := ⟨W.heap.size + 1 + 1, 5, none⟩) nO (.int .i64 (max (y + (p + q)) 0)))
          have B5 := Lib.hid (B4.setCell (p := ⟨W.heap.size + 1 + 1, 5, none⟩) (by first | (simp; done) | (simp; omega)) (.int .i64 (max (y + (p + q)) 0)))
          clear O4 P4 T4 B4 nO R4
          go_upto_region 29 with fail
          clear s5 t5
          generalize w4.setCell _ _ = w5 at *
          have X0 : ∀ t : Later w5.heap.size w5, t.w.cell? ⟨W.heap.size + 1 + 1, 0, none⟩ = some (.int .i64 tp) := fun t => (T5.out.under t.h T5.out.size).cell 0
          have X1 : ∀ t : Later w5.heap.size w5, t.w.cell? ⟨W.heap.size + 1 + 1, 1, none⟩ = some (.int .i64 tq) := fun t => (T5.out.under t.h T5.out.size).cell 1
          have X2 : ∀ t : Later w5.heap.size w5, t.w.cell? ⟨W.heap.size + 1 + 1, 2, none⟩ = some (.int .i64 0) := fun t => (T5.out.under t.h T5.out.size).cell 2
          have X3 : ∀ t : Later w5.heap.size w5, t.w.cell? ⟨W.heap.size + 1 + 1, 3, none⟩ = some (.int .i64 0) := fun t => (T5.out.under t.h T5.out.size).cell 3
          have X4 : ∀ t : Later w5.heap.size w5, t.w.cell? ⟨W.heap.size + 1 + 1, 4, none⟩ = some (.bool false) := fun t => (T5.out.under t.h T5.out.size).cell 4
          have X5 : ∀ t : Later w5.heap.size w5, t.w.cell? ⟨W.heap.size + 1 + 1, 5, none⟩ = some (.int .i64 (max (y + (p + q)) 0)) := fun t => (T5.out.under t.h T5.out.size).cell 5
          refine region_lane [0, 2] [1] [3] (by kernel_rfl) (by kernel_rfl) (by intro _ _ _ _ _ h; exact h) ?_
          simp only [pick, List.map_cons, List.map_nil, List.getD_cons_zero, List.getD_cons_succ, List.drop_succ_cons, List.drop_zero]
          repeat (go_big_quiet_step (fail))
          refine wpQuiet_nil ⟨rfl, ?_⟩
          refine laneO_run 1 (by kernel_rfl) ?_
          simp only [List.take_succ_cons, List.take_zero, List.drop_succ_cons, List.drop_zero]
          repeat (go_big_quiet_step (fail))
          refine wpQuiet_nil ?_
          refine laneO_end0 rfl rfl fun w6 hb0 => ?_
          clear X0 X1 X2 X3 X4 X5
          have P6 := Lib.hid (P5.out.under hb0 P5.out.size)
          have O6 := Lib.hid (own_below O5.out hb0 (Nat.le_refl _))
          have B6 := Lib.hid (B5.out.trans (hb0.mono B5.out.size))
          clear hb0 P5 O5 B5
          have nO : (Value.slice A' l.length c').ownBlock ≠ some W.heap.size := whole_ne P6.out O6.out (by decide)
          have f0 := P6.out.free 0
          have e0 := P6.out.cell 0
          have f1 := P6.out.free 1
          have e1 := P6.out.cell 1
          have f2 := P6.out.free 2
          have e2 := P6.out.cell 2
          have f3 := P6.out.free 3
          have e3 := P6.out.cell 3
          have f4 := P6.out.free 4
          have e4 := P6.out.cell 4
          have f5 := P6.out.free 5
          have e5 := P6.out.cell 5
          simp only [List.getElem?_cons_zero, List.getElem?_cons_succ] at e0 e1 e2 e3 e4 e5
          have R7 := Lib.hid ((((((P6.out.put 0 (.int .i64 tp)).put 1 (.int .i64 tq)).put 2 (.int .i64 0)).put 3 (.int .i64 0)).put 4 (.bool false)).put 5 (.int .i64 (max (y + (p + q)) 0)))
          have B7 := Lib.hid ((((((B6.out.setCell (p := ⟨W.heap.size, 0, none⟩) (by simp) (.int .i64 tp)).setCell (p := ⟨W.heap.size, 1, none⟩) (by simp) (.int .i64 tq)).setCell (p := ⟨W.heap.size, 2, none⟩) (by simp) (.int .i64 0)).setCell (p := ⟨W.heap.size, 3, none⟩) (by simp) (.int .i64 0)).setCell (p := ⟨W.heap.size, 4, none⟩) (by simp) (.bool false)).setCell (p := ⟨W.heap.size, 5, none⟩) (by simp) (.int .i64 (max (y + (p + q)) 0)))
          have O7 := Lib.hid (ownsRow_setCell_other (ownsRow_setCell_other (ownsRow_setCell_other (ownsRow_setCell_other (ownsRow_setCell_other (ownsRow_setCell_other O6.out (a := ⟨W.heap.size, 0, none⟩) nO (.int .i64 tp)) (a := ⟨W.heap.size, 1, none⟩) nO (.int .i64 tq)) (a := ⟨W.heap.size, 2, none⟩) nO (.int .i64 0)) (a := ⟨W.heap.size, 3, none⟩) nO (.int .i64 0)) (a := ⟨W.heap.size, 4, none⟩) nO (.bool false)) (a := ⟨W.heap.size, 5, none⟩) nO (.int .i64 (max (y + (p + q)) 0)))
          clear P6 O6 B6
          go_wp2_with fail
          exact cells_end1 (n := 6) sd_flat rfl W.heap.size rfl [.int .i64 tp, .int .i64 tq, .int .i64 0, .int .i64 0, .bool false, .int .i64 (max (y + (p + q)) 0)] rfl 31 R7.out rfl ⟨_, _, by rw [HS.out]; rfl, by rw [HZS.out]; exact O7.out, B7.out⟩
        · have s2 : wr.frozen? ⟨W.heap.size + 1 + 1, 2, none⟩ = false := R.out.out.free 2
          have t2 : wr.cell? ⟨W.heap.size + 1 + 1, 2, none⟩ = some (.int .i64 0) := R.out.out.cell 2
          have s3 : wr.frozen? ⟨W.heap.size + 1 + 1, 3, none⟩ = false := R.out.out.free 3
          have t3 : wr.cell? ⟨W.heap.size + 1 + 1, 3, none⟩ = some (.int .i64 0) := R.out.out.cell 3
          have s5 : wr.frozen? ⟨W.heap.size + 1 + 1, 5, none⟩ = false := R.out.out.free 5
          have t5 : wr.cell? ⟨W.heap.size + 1 + 1, 5, none⟩ = some (.int .i64 0) := R.out.out.cell 5
          obtain ⟨O4, P4, -, T4, B4⟩ := R.out
          have nO : (Value.slice A' l.length c').ownBlock ≠ some (W.heap.size + 1 + 1) := whole_ne T4 O4 (by decide)
          have T5 : Hid (Whole (((wr.setCell ⟨W.heap.size + 1 + 1, 2, none⟩ (.int .i64 p)).setCell ⟨W.heap.size + 1 + 1, 3, none⟩ (.int .i64 q)).setCell ⟨W.heap.size + 1 + 1, 5, none⟩ (.int .i64 (max y 0))) (W.heap.size + 1 + 1) 31 [.int .i64 tp, .int .i64 tq, .int .i64 p, .int .i64 q, .bool false, .int .i64 (max y 0)]) := Lib.hid (((T4.put 2 _).put 3 _).put 5 _)
          have P5 := Lib.hid (((P4.other (p := ⟨W.heap.size + 1 + 1, 2, none⟩) (by first | (simp; done) | (simp; omega)) (.int .i64 p)).other (p := ⟨W.heap.size + 1 + 1, 3, none⟩) (by first | (simp; done) | (simp; omega)) (.int .i64 q)).other (p := ⟨W.heap.size + 1 + 1, 5, none⟩) (by first | (simp; done) | (simp; omega)) (.int .i64 (max y 0)))
          have O5 := Lib.hid (ownsRow_setCell_other (ownsRow_setCell_other (ownsRow_setCell_other O4 (a := ⟨W.heap.size + 1 + 1, 2, none⟩) nO (.int .i64 p)) (a := ⟨W.heap.size + 1 + 1, 3, none⟩) nO (.int .i64 q)) (a := ⟨W.heap.size + 1 + 1, 5, none⟩) nO (.int .i64 (max y 0)))
          have B5 := Lib.hid (((B4.setCell (p := ⟨W.heap.size + 1 + 1, 2, none⟩) (by first | (simp; done) | (simp; omega)) (.int .i64 p)).setCell (p := ⟨W.heap.size + 1 + 1, 3, none⟩) (by first | (simp; done) | (simp; omega)) (.int .i64 q)).setCell (p := ⟨W.heap.size + 1 + 1, 5, none⟩) (by first | (simp; done) | (simp; omega)) (.int .i64 (max y 0)))
          clear O4 P4 T4 B4 nO R
          go_upto_region 27 with fail
          clear s2 t2 s3 t3 s5 t5 g0 g1
          generalize ((wr.setCell _ _).setCell _ _).setCell _ _ = w5 at *
          have X0 : ∀ t : Later w5.heap.size w5, t.w.cell? ⟨W.heap.size + 1 + 1, 0, none⟩ = some (.int .i64 tp) := fun t => (T5.out.under t.h T5.out.size).cell 0
          have X1 : ∀ t : Later w5.heap.size w5, t.w.cell? ⟨W.heap.size + 1 + 1, 1, none⟩ = some (.int .i64 tq) := fun t => (T5.out.under t.h T5.out.size).cell 1
          have X2 : ∀ t : Later w5.heap.size w5, t.w.cell? ⟨W.heap.size + 1 + 1, 2, none⟩ = some (.int .i64 p) := fun t => (T5.out.under t.h T5.out.size).cell 2
          have X3 : ∀ t : Later w5.heap.size w5, t.w.cell? ⟨W.heap.size + 1 + 1, 3, none⟩ = some (.int .i64 q) := fun t => (T5.out.under t.h T5.out.size).cell 3
          have X4 : ∀ t : Later w5.heap.size w5, t.w.cell? ⟨W.heap.size + 1 + 1, 4, none⟩ = some (.bool false) := fun t => (T5.out.under t.h T5.out.size).cell 4
          have X5 : ∀ t : Later w5.heap.size w5, t.w.cell? ⟨W.heap.size + 1 + 1, 5, none⟩ = some (.int .i64 (max y 0)) := fun t => (T5.out.under t.h T5.out.size).cell 5
          refine region_lane [0, 2] [1] [3] (by kernel_rfl) (by kernel_rfl) (by intro _ _ _ _ _ h; exact h) ?_
          simp only [pick, List.map_cons, List.map_nil, List.getD_cons_zero, List.getD_cons_succ, List.drop_succ_cons, List.drop_zero]
          repeat (go_big_quiet_step (fail))
          refine wpQuiet_nil ⟨rfl, ?_⟩
          refine laneO_run 1 (by kernel_rfl) ?_
          simp only [List.take_succ_cons, List.take_zero, List.drop_succ_cons, List.drop_zero]
          repeat (go_big_quiet_step (fail))
          refine wpQuiet_nil ?_
          refine laneO_end0 rfl rfl fun w6 hb0 => ?_
          clear X0 X1 X2 X3 X4 X5
          have P6 := Lib.hid (P5.out.under hb0 P5.out.size)
          have O6 := Lib.hid (own_below O5.out hb0 (Nat.le_refl _))
          have B6 := Lib.hid (B5.out.trans (hb0.mono B5.out.size))
          clear hb0 P5 O5 B5
          have nO : (Value.slice A' l.length c').ownBlock ≠ some W.heap.size := whole_ne P6.out O6.out (by decide)
          have f0 := P6.out.free 0
          have e0 := P6.out.cell 0
          have f1 := P6.out.free 1
          have e1 := P6.out.cell 1
          have f2 := P6.out.free 2
          have e2 := P6.out.cell 2
          have f3 := P6.out.free 3
          have e3 := P6.out.cell 3
          have f4 := P6.out.free 4
          have e4 := P6.out.cell 4
          have f5 := P6.out.free 5
          have e5 := P6.out.cell 5
          simp only [List.getElem?_cons_zero, List.getElem?_cons_succ] at e0 e1 e2 e3 e4 e5
          have R7 := Lib.hid ((((((P6.out.put 0 (.int .i64 tp)).put 1 (.int .i64 tq)).put 2 (.int .i64 p)).put 3 (.int .i64 q)).put 4 (.bool false)).put 5 (.int .i64 (max y 0)))
          have B7 := Lib.hid ((((((B6.out.setCell (p := ⟨W.heap.size, 0, none⟩) (by simp) (.int .i64 tp)).setCell (p := ⟨W.heap.size, 1, none⟩) (by simp) (.int .i64 tq)).setCell (p := ⟨W.heap.size, 2, none⟩) (by simp) (.int .i64 p)).setCell (p := ⟨W.heap.size, 3, none⟩) (by simp) (.int .i64 q)).setCell (p := ⟨W.heap.size, 4, none⟩) (by simp) (.bool false)).setCell (p := ⟨W.heap.size, 5, none⟩) (by simp) (.int .i64 (max y 0)))
          have O7 := Lib.hid (ownsRow_setCell_other (ownsRow_setCell_other (ownsRow_setCell_other (ownsRow_setCell_other (ownsRow_setCell_other (ownsRow_setCell_other O6.out (a := ⟨W.heap.size, 0, none⟩) nO (.int .i64 tp)) (a := ⟨W.heap.size, 1, none⟩) nO (.int .i64 tq)) (a := ⟨W.heap.size, 2, none⟩) nO (.int .i64 p)) (a := ⟨W.heap.size, 3, none⟩) nO (.int .i64 q)) (a := ⟨W.heap.size, 4, none⟩) nO (.bool false)) (a := ⟨W.heap.size, 5, none⟩) nO (.int .i64 (max y 0)))
          clear P6 O6 B6
          go_wp2_with fail
          exact cells_end1 (n := 6) sd_flat rfl W.heap.size rfl [.int .i64 tp, .int .i64 tq, .int .i64 p, .int .i64 q, .bool false, .int .i64 (max y 0)] rfl 31 R7.out rfl ⟨_, _, by rw [HS.out]; rfl, by rw [HZS.out]; exact O7.out, B7.out⟩
      · clear g0 g1
        have g0 : wr.cell? ⟨W.heap.size + 1, 0, none⟩ = some (.int .i64 p) := R.out.fv.cell 0
        go_upto_region 24 with fail
        clear g0
        have X0 : ∀ t : Later wr.heap.size wr, t.w.cell? ⟨W.heap.size + 1, 0, none⟩ = some (.int .i64 p) := fun t => (R.out.fv.under t.h R.out.fv.size).cell 0
        have X1 : ∀ t : Later wr.heap.size wr, t.w.cell? ⟨W.heap.size + 1, 1, none⟩ = some (.int .i64 q) := fun t => (R.out.fv.under t.h R.out.fv.size).cell 1
        refine region_lane [0, 2, 4] [1, 3] [5] (by kernel_rfl) (by kernel_rfl) (by intro _ _ _ _ _ h; exact h) ?_
        simp only [pick, List.map_cons, List.map_nil, List.getD_cons_zero, List.getD_cons_succ, List.drop_succ_cons, List.drop_zero]
        repeat (go_big_quiet_step (fail))
        refine wpQuiet_nil ⟨rfl, ?_⟩
        refine laneO_run 1 (by kernel_rfl) ?_
        simp only [List.take_succ_cons, List.take_zero, List.drop_succ_cons, List.drop_zero]
        repeat (go_big_quiet_step (fail))
        refine wpQuiet_nil ?_
        refine laneO_fixed (v := .agg #[.int .i64 p, .int .i64 q, .int .i64 0, .int .i64 0, .bool bottom, .int .i64 0]) (by kernel_rfl) (fun w hw => .inl ⟨by rfl, built_gives _ _ rfl _ (by kernel_rfl)⟩) ?_
        simp only [Act.put, List.setIfInBounds_toArray, List.set_cons_zero, List.set_cons_succ]
        refine laneO_end0 rfl rfl fun w6 hb0 => ?_
        clear X0 X1
        obtain ⟨O5, P5, -, -, B5⟩ := R.out
        have O5 := Lib.hid O5
        have P5 := Lib.hid P5
        have B5 := Lib.hid B5
        clear R
        have P6 := Lib.hid (P5.out.under hb0 P5.out.size)
        have O6 := Lib.hid (own_below O5.out hb0 (Nat.le_refl _))
        have B6 := Lib.hid (B5.out.trans (hb0.mono B5.out.size))
        clear hb0 P5 O5 B5
        have nO : (Value.slice A' l.length c').ownBlock ≠ some W.heap.size := whole_ne P6.out O6.out (by decide)
        have f0 := P6.out.free 0
        have e0 := P6.out.cell 0
        have f1 := P6.out.free 1
        have e1 := P6.out.cell 1
        have f2 := P6.out.free 2
        have e2 := P6.out.cell 2
        have f3 := P6.out.free 3
        have e3 := P6.out.cell 3
        have f4 := P6.out.free 4
        have e4 := P6.out.cell 4
        have f5 := P6.out.free 5
        have e5 := P6.out.cell 5
        simp only [List.getElem?_cons_zero, List.getElem?_cons_succ] at e0 e1 e2 e3 e4 e5
        have R7 := Lib.hid ((((((P6.out.put 0 (.int .i64 p)).put 1 (.int .i64 q)).put 2 (.int .i64 0)).put 3 (.int .i64 0)).put 4 (.bool bottom)).put 5 (.int .i64 0))
        have B7 := Lib.hid ((((((B6.out.setCell (p := ⟨W.heap.size, 0, none⟩) (by simp) (.int .i64 p)).setCell (p := ⟨W.heap.size, 1, none⟩) (by simp) (.int .i64 q)).setCell (p := ⟨W.heap.size, 2, none⟩) (by simp) (.int .i64 0)).setCell (p := ⟨W.heap.size, 3, none⟩) (by simp) (.int .i64 0)).setCell (p := ⟨W.heap.size, 4, none⟩) (by simp) (.bool bottom)).setCell (p := ⟨W.heap.size, 5, none⟩) (by simp) (.int .i64 0))
        have O7 := Lib.hid (ownsRow_setCell_other (ownsRow_setCell_other (ownsRow_setCell_other (ownsRow_setCell_other (ownsRow_setCell_other (ownsRow_setCell_other O6.out (a := ⟨W.heap.size, 0, none⟩) nO (.int .i64 p)) (a := ⟨W.heap.size, 1, none⟩) nO (.int .i64 q)) (a := ⟨W.heap.size, 2, none⟩) nO (.int .i64 0)) (a := ⟨W.heap.size, 3, none⟩) nO (.int .i64 0)) (a := ⟨W.heap.size, 4, none⟩) nO (.bool bottom)) (a := ⟨W.heap.size, 5, none⟩) nO (.int .i64 0))
        clear P6 O6 B6
        go_wp2_with fail
        exact cells_end1 (n := 6) sd_flat rfl W.heap.size rfl [.int .i64 p, .int .i64 q, .int .i64 0, .int .i64 0, .bool bottom, .int .i64 0] rfl 31 R7.out rfl ⟨_, _, by rw [HS.out]; rfl, by rw [HZS.out]; exact O7.out, B7.out⟩
end Go.Proofs.Ytnhhalhaefeoeaa
