import Derived.Test.YtpnpmellohacoaaDoorPoolMem
/- pool's New, leastFree, Take, Free by their contracts. -/
namespace Go.Proofs.YtpnpmellohacoaaDoor
open Go Go.RowKit
set_option linter.unusedVariables false
set_option linter.unusedSimpArgs false

/-- 'append' of an element that was just laid in a block of its own. -/
theorem wpList_one {P : Program} {w : World} {ops : Array Oper} {rest : List Oper} {o : Oper} {a : Act} {Q : Exit → Act → World → Prop} {cs : Array Value} (hw : Region.wanted o (yielded ops a.tmps) = true) (s x : Operand) (t : TypeId)
    (ho : o.op = .call { callee := .builtin .append, args := #[s, x], argTypes := #[t, t] })
    (e size bytes : Nat) (z : Value) (ht : P.underlying t = some (.slice e)) (hinfo : (P.info? e).map (fun i => (i.zero, i.size, i.bytes)) = some (some z, size, bytes))
    (hzs : z.cells.size = size) (hsz : 0 < size) (n c : Nat) (A : Option Addr) (xs : List Value) (hs : a.eval s = .slice A n c) (hown : w.ownsRow 0 e size (.slice A n c) n xs)
    (hx : a.eval x = .slice (some ⟨w.heap.size, 0, none⟩) 1 1) (hb : (n + 1) * bytes ≤ 140737488355328 ∧ n + 1 ≤ maxLen) (hl : cs.toList.length = size) (h1 : ∀ u ∈ cs.toList, u.oneCell' = true)
    (h : ∀ A' c' w', w'.ownsRow 0 e size (.slice A' (n + 1) c') (n + 1) (xs ++ cs.toList) → Only (Value.slice A n c).ownBlock.toList w w' → (∀ g, (Value.slice A' (n + 1) c').ownBlock = some g → (Value.slice A n c).ownBlock = some g ∨ w.heap.size ≤ g) → wpList P ops Q rest (a.put o.dst (.slice A' (n + 1) c')) w') :
    wpList P ops Q (o :: rest) a (w.alloc (.cells cs e)) := by
  refine wpList_push hw s x t ho e size bytes z ht hinfo hzs hsz n _ xs hs (hown.alloc _) ⟨w.heap.size, 0, none⟩ 1 1 cs.toList hx (by omega) (by decide) ?_ h1 hb.2 hb.1 ?_
  · intro j u hu
    rw [head_add, World.cell?_alloc_at _ _ _ _ rfl]
    simpa using hu
  · intro v' w' h2 h3 h4
    obtain ⟨A', c', rfl, _⟩ := owns_nil h2
    exact h A' c' w' h2 (((Only.refl _ w).alloc _).then h3) fun g hg => (h4 g hg).imp_right fun hge => by simp at hge; omega

def bndP (most : Int) : Int := min (max most 0) 10000
theorem newPool (m : Int) (h1 : m ≤ 10000) (h0 : 0 ≤ m) (w : World) : Pool (w.alloc (.cells #[.int .i64 m, .slice none 0 0, .slice none 0 0] 51)) w.heap.size m [] 0 [w.heap.size] :=
  ⟨_, _, [], ⟨Whole.mk w _ _, World.ownsRow_nil _ _ _ _, World.ownsRow_nil _ _ _ _, poolInv_new, by simpa using h0, h1, fun i => by simp [turnOf], by decide⟩, by simp [feet, Value.ownBlock]⟩
theorem new_any (most : Int) (w : World) :
    Calls Tryd.prog 6 #[.int .i64 most] w fun e w' => e = .returned (.pointer (some ⟨w.heap.size, 0, none⟩)) ∧ Pool w' w.heap.size (bndP most) [] 0 [w.heap.size] ∧ Below w.heap.size w w' := by
  have N := Lib.hid (fun m h1 h0 => newPool m h1 h0 w)
  have key : Hid (∀ m : Int, m ≤ 10000 → 0 ≤ m → bndP most = m → Pool (w.alloc (.cells #[.int .i64 m, .slice none 0 0, .slice none 0 0] 51)) w.heap.size (bndP most) [] 0 [w.heap.size]) := Lib.hid fun m h1 h0 e => by rw [e]; exact N.out m h1 h0
  go_enter Tryd.func6, Tryd.ntmps6
  go_wp2
  all_goals
    go_ret
    exact ⟨rfl, key.out _ (by omega) (by omega) (by unfold bndP; omega), (Below.refl _ w).alloc (Nat.le_refl _) _⟩

def LfPost (g : Nat) (most : Int) (PV FV : Value) (pl : Pl) (w : World) (e : Ending) (w' : World) : Prop :=
  e = .returned (.int .i64 (leastF pl)) ∧ ∃ PV' FV' fr' pl', Whole w' g 51 [.int .i64 most, PV', FV'] ∧ w'.ownsRow 0 53 2 PV' pl'.length (plCells pl') ∧ w'.ownsRow 0 3 1 FV' fr'.length (i64s fr') ∧
    leastF pl < pl'.length ∧ turnOf pl' (leastF pl) = turnOf pl (leastF pl) ∧ pl'.set (leastF pl) (turnOf pl (leastF pl) + 1, true) = takeP pl ∧ PoolInv fr' (takeP pl) ∧ Only (feet g PV FV) w w' ∧ ∀ x ∈ feet g PV' FV', x ∈ feet g PV FV ∨ w.heap.size ≤ x
theorem pop_at (g b n c : Nat) (M PV : Value) (zs : List Int) (w : World) (h : Hid (HpAt w g M PV (.slice (some ⟨b, 0, none⟩) (n + 1) c) zs)) (hz : Hid (zs.length = n + 1)) (hn : n ≤ 900000) (hh : Hid (Heap zs)) :
    Calls Tryd.prog 21 #[.iface 55 (.pointer (some ⟨g, 2, none⟩))] w (PopPost g b n c M PV zs w) := heapPop_any g b n c M PV zs w h.out hz.out hn hh.out
theorem leastFree_any (g : Nat) (most : Int) (PV FV : Value) (pl : Pl) (fr : List Int) (T : Int) (w : World) (h : PoolAt w g most PV FV pl fr T) :
    Calls Tryd.prog 18 #[.pointer (some ⟨g, 0, none⟩)] w (LfPost g most PV FV pl w) := by
  have l1 := h.len
  have l2 := h.most
  have l3 := h.inv.count
  have hlen : pl.length ≤ 10000 := by omega
  have hflen : fr.length ≤ 10000 := by omega
  have c1 : w.cell? ⟨g, 1, none⟩ = some PV := h.whole.cell 1
  have c2 : w.cell? ⟨g, 2, none⟩ = some FV := h.whole.cell 2
  have f1 := h.whole.free 1
  have hg := h.whole.size
  have tA := assertInt
  by_cases hf : fr.length = 0
  · have hle := h.inv.none hf
    have H := Lib.hid h
    have HL := Lib.hid hle
    have HF := Lib.hid hf
    obtain ⟨A, c, rfl, hc1, hc2, _⟩ := owns_nil h.places
    obtain ⟨A', c', rfl, hc1', hc2', _⟩ := owns_nil h.row
    have R := h.places
    have hne : g ∉ (Value.slice A pl.length c).ownBlock.toList := by have := whole_ne h.whole h.places (by decide); simpa using this
    have HN := Lib.hid hne
    rw [hf] at c2
    clear h l1 l2 l3 hle hf hc2 hc2' hne
    go_enter Tryd.func18, Tryd.ntmps18
    go_wp2_with (at_builtin; refine wpList_one rfl (.tmp 19) (.tmp 21) _ rfl 53 2 16 (.agg #[.int .i64 0, .bool false]) Tryd.underlying48 place_info rfl (by decide) _ _ _ _ rfl R rfl ⟨by omega, by unfold maxLen; omega⟩ rfl (by simp [Value.oneCell']) ?_; intro A2 c3 w2 hown2 ho2 hk2; have HW2 := Lib.hid (ho2.whole H.out.whole HN.out); have d1 : w2.cell? ⟨g, 1, none⟩ = some (.slice A pl.length c) := HW2.out.cell 1; have f2 := HW2.out.free 1; have HO2 := Lib.hid ho2; have HR2 := Lib.hid hown2; have HK2 := Lib.hid hk2; clear ho2 hown2 hk2 c1 c2 f1 R)
    have hpl : (pl ++ [((0 : Int), false)]).length = pl.length + 1 := by simp
    have htk : takeP pl = pl ++ [(1, true)] := by unfold takeP; rw [if_neg (by rw [HL.out]; omega)]
    have hnb : ∀ k, (Value.slice A2 (pl.length + 1) c3).ownBlock = some k → k ≠ g := fun k e e2 => whole_ne HW2.out HR2.out (by decide) (by rw [e, e2])
    have hnr : ∀ k, (Value.slice A' fr.length c').ownBlock = some k → k ∉ (Value.slice A pl.length c).ownBlock.toList := fun k e e2 => owns_ne H.out.row H.out.places (by decide) e (by simpa using e2)
    have hrg : ∀ k, (Value.slice A' fr.length c').ownBlock = some k → k ≠ g := fun k e e2 => whole_ne H.out.whole H.out.row (by decide) (by rw [e, e2])
    go_ret
    refine ⟨by rw [HL.out]; rfl, _, _, fr, pl ++ [(0, false)], HW2.out.put 1 _, ?_, ?_, ?_, ?_, ?_, H.out.inv.grew HF.out, ?_, ?_⟩
    · rw [hpl, plCells_append]
      refine ((Only.refl [g] w2).setCell ⟨g, 1, none⟩ (.inl (by simp)) _).owns HR2.out fun k hk => ?_
      simpa using hnb k hk
    · refine ((Only.refl [g] w2).setCell ⟨g, 1, none⟩ (.inl (by simp)) _).owns (HO2.out.owns H.out.row hnr) fun k hk => ?_
      simpa using hrg k hk
    · rw [HL.out, hpl]; omega
    · rw [HL.out, turnOf_out (Nat.le_refl _)]
      simp [turnOf]
    · rw [HL.out, htk, turnOf_out (Nat.le_refl _)]
      simp
    · exact (HO2.out.mono (fun x hx => .inl (mem_feet.2 (.inr (.inl (by simpa using hx)))))).setCell _ (.inl (by simp [feet])) _
    · intro x hx
      rcases mem_feet.1 hx with rfl | hx | hx
      · exact .inl (mem_feet.2 (.inl rfl))
      · exact (HK2.out x hx).imp_left fun e => mem_feet.2 (.inr (.inl e))
      · exact .inl (mem_feet.2 (.inr (.inr hx)))
  · obtain ⟨n, hn⟩ : ∃ n, fr.length = n + 1 := ⟨fr.length - 1, by omega⟩
    obtain ⟨b, c, rfl, _, _, hb⟩ := owns_some h.row (by omega)
    have hz0 : (0 : Int) < (n : Int) + 1 := by omega
    have hp := h.hp
    rw [hn] at hp c2
    have HP := Lib.hid hp
    have H := Lib.hid h
    have HZ := Lib.hid hn
    have HH := Lib.hid h.inv.heap
    obtain ⟨hlt, hle⟩ := h.inv.least (by omega)
    have HLT := Lib.hid hlt
    have HLE := Lib.hid hle
    have hn9 : n ≤ 10000 := by omega
    clear h hn hp l1 l2 hf hlt hle
    go_enter Tryd.func18, Tryd.ntmps18
    go_wp2_with fail
    refine (pop_at g b n c (.int .i64 most) PV fr w HP HZ (by omega) HH).mono ?_
    rintro e w2 ⟨rfl, zs', h2, hh2, hp2, ho2⟩
    have hl2 : zs'.length = n := by have := hp2.length_eq; simp [HZ.out] at this; exact this
    have R : Hid (LfPost g most PV (.slice (some ⟨b, 0, none⟩) fr.length c) pl w (.returned (.int .i64 (at0 fr 0))) w2) := Lib.hid (by
      have hs : ∀ x ∈ [g, b], x ∈ feet g PV (.slice (some ⟨b, 0, none⟩) fr.length c) := fun x hx => by
        simp at hx
        rcases hx with rfl | rfl
        · exact mem_feet.2 (.inl rfl)
        · exact mem_feet.2 (.inr (.inr rfl))
      refine ⟨by rw [HLE.out], PV, _, zs', pl, h2.whole, ?_, h2.row, HLT.out, rfl, by unfold takeP; rw [if_pos HLT.out], H.out.inv.took (by rw [HZ.out]; omega) hh2 hp2, ho2.mono fun x hx => .inl (hs x hx), ?_⟩
      · refine ho2.owns H.out.places fun k hk => ?_
        have h1 := whole_ne H.out.whole H.out.places (by decide)
        have h2 := owns_ne H.out.places H.out.row (by decide) hk
        simp [Value.ownBlock] at h2 ⊢
        exact ⟨fun e => h1 (by rw [hk, e]), fun e => h2 e.symm⟩
      · intro x hx
        rcases mem_feet.1 hx with rfl | hx | hx
        · exact .inl (mem_feet.2 (.inl rfl))
        · exact .inl (mem_feet.2 (.inr (.inl hx)))
        · simp [Value.ownBlock] at hx
          subst hx
          exact .inl (mem_feet.2 (.inr (.inr rfl))))
    clear h2 hh2 hp2 ho2 hl2
    go_wp2
    go_ret
    exact R.out

def TakePost (g : Nat) (most : Int) (pl : Pl) (T : Int) (S : List Nat) (w : World) (e : Ending) (w' : World) : Prop :=
  e = .returned (.tuple #[hv (leastF pl) (turnOf pl (leastF pl) + 1), .nilIface]) ∧ ∃ S', Pool w' g most (takeP pl) (T + 1) S' ∧ Only S w w' ∧ ∀ x ∈ S', x ∈ S ∨ w.heap.size ≤ x
theorem take_full (g : Nat) (most : Int) (pl : Pl) (T : Int) (S : List Nat) (w : World) (h : Pool w g most pl T S) (hf : (countP pl : Int) = most) :
    Calls Tryd.prog 7 #[.pointer (some ⟨g, 0, none⟩)] w fun e w' => e = .returned (.tuple #[hv 0 0, .iface 34 (.int .i64 2)]) ∧ Below w.heap.size w w' := by
  have A0 := Whole.mk w 27 #[.int .i64 0, .int .i64 0]
  have B0 : Below w.heap.size w (w.alloc (.cells #[.int .i64 0, .int .i64 0] 27)) := (Below.refl _ w).alloc (Nat.le_refl _) _
  have P0 := h.below B0
  have HP0 := Lib.hid P0
  obtain ⟨PV, FV, fr, hp, _⟩ := P0
  have C0 : (w.alloc (.cells #[.int .i64 0, .int .i64 0] 27)).cell? ⟨g, 0, none⟩ = some (.int .i64 most) := hp.whole.cell 0
  have hg := hp.whole.size
  have hm : most ≤ 10000 := h.bound
  subst hf
  clear h hp
  go_enter Tryd.func7, Tryd.ntmps7
  go_wp2_with fail
  generalize hW : w.alloc (.cells #[.int .i64 0, .int .i64 0] 27) = W at *
  have PL := Lib.hid (fun w' (hb : Below W.heap.size W w') => poolLen_any g (countP pl) pl T S w' (HP0.out.below hb))
  clear hW
  have K0 : ∀ s : Later W.heap.size W, s.w.cell? ⟨g, 0, none⟩ = some (.int .i64 (countP pl)) := fun s => (s.h.cell (p := ⟨g, 0, none⟩) hg).trans C0
  refine region_later (by kernel_rfl) (by kernel_rfl) ?_
  repeat (go_big_quiet_step (first | (with_reducible exact later_call _ (Nat.le_refl _) (PL.out _ (Later.h _)))))
  refine wpQuiet_nil ?_
  rintro w' ⟨s, rfl⟩
  have A1 := A0.under s.h A0.size
  have B1 := Lib.hid (B0.trans (s.h.mono B0.size))
  generalize s.w = w1 at *
  have e0 : w1.cell? ⟨w.heap.size, 0, none⟩ = some (.int .i64 0) := A1.cell 0
  have e1 : w1.cell? ⟨w.heap.size, 1, none⟩ = some (.int .i64 0) := A1.cell 1
  have e2 := A1.free 0
  have e3 := A1.free 1
  clear K0 A0 A1 B0 PL C0 HP0 hg
  go_wp2
  refine bodyPost_ret (v := .tuple #[hv 0 0, .iface 34 (.int .i64 2)]) (by simp [results, Tryd.results7, go_sem, e0, e1, e2, e3]) rfl ⟨rfl, ?_⟩
  exact (B1.out.setCell (by simp) _).setCell (by simp) _

theorem take_any (g : Nat) (most : Int) (pl : Pl) (T : Int) (S : List Nat) (w : World) (h : Pool w g most pl T S) (hf : (countP pl : Int) < most) (hT : T + 1 ≤ 1000000) :
    Calls Tryd.prog 7 #[.pointer (some ⟨g, 0, none⟩)] w (TakePost g most pl T S w) := by
  have A0 := Whole.mk w 27 #[.int .i64 0, .int .i64 0]
  have B0 : Below w.heap.size w (w.alloc (.cells #[.int .i64 0, .int .i64 0] 27)) := (Below.refl _ w).alloc (Nat.le_refl _) _
  have P0 := h.below B0
  have HP0 := Lib.hid P0
  obtain ⟨PV, FV, fr, hp, rfl⟩ := P0
  have C0 : (w.alloc (.cells #[.int .i64 0, .int .i64 0] 27)).cell? ⟨g, 0, none⟩ = some (.int .i64 most) := hp.whole.cell 0
  have hg := hp.whole.size
  have hm : most ≤ 10000 := h.bound
  have HS := Lib.hid h.lt
  have HPA := Lib.hid hp
  have q1 : ((countP pl : Int) == most) = false := by rw [beq_eq_false_iff_ne]; omega
  have q2 : ¬ (countP pl : Int) = most := by omega
  have Hqf := Lib.hid hf
  clear h hp
  go_enter Tryd.func7, Tryd.ntmps7
  go_wp2_with fail
  generalize hW : w.alloc (.cells #[.int .i64 0, .int .i64 0] 27) = W at *
  have PL := Lib.hid (fun w' (hb : Below W.heap.size W w') => poolLen_any g most pl T _ w' (HP0.out.below hb))
  clear hW
  have K0 : ∀ s : Later W.heap.size W, s.w.cell? ⟨g, 0, none⟩ = some (.int .i64 most) := fun s => (s.h.cell (p := ⟨g, 0, none⟩) hg).trans C0
  refine region_later (by kernel_rfl) (by kernel_rfl) ?_
  repeat (go_big_quiet_step (first | (with_reducible exact later_call _ (Nat.le_refl _) (PL.out _ (Later.h _)))))
  refine wpQuiet_nil ?_
  rintro w' ⟨s, rfl⟩
  have A1 := A0.under s.h A0.size
  have B1 := Lib.hid (B0.trans (s.h.mono B0.size))
  have LF := Lib.hid (leastFree_any g most PV FV pl fr T s.w (HPA.out.only (S := []) (Only.of_below s.h) (by simp)))
  generalize s.w = w1 at *
  have HA1 := Lib.hid A1
  clear K0 A0 A1 B0 PL C0 hg
  go_wp2_with fail
  refine LF.out.mono ?_
  rintro e w2 ⟨rfl, PV', FV', fr', pl', hw2, hr2, hf2, hlt, htu, htk, hinv, ho, hgrow⟩
  have hr0 : w.heap.size ∉ feet g PV FV := fun hx => by have := HS.out _ hx; omega
  have A2 := ho.whole HA1.out hr0
  obtain ⟨b, c, rfl, hc1, hc2, hb⟩ := owns_some hr2 (by omega)
  obtain ⟨x0, x1⟩ := plCells_get pl' (leastF pl) hlt
  have d0 : w2.cell? ⟨b, leastF pl * 2, none⟩ = some (.int .i64 (turnOf pl (leastF pl))) := by rw [hr2.cellAt _ (by omega), x0, htu]
  have d1 : w2.cell? ⟨b, leastF pl * 2 + 1, none⟩ = some (.bool (takenOf pl' (leastF pl))) := by rw [hr2.cellAt _ (by omega)]; exact x1
  have fd0 := hr2.frozenAt (leastF pl * 2)
  have fd1 := hr2.frozenAt (leastF pl * 2 + 1)
  have dg : w2.cell? ⟨g, 1, none⟩ = some (.slice (some ⟨b, 0, none⟩) pl'.length c) := hw2.cell 1
  have e0 : w2.cell? ⟨w.heap.size, 0, none⟩ = some (.int .i64 0) := A2.cell 0
  have e1 : w2.cell? ⟨w.heap.size, 1, none⟩ = some (.int .i64 0) := A2.cell 1
  have e2 := A2.free 0
  have e3 := A2.free 1
  have tb := HPA.out.turns (leastF pl)
  have hts := HPA.out.small
  have t0 := tb.1
  have t1 : turnOf pl (leastF pl) ≤ 1000000 := by omega
  have hT' := Lib.hid hT
  have HTU := Lib.hid HPA.out.turns
  have gb : g ≠ b := fun e => whole_ne hw2 hr2 (by decide) (by simp [Value.ownBlock, e])
  have rg : w.heap.size ≠ g := fun e => hr0 (by rw [e]; exact mem_feet.2 (.inl rfl))
  have rb : w.heap.size ≠ b := by
    intro e
    have h1 : w2.heap[w.heap.size]? = _ := A2
    rcases hr2.2 with ⟨h0, _⟩ | ⟨g', cap, cur, hv', _, hg', _⟩
    · cases h0
    · injection hv' with a1 _ _
      injection a1 with a1
      injection a1 with a1 _ _
      rw [← a1, ← e, h1] at hg'
      simp at hg'
  have pl9 : pl'.length ≤ 1000000 := by
    have h1 := congrArg List.length htk
    have h2 := hinv.count
    have h3 := count_take pl
    have h4 := HPA.out.inv.count
    have h5 := HPA.out.len
    rw [length_take] at h1
    simp at h1
    split at h1 <;> omega
  have HW2 := Lib.hid hw2
  have HR2 := Lib.hid hr2
  have HF2 := Lib.hid hf2
  have HTK := Lib.hid htk
  have HI := Lib.hid hinv
  have HO := Lib.hid ho
  have HG := Lib.hid hgrow
  have HA2 := Lib.hid A2
  have HL9 := Lib.hid hlt
  have hl9 : (leastF pl : Int) < pl'.length := by omega
  clear hw2 hr2 hf2 htk hinv ho hgrow A2 x0 x1 tb hT htu HA1 LF hr0 hts q1 q2 hf HP0 hc2
  generalize htt : turnOf pl (leastF pl) = t at *
  have HTT := Lib.hid htt
  clear htt
  generalize takenOf pl' (leastF pl) = tk at *
  go_wp2
  refine bodyPost_ret (v := .tuple #[hv (leastF pl) (t + 1), .nilIface]) (by simp [results, Tryd.results7, go_sem, e0, e1, e2, e3]) rfl ?_
  obtain ⟨S1, _⟩ := HR2.out.stored (leastF pl * 2) (.int .i64 (t + 1))
  obtain ⟨S2, _⟩ := S1.stored (leastF pl * 2 + 1) (.bool true)
  rw [← plCells_set pl' _ _ _ HL9.out, HTK.out] at S2
  have hl : pl'.length = (takeP pl).length := by rw [← HTK.out]; simp
  rw [hl] at S2
  have O1 : Only [b, w.heap.size] w2 ((((w2.setCell ⟨b, leastF pl * 2, none⟩ (.int .i64 (t + 1))).setCell ⟨b, leastF pl * 2 + 1, none⟩ (.bool true)).setCell ⟨w.heap.size, 0, none⟩ (.int .i64 (leastF pl))).setCell ⟨w.heap.size, 1, none⟩ (.int .i64 (t + 1))) :=
    ((((Only.refl _ w2).setCell _ (.inl (by simp)) _).setCell _ (.inl (by simp)) _).setCell _ (.inl (by simp)) _).setCell _ (.inl (by simp)) _
  have O2 : Only [w.heap.size] ((w2.setCell ⟨b, leastF pl * 2, none⟩ (.int .i64 (t + 1))).setCell ⟨b, leastF pl * 2 + 1, none⟩ (.bool true)) ((((w2.setCell ⟨b, leastF pl * 2, none⟩ (.int .i64 (t + 1))).setCell ⟨b, leastF pl * 2 + 1, none⟩ (.bool true)).setCell ⟨w.heap.size, 0, none⟩ (.int .i64 (leastF pl))).setCell ⟨w.heap.size, 1, none⟩ (.int .i64 (t + 1))) :=
    ((Only.refl _ _).setCell _ (.inl (by simp)) _).setCell _ (.inl (by simp)) _
  have S3 := O2.owns S2 fun k hk => by
    have : k = b := by simpa [Value.ownBlock, eq_comm] using hk
    simp; omega
  have S4 := O1.owns HF2.out fun k hk => by
    have h1 := owns_ne HF2.out HR2.out (by decide) hk
    have h2 := whole_ne HA2.out HF2.out (by decide)
    simp [Value.ownBlock] at h1 ⊢
    exact ⟨fun e => h1 e.symm, fun e => h2 (by rw [hk, e])⟩
  have O3 : Only (feet g PV FV) w _ := ((Only.of_below B1.out).trans HO.out (fun x hx => .inl hx)).trans O1 fun x hx => by
    simp at hx
    rcases hx with rfl | rfl
    · exact (HG.out _ (mem_feet.2 (.inr (.inl rfl)))).imp id fun h => Nat.le_trans B1.out.size h
    · exact .inr (Nat.le_refl _)
  refine ⟨by rw [HTT.out], feet g (.slice (some ⟨b, 0, none⟩) pl'.length c) FV', ⟨_, FV', fr', ⟨O1.whole HW2.out (by simp; exact ⟨gb, fun e => rg e.symm⟩), by rw [hl]; exact S3, S4, HI.out, ?_, hm, ?_, hT'.out⟩, rfl⟩, O3, fun x hx => (HG.out x hx).imp id fun h => Nat.le_trans B1.out.size h⟩
  · have h3 := count_take pl
    have h4 := HI.out.count
    have h5 := HPA.out.inv.count
    have h6 := HPA.out.len
    rw [length_take]
    split
    · exact h6
    · rename_i hge
      have h7 := leastF_le pl
      have h8 := count_full (pl := pl) (by omega)
      have := Hqf.out
      push_cast
      omega
  · intro i
    have := HTU.out i
    rw [turnOf_take]
    split <;> omega
end Go.Proofs.YtpnpmellohacoaaDoor
