import Derived.Test.YtpbfdfpedpfemaaGreatDoorTreeNode
/- tree.say, Say. -/
namespace Go.Proofs.YtpbfdfpedpfemaaGreatDoor
open Go Go.RowKit
set_option linter.unusedVariables false
set_option linter.unusedSimpArgs false
set_option maxRecDepth 20000
set_option maxHeartbeats 2000000

theorem nodeInfo : (Tryz.prog.info? 32).map (fun i => (i.zero, i.size, i.bytes)) = some (some (.agg #[.int .i64 0, .int .i64 0, .bool false, .string ⟨#[]⟩, .slice none 0 0]), 5, 64) := by kernel_rfl
/-- A row of nodes of the call's own, their lists too. -/
def NodesOwn (w : World) (lo : Nat) (v : Value) (l : List Nd) : Prop := ∃ A c svs, v = .slice A l.length c ∧ svs.length = l.length ∧ w.ownsRow lo 32 5 (.slice A l.length c) l.length (rowsC l svs) ∧ ∀ k (h : k < l.length) (h2 : k < svs.length), StyOwn w lo svs[k] l[k].sty
theorem rowsC_append : ∀ (l : List Nd) (s : List Value) (h : s.length = l.length) (n : Nd) (v : Value), rowsC (l ++ [n]) (s ++ [v]) = rowsC l s ++ nodeC n v
  | [], [], _, n, v => by simp [rowsC]
  | m :: r, u :: t, h, n, v => by
    simp only [List.cons_append, rowsC, rowsC_append r t (by simpa using h) n v, List.append_assoc]
theorem own_row {w : World} {base size m : Nat} {v : Value} {xs : List Value} (ho : w.ownsRow base 32 size v m xs) {k : Nat} (hk : v.ownBlock = some k) : NodeRow w k := by
  rcases ho.2 with ⟨rfl, -⟩ | ⟨g, cap, cur', rfl, -, hg, -⟩
  · simp [Value.ownBlock] at hk
  · simp [Value.ownBlock] at hk
    subst hk
    exact ⟨_, _, hg⟩
theorem StyOwn.rows {w w' : World} {base : Nat} {sv : Value} {l : List Dc} {S : List Nat} (h : StyOwn w base sv l) (hO : Only S w w') (hS : ∀ k ∈ S, NodeRow w k) : StyOwn w' base sv l :=
  h.only hO fun k hk hx => by
    obtain ⟨A, c, e, hr, -⟩ := h
    rw [e] at hk
    exact node_row_own (hS _ hx) hr (by decide) hk
theorem IdsOwn.rows {w w' : World} {base : Nat} {v : Value} {l : List Int} {S : List Nat} (h : IdsOwn w base v l) (hO : Only S w w') (hS : ∀ k ∈ S, NodeRow w k) : IdsOwn w' base v l :=
  h.only hO fun k hk hx => by
    obtain ⟨A, c, e, hr, -⟩ := h
    rw [e] at hk
    exact node_row_own (hS _ hx) hr (by decide) hk
/-- One more. -/
theorem NodesOwn.push {w w' : World} {lo : Nat} {l : List Nd} {A : Option Addr} {c : Nat} {svs : List Value} (h1 : svs.length = l.length) (h3 : ∀ k (h : k < l.length) (h2 : k < svs.length), StyOwn w lo svs[k] l[k].sty)
    (ho : w.ownsRow lo 32 5 (.slice A l.length c) l.length (rowsC l svs)) {n : Nd} {sv : Value} {v' : Value} (hg : Only (Value.slice A l.length c).ownBlock.toList w w') (hv : w'.ownsRow lo 32 5 v' (l.length + 1) (rowsC l svs ++ nodeC n sv)) (hs : StyOwn w' lo sv n.sty) : NodesOwn w' lo v' (l ++ [n]) := by
  obtain ⟨A', c', rfl⟩ := own_shape hv
  refine ⟨A', c', svs ++ [sv], by simp, by simp [h1], ?_, fun k hk hk2 => ?_⟩
  · rw [rowsC_append l svs h1]; simpa using hv
  · by_cases hl : k < l.length
    · rw [List.getElem_append_left (by omega), List.getElem_append_left hl]
      exact (h3 k hl (by omega)).rows hg fun x hx => own_row ho (by simpa using hx)
    · have e : k = l.length := by simp at hk; omega
      subst e
      rw [List.getElem_append_right (by omega), List.getElem_append_right (by omega)]
      simpa [h1] using hs
theorem NodesOwn.behind {w w' : World} {lo : Nat} {v : Value} {l : List Nd} (h : NodesOwn w lo v l) (hb : Below w.heap.size w w') : NodesOwn w' lo v l := by
  obtain ⟨A, c, svs, e, h1, h2, h3⟩ := h
  have ho : Only [] w w' := Only.of_below hb
  exact ⟨A, c, svs, e, h1, ho.owns h2 (by simp), fun k hk hk2 => (h3 k hk hk2).only ho (by simp)⟩
theorem NodesOwn.block {w : World} {lo : Nat} {v : Value} {l : List Nd} (h : NodesOwn w lo v l) : ∀ k ∈ v.ownBlock.toList, NodeRow w k := by
  obtain ⟨A, c, svs, rfl, h1, h2, h3⟩ := h
  intro k hk
  exact own_row h2 (by simpa using hk)
theorem kid_flat {n : Nd} {ks : List Tr} {j : Nat} (hj : j < ks.length) : ks[j].flat.length < (Tr.mk n ks).flat.length := by
  have h : ∀ (ks : List Tr) (j : Nat) (hj : j < ks.length), ks[j].flat.length ≤ (flats ks).length := by
    intro ks
    induction ks with
    | nil => intro j hj; simp at hj
    | cons k r ih =>
      intro j hj
      rw [flats, List.length_append]
      cases j with
      | zero => simp
      | succ j => have := ih j (by simpa using hj); simp; omega
  have := h ks j hj
  rw [Tr.flat]; simp; omega
theorem fitss_get {L : List Nd} {p : Int} : ∀ {ks : List Tr}, Fitss L p ks → ∀ j (hj : j < ks.length), Fits L ks[j]
  | k :: r, h, 0, _ => by rw [Fitss] at h; exact h.2.1
  | k :: r, h, j + 1, hj => by rw [Fitss] at h; exact fitss_get h.2.2 j (by simpa using hj)
theorem flats_take (ks : List Tr) (j : Nat) (hj : j < ks.length) : flats (ks.take (j + 1)) = flats (ks.take j) ++ ks[j].flat := by
  rw [List.take_succ_eq_append_getElem hj, flats_append, flats, flats, List.append_nil]
theorem say_any {base t : Nat} {most : Int} {L : List Nd} (hL : L.length ≤ 1000) (lo : Nat) : ∀ (m : Nat) (T : Tr), T.flat.length ≤ m → Fits L T → ∀ (W : World) (v : Value) (l : List Nd), Tree W base t most L → NodesOwn W lo v l → lo ≤ W.heap.size → l.length + T.flat.length ≤ 100000 →
    Calls Tryz.prog 46 #[.pointer (some ⟨t, 0, none⟩), v, .int .i64 T.n.id] W fun e w' => ∃ v', e = .returned v' ∧ NodesOwn w' lo v' (l ++ T.flat) ∧ Tree w' base t most L ∧ Only v.ownBlock.toList W w' ∧ (v'.ownBlock = v.ownBlock ∨ ∃ k, v'.ownBlock = some k ∧ W.heap.size ≤ k) := by
  intro m
  induction m with
  | zero => intro T hT; cases T with | mk n ks => rw [Tr.flat] at hT; simp at hT
  | succ m ih =>
    intro T hTm hF W v l hT hv hlo hbd
    cases T with
    | mk n ks =>
    have IH := Lib.hid ih
    clear ih
    rw [Fits] at hF
    obtain ⟨ha, hk, hFs⟩ := hF
    have FS := Lib.hid (fun j (hj : j < ks.length) => fitss_get hFs j hj)
    have LT := Lib.hid (fun j (hj : j < ks.length) => (show ks[j].flat.length ≤ m by have := kid_flat (n := n) hj; omega))
    have hfl : (Tr.mk n ks).flat = n :: flats ks := by rw [Tr.flat]
    rw [hfl] at hbd ⊢
    have hnm : n ∈ L := (at_some ha).1
    have hrg := hT.ok.rng n hnm
    have hI : In64i n.id := by unfold In64i; omega
    have TN := Lib.hid (tnode_any hT hI ha)
    obtain ⟨A, c, svs, rfl, h1, ho, h3⟩ := hv
    have HO := Lib.hid ho
    have H3 := Lib.hid h3
    have T0 := Lib.hid hT
    obtain ⟨i0, hi, hz0, hz1, hz2⟩ := info_parts nodeInfo
    clear hT ho h3 hFs hTm
    show Calls Tryz.prog _ #[.pointer (some ⟨t, 0, none⟩), .slice A l.length c, .int .i64 n.id] W _
    go_enter Tryz.func46, Tryz.ntmps46
    go_wp2_with fail
    refine TN.out.mono ?_
    rintro e w1 ⟨⟨A1, c1, rfl, hs1⟩, hb⟩
    have B1 := Lib.hid hb
    have S1 := Lib.hid hs1
    clear hb hs1 TN
    go_upto_region 2 with fail
    have P2 := Lib.hid (Whole.mk w1 32 (nodeC n (.slice A1 n.sty.length c1)).toArray)
    have b12 : Below w1.heap.size w1 (w1.alloc (.cells (nodeC n (.slice A1 n.sty.length c1)).toArray 32)) := (Below.refl _ _).alloc (Nat.le_refl _) _
    have B2 := Lib.hid (B1.out.trans (b12.mono B1.out.size))
    have S2 := Lib.hid (S1.out.only (Only.of_below (S := []) b12) (by simp))
    clear b12 B1 S1
    unfold nodeC at P2 B2 S2
    generalize w1.alloc _ = w2 at *
    generalize w1.heap.size = q at *
    have c0 : w2.cell? ⟨q, 0, none⟩ = some (.int .i64 n.id) := P2.out.cell 0
    have c1' : w2.cell? ⟨q, 1, none⟩ = some (.int .i64 n.par) := P2.out.cell 1
    have c2' : w2.cell? ⟨q, 2, none⟩ = some (.bool n.tx) := P2.out.cell 2
    have c3' : w2.cell? ⟨q, 3, none⟩ = some (.string n.dat) := P2.out.cell 3
    have c4' : w2.cell? ⟨q, 4, none⟩ = some (.slice A1 n.sty.length c1) := P2.out.cell 4
    have b23 : Below w2.heap.size w2 (w2.alloc (.cells #[.int .i64 n.id, .int .i64 n.par, .bool n.tx, .string n.dat, .slice A1 n.sty.length c1] 32)) := (Below.refl _ _).alloc (Nat.le_refl _) _
    have B3 := Lib.hid (B2.out.trans (b23.mono B2.out.size))
    have S3 := Lib.hid (S2.out.only (Only.of_below (S := []) b23) (by simp))
    have O3 := Lib.hid ((Only.of_below (S := []) B3.out).owns HO.out (by simp))
    have T3 := Lib.hid (T0.out.behind B3.out)
    have P3 := Lib.hid (Whole.mk w2 32 #[.int .i64 n.id, .int .i64 n.par, .bool n.tx, .string n.dat, .slice A1 n.sty.length c1])
    clear b23 P2 B2 S2
    go_upto_region 3 with (at_builtin; refine wpList_append_own_at _ rfl (.tmp 17) (.tmp 19) 23 rfl lo 32 i0 (.agg #[.int .i64 0, .int .i64 0, .bool false, .string ⟨#[]⟩, .slice none 0 0]) 5 64 Tryz.underlying23 hi hz0 hz1 hz2 rfl (by decide) _ l.length (rowsC l svs) rfl O3.out ⟨w2.heap.size, 0, none⟩ 1 1 (nodeC n (.slice A1 n.sty.length c1)) rfl rfl ?_ (node_one n) (by unfold maxLen; simp at hbd; omega) (by simp at hbd; omega) (by have := B3.out.size; omega) ?_; (focus (intro j u hj; rw [head_add]; exact (P3.out.cell j).trans hj)); intro v4 w4 g1 g2 g3 g4; have Q1 := Lib.hid g1; have Q2 := Lib.hid (Only.of_grown g2); have Q4 := Lib.hid g4; clear g1 g2 g3 g4)
    have rowsQ : ∀ k ∈ (Value.slice A l.length c).ownBlock.toList, NodeRow (w2.alloc (.cells #[.int .i64 n.id, .int .i64 n.par, .bool n.tx, .string n.dat, .slice A1 n.sty.length c1] 32)) k := fun k hk => own_row O3.out (by simpa using hk)
    have O4 := Lib.hid ((Only.of_below (S := (Value.slice A l.length c).ownBlock.toList) B3.out).trans Q2.out (fun x hx => .inl hx))
    have T4 := Lib.hid (T3.out.rows Q2.out rowsQ)
    have S4 := Lib.hid ((S3.out.rows Q2.out rowsQ).mono hlo)
    have N4 := Lib.hid (NodesOwn.push h1 H3.out HO.out (n := n) (sv := .slice A1 n.sty.length c1) O4.out Q1.out S4.out)
    have K4 : Hid (v4.ownBlock = (Value.slice A l.length c).ownBlock ∨ ∃ k, v4.ownBlock = some k ∧ W.heap.size ≤ k) := Lib.hid (by
      rcases Q4.out with e | e
      · exact .inl e
      · exact .inr ⟨_, e, B3.out.size⟩)
    have KD := Lib.hid (tkids_any T4.out hI hrg.1 hL)
    rw [hk] at KD
    have zW4 : W.heap.size ≤ w4.heap.size := O4.out.size
    clear rowsQ Q1 Q2 Q4 T3 S3 O3 P3 B3 S4 H3 HO T0 c0 c1' c2' c3' c4'
    generalize w2.alloc _ = w3 at *
    go_wp2_with fail
    refine KD.out.mono ?_
    rintro e w5 ⟨kv, rfl, hkv, hb5⟩
    have T5 := Lib.hid (T4.out.behind hb5)
    have N5 := Lib.hid (N4.out.behind hb5)
    have O5 := Lib.hid (O4.out.trans (T := []) (Only.of_below hb5) (by simp))
    have I5 := Lib.hid hkv
    obtain ⟨Ak, ck, rfl, -, hkl⟩ := hkv
    generalize hbk : w4.heap.size = bk at *
    clear hb5 T4 N4 O4 KD
    have hml : (ks.map (·.n.id)).length = ks.length := by simp
    generalize hmk : (ks.map (·.n.id)).length = mk at *
    go_wp2_with fail
    go_loopw [1, 25] (fun v1 v25 wr => ∃ j : Nat, j ≤ ks.length ∧ v25 = .int .i64 j ∧ Hid (NodesOwn wr lo v1 (l ++ n :: flats (ks.take j))) ∧ Hid (Tree wr base t most L) ∧ Hid (IdsOwn wr bk (.slice Ak mk ck) (ks.map (·.n.id))) ∧ Hid (Only (Value.slice A l.length c).ownBlock.toList W wr) ∧ Hid (v1.ownBlock = (Value.slice A l.length c).ownBlock ∨ ∃ k, v1.ownBlock = some k ∧ W.heap.size ≤ k)) (fun v1 v25 _ => ks.length - (intOf v25).toNat)
    case atStart => exact ⟨0, Nat.zero_le _, rfl, by rw [List.take_zero, flats]; exact N5, T5, I5, O5, K4⟩
    case round =>
      clear T5 N5 O5 I5 K4
      obtain ⟨j, hj, rfl, hN, hT, hIk, hO, hK⟩ := hrel
      by_cases hlt : j < ks.length
      · obtain ⟨Ax, cx, ex, hx, -⟩ := hIk.out
        injection ex with ea eb ec
        subst ea ec
        obtain ⟨ad, rfl, hb, hc⟩ := (show Row wr wr.heap.size Ak (i64s (ks.map (·.n.id))) from row_of_own hx).int (show j < (ks.map (·.n.id)).length by rw [List.length_map]; exact hlt)
        have ez : (ks.map (·.n.id))[j]'(by rw [List.length_map]; exact hlt) = ks[j].n.id := by simp
        rw [ez] at hc
        have bdj : (l ++ n :: flats (ks.take j)).length + ks[j].flat.length ≤ 100000 := by
          have e1 := congrArg List.length (flats_take ks j hlt)
          have e2 : (flats ks).length = (flats (ks.take (j + 1))).length + (flats (ks.drop (j + 1))).length := by
            rw [← List.length_append, ← flats_append, List.take_append_drop]
          simp at e1 hbd ⊢
          omega
        have R := Lib.hid (IH.out ks[j] (LT.out j hlt) (FS.out j hlt) wr _ _ hT.out hN.out (by have := hO.out.size; omega) bdj)
        have FT := Lib.hid (show (l ++ n :: flats (ks.take j)) ++ ks[j].flat = l ++ n :: flats (ks.take (j + 1)) by rw [flats_take ks j hlt]; simp)
        rw [FT.out] at R
        clear FT bdj ez hx
        generalize ks[j].n.id = z at *
        go_wp2_with fail
        refine R.out.mono ?_
        rintro e w6 ⟨v6, rfl, r1, r2, r3, r4⟩
        have N6 := Lib.hid r1
        have T6 := Lib.hid r2
        have I6 := Lib.hid (hIk.out.rows r3 hN.out.block)
        have O6 := Lib.hid (hO.out.trans r3 (fun x hx => by
          rcases hK.out with e | ⟨k, e, hk'⟩
          · exact .inl (by rw [← e]; exact hx)
          · refine .inr ?_
            rw [e] at hx
            have : x = k := by simpa using hx
            omega))
        have K6 : Hid (v6.ownBlock = (Value.slice A l.length c).ownBlock ∨ ∃ k, v6.ownBlock = some k ∧ W.heap.size ≤ k) := Lib.hid (by
          rcases r4 with e | ⟨k, e, hk'⟩
          · rw [e]; exact hK.out
          · exact .inr ⟨k, e, by have := hO.out.size; omega⟩)
        clear r1 r2 r3 r4 R hN hT hIk hO hK hc
        go_wp2_with fail
        go_roundw
        case rel => exact ⟨j + 1, by omega, by go_num, N6, T6, I6, O6, K6⟩
        case measure => simp [intOf]; omega
      · have hq : j = ks.length := by omega
        have NX := Lib.hid (show NodesOwn wr lo _ (l ++ n :: flats ks) from by have := hN.out; rw [hq, List.take_length] at this; exact this)
        clear hN
        go_wp2_with fail
        go_ret
        exact ⟨_, rfl, NX.out, hT.out, hO.out, hK.out⟩
end Go.Proofs.YtpbfdfpedpfemaaGreatDoor
