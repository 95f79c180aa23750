import Derived.Test.YtodnplllkpgfaaaFreeTryQ
/- free's line: a round in which some are frozen. -/
namespace Go.Proofs.Ytodnplllkpgfaaa
open Go Go.RowKit
set_option linter.unusedVariables false
set_option linter.unusedSimpArgs false
set_option maxRecDepth 20000
set_option maxHeartbeats 4000000

section
variable {st : List It} {P : List Int} {q : List (It × Int)} {o : Int} {j : Nat}
theorem fz_at (hq0 : putI st P = q) (hj : j < st.length) : ∃ hq : j < q.length, (q.map (stopI o))[j]? = some (stopI o q[j]) := by
  have hq : j < q.length := by rw [← hq0, putI_len]; exact hj
  exact ⟨hq, by simp [hq]⟩
theorem fz_len (hq0 : putI st P = q) : (q.map (stopI o)).length = st.length := by rw [List.length_map, ← hq0, putI_len]
theorem fz_lenV (hq0 : putI st P = q) : (nowV (q.map (stopI o))).length = (nowV st).length := by rw [nowV_len, nowV_len, fz_len hq0]
theorem fz_skip (hq0 : putI st P = q) (hj : j < st.length) (hf : st[j].fz = true) : mixL (nowV (q.map (stopI o))) (nowV st) (j + 1) = mixL (nowV (q.map (stopI o))) (nowV st) j ∧ plcI 0 ((q.map (stopI o)).take (j + 1)) = plcI 0 ((q.map (stopI o)).take j) := by
  have hq : j < q.length := by rw [← hq0, putI_len]; exact hj
  have hm : j < (q.map (stopI o)).length := by simpa using hq
  have e : q[j] = (st[j], st[j].s) := by subst hq0; exact put_frozen hj hf hq
  have e2 : (q.map (stopI o))[j] = ⟨st[j].x, st[j].s, true⟩ := by rw [List.getElem_map, e]; unfold stopI; simp [hf]
  refine ⟨mix_stay (fz_lenV hq0) (by rw [nowV_len]; exact hj) ?_, ?_⟩
  · rw [nowV_get hm, nowV_get hj, e2]; unfold nowI; simp [hf]
  · rw [plcI_take _ j hm, e2]; simp
theorem fz_stay (hq0 : putI st P = q) (hj : j < st.length) (hq : j < q.length) (hf : st[j].fz = false) (hs : stopB o (q[j].1.s - q[j].2) = false) : mixL (nowV (q.map (stopI o))) (nowV st) (j + 1) = mixL (nowV (q.map (stopI o))) (nowV st) j ∧ plcI 0 ((q.map (stopI o)).take (j + 1)) = plcI 0 ((q.map (stopI o)).take j) ++ [j] := by
  have hm : j < (q.map (stopI o)).length := by simpa using hq
  have e : q[j].1.fz = false ∧ q[j].1.x = st[j].x := by subst hq0; rw [put_open hj hf hq]; exact ⟨rfl, rfl⟩
  have e2 : (q.map (stopI o))[j].fz = false ∧ (q.map (stopI o))[j].x = st[j].x := by
    rw [List.getElem_map]
    exact ⟨by rw [stop_fz, e.1, hs]; rfl, e.2⟩
  refine ⟨mix_stay (fz_lenV hq0) (by rw [nowV_len]; exact hj) ?_, ?_⟩
  · rw [nowV_get hm, nowV_get hj]; unfold nowI; rw [e2.1, e2.2, hf]; rfl
  · rw [plcI_take _ j hm, e2.1]; simp
theorem fz_stop (hq0 : putI st P = q) (hj : j < st.length) (hq : j < q.length) (hf : st[j].fz = false) (hs : stopB o (q[j].1.s - q[j].2) = true) : (mixL (nowV (q.map (stopI o))) (nowV st) j).set j (.int .i64 q[j].1.s) = mixL (nowV (q.map (stopI o))) (nowV st) (j + 1) ∧ plcI 0 ((q.map (stopI o)).take (j + 1)) = plcI 0 ((q.map (stopI o)).take j) := by
  have hm : j < (q.map (stopI o)).length := by simpa using hq
  have e2 : (q.map (stopI o))[j].fz = true := by rw [List.getElem_map, stop_fz, hs, Bool.or_true]
  have e3 : (q.map (stopI o))[j].s = q[j].1.s := by rw [List.getElem_map]; rfl
  refine ⟨mix_step (fz_lenV hq0) (by rw [nowV_len]; exact hj) ?_, ?_⟩
  · rw [nowV_get hm]; unfold nowI; rw [e2, e3]; rfl
  · rw [plcI_take _ j hm, e2]; simp
end
/-- A line, the tries, and the new row of those that stay open. -/
structure Fz (W w1 w : World) (gp gz gt n mo : Nat) (it : Value) (room : Int) (gr : Bool) (Ao : Option Addr) (co : Nat) (os zs ts : List Value) (A4 : Option Addr) (m4 c4 : Nat) (os4 : List Value) : Prop where
  L : Ln W w gp gz n it room gr Ao mo co os zs
  T : w.ownsRow 0 58 2 (.slice (some ⟨gt, 0, none⟩) mo mo) mo ts
  N : w.ownsRow w1.heap.size 3 1 (.slice A4 m4 c4) m4 os4
  tz : gt ≠ gz
  lp : gp < w1.heap.size
  lz : gz < w1.heap.size
  lt : gt < w1.heap.size
  lo : ∀ g, (Value.slice Ao mo co).ownBlock = some g → g < w1.heap.size
  sz : w1.heap.size ≤ w.heap.size
section
variable {W w1 w w' : World} {gp gz gt n mo : Nat} {it : Value} {room : Int} {gr : Bool} {Ao : Option Addr} {co : Nat} {os zs ts : List Value} {A4 : Option Addr} {m4 c4 : Nat} {os4 : List Value}
theorem Fz.behind (h : Fz W w1 w gp gz gt n mo it room gr Ao co os zs ts A4 m4 c4 os4) (hb : Below w.heap.size w w') : Fz W w1 w' gp gz gt n mo it room gr Ao co os zs ts A4 m4 c4 os4 :=
  ⟨h.L.behind hb, own_below h.T hb (Nat.le_refl _), own_below h.N hb (Nat.le_refl _), h.tz, h.lp, h.lz, h.lt, h.lo, Nat.le_trans h.sz hb.size⟩
theorem Fz.putZ (h : Fz W w1 w gp gz gt n mo it room gr Ao co os zs ts A4 m4 c4 os4) (j : Nat) (u : Value) : Fz W w1 (w.setCell ⟨gz, j, none⟩ u) gp gz gt n mo it room gr Ao co os (zs.set j u) ts A4 m4 c4 os4 := by
  have o := (Only.refl [gz] w).setCell ⟨gz, j, none⟩ (.inl (by simp)) u
  have lz := h.lz
  refine ⟨h.L.putZ j u, o.owns h.T (fun k hk hm => ?_), o.owns h.N (fun k hk hm => ?_), h.tz, h.lp, h.lz, h.lt, h.lo, Nat.le_trans h.sz o.size⟩
  · have e1 : gt = k := by simpa [Value.ownBlock] using hk
    have e2 : k = gz := by simpa using hm
    exact h.tz (e1.trans e2)
  · have e2 : k = gz := by simpa using hm
    have := (h.N.lt k hk).1
    omega
theorem Fz.push (h : Fz W w1 w gp gz gt n mo it room gr Ao co os zs ts A4 m4 c4 os4) {A' : Option Addr} {c' : Nat} {u : Value} (ho : w'.ownsRow w1.heap.size 3 1 (.slice A' (m4 + 1) c') (m4 + 1) (os4 ++ [u])) (hn : Only (Value.slice A4 m4 c4).ownBlock.toList w w') :
    Fz W w1 w' gp gz gt n mo it room gr Ao co os zs ts A' (m4 + 1) c' (os4 ++ [u]) := by
  have far : ∀ k, k < w1.heap.size → k ∉ (Value.slice A4 m4 c4).ownBlock.toList := fun k hk hm => by
    have := (h.N.lt k (by simpa using hm)).1
    omega
  have lp := h.lp
  have lz := h.lz
  have lt := h.lt
  refine ⟨⟨hn.whole h.L.cell (far _ h.lp), hn.owns h.L.zrow (fun k hk => ?_), hn.owns h.L.orow (fun k hk => far k (h.lo k hk)), h.L.npz, h.L.npo, ?_, h.L.gpl⟩, hn.owns h.T (fun k hk => ?_), ho, h.tz, h.lp, h.lz, h.lt, h.lo, Nat.le_trans h.sz hn.size⟩
  · have e1 : gz = k := by simpa [Value.ownBlock] using hk
    exact far k (by omega)
  · refine h.L.low.trans (hn.below (fun x hx => ?_) h.L.low.size)
    have h1 := (h.N.lt x (by simpa using hx)).1
    have h2 := h.L.gpl
    omega
  · have e1 : gt = k := by simpa [Value.ownBlock] using hk
    exact far k (by omega)
end
theorem int1_info : (Try.prog.info? 3).map (fun i => (i.zero, i.size, i.bytes)) = some (some (.int .i64 0), 1, 8) := by kernel_rfl
theorem freeze_any {W w : World} {gp gz n : Nat} {A : Option Addr} {c : Nat} {inner : Int} {gr : Bool} {st : List It} (h : LnSt W w gp gz n A c inner gr st) (hr : RI gr inner st) (hn : st.length = n) (hR : Row W W.heap.size A ((st.map It.x).flatMap fxC)) :
    Calls Try.prog 20 #[.pointer (some ⟨gp, 0, none⟩)] w fun e w' => e = .returned (.tuple #[]) ∧ LnSt W w' gp gz n A c inner gr (roundI gr inner st) := by
  have hl5 := hr.len
  have hob := open_le st
  have hpl := hr.parts_len
  obtain ⟨P, hP⟩ : ∃ P, shareZ (leftI gr inner st) (wtsI gr st) = P := ⟨_, rfl⟩
  obtain ⟨q, hq⟩ : ∃ q, putI st P = q := ⟨_, rfl⟩
  obtain ⟨o, ho⟩ : ∃ o, overI q = o := ⟨_, rfl⟩
  have er : roundI gr inner st = q.map (stopI o) := by
    show (putI st (shareZ (leftI gr inner st) (wtsI gr st))).map (stopI (overI (putI st (shareZ (leftI gr inner st) (wtsI gr st))))) = _
    rw [hP, hq, ho]
  have RX : Hid ((q.map (stopI o)).map It.x = st.map It.x) := Lib.hid (by rw [← er, roundI_x])
  have TR := Lib.hid (tried_any h hr hn hR P q hP hq)
  rw [er]
  rw [ho] at TR
  obtain ⟨Ao, co, L⟩ := h
  have HL := Lib.hid L
  have HQ := Lib.hid hq
  have HN := Lib.hid hn
  have HPC := Lib.hid (plcI_len st 0)
  have hql : q.length = n := by rw [← hq, putI_len]; exact hn
  have HQL := Lib.hid hql
  have HTL : Hid ((tryL q).length = openI st) := Lib.hid (by rw [← hq, tryL_len])
  obtain ⟨mo, hmo⟩ : ∃ m, openI st = m := ⟨_, rfl⟩
  have HMO := Lib.hid hmo
  rw [hmo] at HPC TR hob HTL
  rw [HPC.out] at HL
  rw [hn] at hl5 hob
  clear hpl hP hq ho er L hr hR hn hmo hql
  go_enter Try.func20, Try.ntmps20
  go_wp2_with fail
  refine TR.out.mono ?_
  rintro e w1 ⟨gt, rfl, ot, hb1⟩
  have F1 : Hid (Fz W w1 w1 gp gz gt n mo (.slice A n c) (roomF inner (st.map It.x)) gr Ao co (plcV (plcI 0 st)) (mixL (nowV (q.map (stopI o))) (nowV st) 0) ((tryL q).flatMap tryV) none 0 0 (plcV (plcI 0 ((q.map (stopI o)).take 0)))) := Lib.hid (by
    have L1 := HL.out.behind hb1
    have lz := rowG_lt HL.out.zrow
    have lt := ot.lt gt rfl
    rw [mixL_zero]
    exact ⟨L1, own_zero ot, World.ownsRow_nil _ _ _ _, by omega, L1.cell.size, (rowG_lt L1.zrow).2, lt.2, fun g hg => (L1.orow.lt g hg).2, Nat.le_refl _⟩)
  clear ot hb1 TR HL
  have k3 := F1.out.L.cell.cell 3
  simp only [List.getElem?_cons_zero, List.getElem?_cons_succ] at k3
  go_wp2_with fail
  go_loopw [4, 17] (fun v4 v17 wr => ∃ (m k m4 : Nat) (A4 : Option Addr) (c4 : Nat), v4 = .slice A4 m4 c4 ∧ v17 = .int .i64 m ∧ m ≤ mo ∧ k ≤ n ∧ m4 ≤ 500 ∧ Hid (m4 = (plcI 0 ((q.map (stopI o)).take k)).length) ∧ Hid (openI (st.take k) = m) ∧ Hid (Fz W w1 wr gp gz gt n mo (.slice A n c) (roomF inner (st.map It.x)) gr Ao co (plcV (plcI 0 st)) (mixL (nowV (q.map (stopI o))) (nowV st) k) ((tryL q).flatMap tryV) A4 m4 c4 (plcV (plcI 0 ((q.map (stopI o)).take k))))) (fun _ v17 _ => mo - (intOf v17).toNat)
  case atStart => exact ⟨0, 0, 0, none, 0, rfl, rfl, Nat.zero_le _, Nat.zero_le _, by omega, Lib.hid rfl, Lib.hid rfl, F1⟩
  case round =>
    clear F1 k3
    obtain ⟨m, k, m4, A4, c4, rfl, rfl, hm, hk, hm4, HM4, HK, F⟩ := hrel
    have SK := Lib.hid (fun a b h1 h2 h3 => skip_eq (F := fun k => (mixL (nowV (q.map (stopI o))) (nowV st) k, plcI 0 ((q.map (stopI o)).take k))) (l := st) (fun j hj hf => (by obtain ⟨e1, e2⟩ := fz_skip (o := o) HQ.out hj hf; simp only [e1, e2])) (a := a) (b := b) h1 h2 h3)
    by_cases hlt : m < mo
    · have hltz : (m : Int) < mo := by omega
      have hmp : m < (plcI 0 st).length := by rw [HPC.out]; exact hlt
      obtain ⟨i, his, hpi, hfi, hoi⟩ := plcI_get st 0 m hmp
      have hin : i < n := by rw [← HN.out]; exact his
      have hinz : (i : Int) < n := by omega
      have hiq : i < q.length := by rw [HQL.out]; exact hin
      have hki : k ≤ i := open_at his hfi (by rw [HK.out, hoi])
      have ek := SK.out k i hki (by omega) (by rw [HK.out, hoi])
      have ek1 : mixL (nowV (q.map (stopI o))) (nowV st) k = mixL (nowV (q.map (stopI o))) (nowV st) i := (congrArg Prod.fst ek).symm
      have ek2 : plcI 0 ((q.map (stopI o)).take k) = plcI 0 ((q.map (stopI o)).take i) := (congrArg Prod.snd ek).symm
      rw [ek1, ek2] at F
      rw [ek2] at HM4
      have LP := F.out.L
      rw [← HPC.out] at LP
      obtain ⟨ap, rfl, hapb, cp⟩ := LP.plc hmp
      clear LP
      rw [hpi, Nat.zero_add] at cp
      have tq := try_at HQ.out his hiq hfi
      rw [hoi] at tq
      have hmt : m < (tryL q).length := by rw [HTL.out]; exact hlt
      have hqt : (tryL q)[m] = q[i] := by rw [List.getElem?_eq_getElem hmt] at tq; exact Option.some.inj tq
      have t0 : ((tryL q).flatMap tryV)[m * 2 + 0]? = some (.int .i64 q[i].1.s) := by rw [flatTwo_get tryV_two _ m hmt 0 (by decide), hqt]; rfl
      have t1 : ((tryL q).flatMap tryV)[m * 2 + 1]? = some (.int .i64 (q[i].1.s - q[i].2)) := by rw [flatTwo_get tryV_two _ m hmt 1 (by decide), hqt]; rfl
      have ct0 : wr.cell? ⟨gt, m * 2, none⟩ = some (.int .i64 q[i].1.s) := by rw [F.out.T.cellAt _ (by omega)]; exact t0
      have ct1 : wr.cell? ⟨gt, m * 2 + 1, none⟩ = some (.int .i64 (q[i].1.s - q[i].2)) := by rw [F.out.T.cellAt _ (by omega)]; exact t1
      have ST := Lib.hid (fun w => stays_any (q[i].1.s - q[i].2) o w)
      have FS := Lib.hid (fun hs => fz_stay (o := o) HQ.out his hiq hfi hs)
      have FT := Lib.hid (fun hs => fz_stop (o := o) HQ.out his hiq hfi hs)
      have hon : openI (st.take (i + 1)) = m + 1 := by rw [openI_take st i his, if_neg (by rw [hfi]; simp), hoi]
      have HON := Lib.hid hon
      obtain ⟨C, hC⟩ : ∃ C, q[i].1.s = C := ⟨_, rfl⟩
      obtain ⟨D, hD⟩ : ∃ D, q[i].1.s - q[i].2 = D := ⟨_, rfl⟩
      rw [hD] at ct1 ST FS FT
      rw [hC] at ct0 FT
      clear hC hD hon t0 t1 hqt hmt tq hpi hoi hfi ek ek1 ek2 SK hki
      cases hs : stopB o D with
      | false =>
        obtain ⟨f1, f2⟩ := FS.out hs
        have F1 := Lib.hid f1
        have F2 := Lib.hid f2
        rw [hs] at ST
        clear f1 f2 FS FT hs ct0
        go_wp2_with fail
        refine (ST.out _).mono ?_
        rintro e wq ⟨rfl, hwq⟩
        obtain rfl : wr = wq := hwq.symm
        have FA := Lib.hid (F.out.behind ((Below.refl wr.heap.size wr).alloc (Nat.le_refl _) (.cells #[.int .i64 (i : Int)] 3)))
        go_upto_region 8 with (at_builtin; refine wpList_pushOne rfl (.tmp 29) (.tmp 31) _ rfl w1.heap.size 3 1 8 (.int .i64 0) Try.underlying43 int1_info rfl (by decide) m4 (.slice A4 m4 c4) _ rfl FA.out.N (by have := F.out.sz; simp; omega) wr.heap.size [.int .i64 (i : Int)] rfl (Whole.mk wr 3 #[.int .i64 (i : Int)]) rfl (by simp [Value.oneCell']) (by unfold maxLen; omega) (by omega) ?_; intro A5 c5 w5 h5 ho5 hk5)
        have F5 : Hid (Fz W w1 w5 gp gz gt n mo (.slice A n c) (roomF inner (st.map It.x)) gr (some ap) co (plcV (plcI 0 st)) (mixL (nowV (q.map (stopI o))) (nowV st) (i + 1)) ((tryL q).flatMap tryV) A5 (m4 + 1) c5 (plcV (plcI 0 ((q.map (stopI o)).take (i + 1))))) := Lib.hid (by
          have h := FA.out.push h5 ho5
          rw [F1.out, F2.out]
          have e : plcV (plcI 0 ((q.map (stopI o)).take i) ++ [i]) = plcV (plcI 0 ((q.map (stopI o)).take i)) ++ [.int .i64 (i : Int)] := by simp [plcV]
          rw [e]
          exact h)
        have M5 : Hid (m4 + 1 = (plcI 0 ((q.map (stopI o)).take (i + 1))).length) := Lib.hid (by rw [F2.out, List.length_append, ← HM4.out]; rfl)
        have hm45 : m4 + 1 ≤ 500 := by
          have h1 := open_le ((q.map (stopI o)).take (i + 1))
          rw [M5.out, plcI_len]
          rw [List.length_take] at h1
          omega
        clear h5 ho5 hk5 FA F F1 F2
        go_wp2_with fail
        go_roundw
        case rel => exact ⟨m + 1, i + 1, m4 + 1, A5, c5, by go_num, by go_num, by omega, by omega, by omega, M5, HON, F5⟩
        case measure => simp [intOf] <;> omega
      | true =>
        obtain ⟨f1, f2⟩ := FT.out hs
        have F2 := Lib.hid f2
        rw [hs] at ST
        have PZ := F.out.putZ i (.int .i64 C)
        rw [f1, ← f2] at PZ
        have PZ := Lib.hid PZ
        have M5 : Hid (m4 = (plcI 0 ((q.map (stopI o)).take (i + 1))).length) := Lib.hid (by rw [F2.out]; exact HM4.out)
        have k4 := F.out.L.cell.cell 4
        simp only [List.getElem?_cons_zero, List.getElem?_cons_succ] at k4
        have cz : ∃ u, wr.cell? ⟨gz, i, none⟩ = some u := by
          rw [F.out.L.zrow.cellAt i (by omega), List.getElem?_eq_getElem (by have := F.out.L.zrow.1; omega)]; exact ⟨_, rfl⟩
        obtain ⟨u, cz⟩ := cz
        have fz := F.out.L.zrow.frozenAt i
        clear f1 f2 FS FT hs F F2
        go_wp2_with fail
        refine (ST.out _).mono ?_
        rintro e wq ⟨rfl, hwq⟩
        obtain rfl : wr = wq := hwq.symm
        clear ST
        go_upto_region 7 with fail
        go_region
        all_goals go_wp2
        go_roundw
        case rel => exact ⟨m + 1, i + 1, m4, A4, c4, rfl, by go_num, by omega, by omega, by omega, M5, HON, by first | exact PZ | exact Lib.hid (PZ.out.behind (Below.drewN' (Below.refl _ _) 1))⟩
        case measure => simp [intOf] <;> omega
    · obtain rfl : m = mo := by omega
      have hltz : ¬ (m : Int) < m := by omega
      have hoz : openI (st.take n) = openI (st.take k) := by rw [HK.out, List.take_of_length_le (by rw [HN.out]; omega), HMO.out]
      have ek := SK.out k n hk (by rw [HN.out]; omega) hoz
      have ek1 : mixL (nowV (q.map (stopI o))) (nowV st) k = nowV (q.map (stopI o)) := by
        have h1 : mixL (nowV (q.map (stopI o))) (nowV st) n = mixL (nowV (q.map (stopI o))) (nowV st) k := congrArg Prod.fst ek
        rw [← h1]
        exact mixL_end (fz_lenV HQ.out) (by rw [nowV_len, HN.out])
      have ek2 : plcI 0 ((q.map (stopI o)).take k) = plcI 0 (q.map (stopI o)) := by
        have h1 : plcI 0 ((q.map (stopI o)).take n) = plcI 0 ((q.map (stopI o)).take k) := congrArg Prod.snd ek
        rw [← h1]
        rw [List.take_of_length_le (by rw [List.length_map, HQL.out]; omega)]
      rw [ek1, ek2] at F
      rw [ek2] at HM4
      have LN : Hid (LnSt W (wr.setCell ⟨gp, 3, none⟩ (.slice A4 m4 c4)) gp gz n A c inner gr (q.map (stopI o))) := Lib.hid (by
        have h := F.out.L.putO (own_raise F.out.N (fun g hg => by have h1 := (F.out.N.lt g hg).1; have h2 := F.out.L.gpl; have h3 := F.out.lp; omega)) (fun g hg => by have h1 := (F.out.N.lt g hg).1; have h2 := F.out.lp; have h3 := F.out.lz; exact ⟨by omega, by omega⟩)
        rw [HM4.out] at h
        unfold LnSt
        rw [RX.out]
        rw [HM4.out]
        exact ⟨_, _, h⟩)
      have k3 := F.out.L.cell.cell 3
      simp only [List.getElem?_cons_zero, List.getElem?_cons_succ] at k3
      have f3 := F.out.L.cell.free 3
      clear F ek ek1 ek2 SK hoz
      go_wp2_with fail
      go_end0
      exact ⟨rfl, LN.out⟩
end Go.Proofs.Ytodnplllkpgfaaa
