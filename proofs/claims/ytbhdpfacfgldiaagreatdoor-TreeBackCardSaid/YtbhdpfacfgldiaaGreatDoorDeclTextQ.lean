import Derived.Test.YtbhdpfacfgldiaaGreatDoorZTQ
import Derived.Test.YtbhdpfacfgldiaaGreatDoorZSQ
import Derived.Test.YtbhdpfacfgldiaaGreatDoorZRQ
/- decl.Text of one declaration: whether it tells. -/
namespace Go.Proofs.YtbhdpfacfgldiaaGreatDoor
open Go Go.RowKit
set_option linter.unusedVariables false
set_option linter.unusedSimpArgs false
set_option maxRecDepth 20000
set_option maxHeartbeats 4000000

abbrev AscOk (W : World) : Prop := AscTab W ∧ 0 < W.heap.size
theorem AscOk.below {W w : World} (h : AscOk W) (hb : Below W.heap.size W w) : AscOk w := by
  refine ⟨?_, Nat.lt_of_lt_of_le h.2 hb.size⟩
  have h1 := h.1
  have hg : Tryz.prog.globalNamed "strings.asciiSpace" = some 0 := by kernel_rfl
  unfold AscTab Lib.TabIs World.var? at *
  rw [hg] at h1 ⊢
  simp only [Option.bind_some, Option.bind_eq_bind] at h1 ⊢
  rw [← h1, hb.block _ h.2]
abbrev BldAt (B b : Nat) (bs : List Value) (w : World) : Prop := Lib.IsBuilder 118 5 B b bs w
theorem own_keep {w w' : World} {B e n : Nat} {v : Value} {xs : List Value} (h : w.ownsRow B e 1 v n xs) (hb : Below w.heap.size w w') : w'.ownsRow B e 1 v n xs := by
  rcases h.2 with ⟨rfl, h2⟩ | ⟨g, cap, cur, rfl, h2⟩
  · exact ⟨h.1, .inl ⟨rfl, h2⟩⟩
  · exact own_below h hb (Nat.le_refl _)
theorem bldA_keep {w w' : World} {B b : Nat} {p : Value} {bs : List Value} (h : Lib.BuilderAt 118 5 B b p bs w) (hb : Below w.heap.size w w') : Lib.BuilderAt 118 5 B b p bs w' := by
  have hlt := h.lt
  obtain ⟨h1, v, h2, h3, h4⟩ := h
  exact ⟨h1, v, (hb.block b hlt).trans h2, own_keep h3 hb, h4⟩
theorem bld_keep {w w' : World} {B b : Nat} {bs : List Value} (h : BldAt B b bs w) (hb : Below w.heap.size w w') : BldAt B b bs w' :=
  h.elim (fun h => .inl (bldA_keep h hb)) (fun h => .inr (bldA_keep h hb))
theorem bld_new (W : World) : BldAt W.heap.size W.heap.size [] (W.alloc (.cells #[.pointer none, .slice none 0 0] 118)) :=
  .inl ⟨Nat.le_refl _, _, heap_alloc_new W _, ⟨rfl, .inl ⟨rfl, rfl⟩⟩, by simp [Value.ownBlock]⟩

def strT (k : Nat) : Told := fun v _ => ∃ s : ByteArray, v = .string s ∧ s.size ≤ k
theorem strT_steady (k : Nat) : Steady (strT k) := fun _ _ _ _ h => h
theorem text_told {k : Nat} {w : World} {P : Program} {f : FuncId} {xs : Array Value} (h : Calls P f xs w (TextPost k w)) : Calls P f xs w fun e w' => ∃ v, e = .returned v ∧ Behind w w' ∧ strT k v w' :=
  h.mono fun e w' ⟨s, he, hs, hb⟩ => ⟨_, he, hb, s, rfl, hs⟩
theorem run_invoke {P : Program} {o : Oper} {f : FuncId} {fn : Func} {c : Code} {r : Operand} {name : String} {xs : Array Operand} {ts : Array TypeId} {a' : Act} {w : World} {T : TypeId} {v : Value} (hop : o.op = .call { callee := .invoke r name, args := xs, argTypes := ts }) (hr : a'.eval r = .iface T v)
    (hm : (method (P.types.size + Made.depth) T v name).run P w = .ok (f, v) w) (hf : P.funcs[f]? = some fn) (hname : (fn.name == "runtime.NumGoroutine") = false) (hb : fn.body = some c) :
    (execOp a'.eval o).run P w = .ok (.enter f (#[v] ++ xs.map a'.eval)) w := by
  have hn : ¬ (fn.name = "runtime.NumGoroutine") := by simpa using hname
  simp only [execOp, hop, resolve, hr, Sem.run_bind, Sem.run_pure, Result.andThen_ok]
  generalize xs.map a'.eval = ys
  obtain ⟨l⟩ := ys
  simp [invoke, callMethod, Sem.run_bind, hm, callFunc, hf, hn, hb]
theorem add_gives {P : Program} {o : Oper} {a : Act} {w : World} {t t2 : TypeId} {k : Nat} (x y : Operand) {s s2 : ByteArray} (ho : o.op = .binOp .add t x y t2) (hx : a.eval x = .string s) (hy : a.eval y = .string s2) (hk : (s ++ s2).size ≤ k) (hk2 : k ≤ 1000) : gives P o a w (strT k) := by
  unfold gives
  simp only [execOp, ho, hx, hy]
  simp [go_sem]
  rw [if_neg (by rw [ByteArray.size_append] at hk; omega)]
  exact ⟨Behind.refl _, _, rfl, hk⟩
theorem row_in {w : World} {B : Nat} {A : Option Addr} {xs : List Value} (h : Row w B A xs) : Row w w.heap.size A xs := fun hn => by
  obtain ⟨ad, e, -, hc⟩ := h hn
  refine ⟨ad, e, ?_, hc⟩
  have h0 := hc 0 hn
  rcases Nat.lt_or_ge ad.block w.heap.size with h' | h'
  · exact h'
  · unfold World.cell? at h0
    rw [Array.getElem?_eq_none (by rw [add_block]; exact h')] at h0
    simp at h0
theorem autoS_small (p : Int) : (autoS p).size ≤ 16 := by
  rcases autoS_ways p with ⟨h, -⟩ | ⟨h, -⟩ | ⟨h, -⟩ <;> rw [h] <;> decide
theorem may_len_bd {p w k n : Int} (h : lenP p) (hm : mayZ p w k n = true) : -1000000000 ≤ n ∧ n ≤ 1000000000 := by
  rw [← may_lenB p w k n h] at hm
  unfold lenB holdsB at hm
  simp only [decide_eq_true_eq] at hm
  obtain ⟨-, h1 | h1 | h1⟩ := hm <;> omega
theorem text_one (p w k n : Int) (g : Nat) (W : World) (hg : g < W.heap.size) (h0 : W.cell? ⟨g, 0, none⟩ = some (.int .i64 p)) (h1 : W.cell? ⟨g, 1, none⟩ = some (.int .i64 w)) (h2 : W.cell? ⟨g, 2, none⟩ = some (.int .i64 k)) (h3 : W.cell? ⟨g, 3, none⟩ = some (.int .i64 n)) (hT : TabOk W) (hA : AscOk W) :
    Calls Tryz.prog 77 #[.slice (some ⟨g, 0, none⟩) 1 1] W fun e w' => ∃ s : ByteArray, e = .returned (.tuple #[.string s, .bool (mayZ p w k n)]) ∧ Below W.heap.size W w' := by
  have HV := Lib.hid (show ∀ w', Below W.heap.size W w' → w'.cell? ⟨g, 0, none⟩ = some (.int .i64 p) ∧ w'.cell? ⟨g, 1, none⟩ = some (.int .i64 w) ∧ w'.cell? ⟨g, 2, none⟩ = some (.int .i64 k) ∧ w'.cell? ⟨g, 3, none⟩ = some (.int .i64 n) from fun w' hb => ⟨(hb.cell hg).trans h0, (hb.cell hg).trans h1, (hb.cell hg).trans h2, (hb.cell hg).trans h3⟩)
  have HT := Lib.hid (show ∀ w', Below W.heap.size W w' → TabOk w' ∧ AscOk w' from fun w' hb => ⟨hT.below hb, hA.below hb⟩)
  have B0 := Lib.hid ((Below.refl W.heap.size W).alloc (Nat.le_refl _) (.cells #[.pointer none, .slice none 0 0] 118))
  have L0 := Lib.hid (bld_new W)
  clear h0 h1 h2 h3 hT hA
  go_enter Tryz.func77, Tryz.ntmps77
  go_upto_region 2 with fail
  generalize W.alloc (.cells #[.pointer none, .slice none 0 0] 118) = w1 at *
  go_upto_region 3 with fail
  go_loopw [10] (fun v10 wr => (v10 = .int .i64 0 ∧ wr = w1) ∨ (v10 = .int .i64 1 ∧ Hid (mayZ p w k n = true) ∧ Hid (∃ l : List UInt8, BldAt W.heap.size W.heap.size (Lib.byteCells l) wr) ∧ Hid (Below W.heap.size W wr))) (fun v10 _ => 1 - (intOf v10).toNat)
  case atStart => exact .inl ⟨rfl, rfl⟩
  case round =>
    rcases hrel with ⟨rfl, rfl⟩ | ⟨rfl, HM, HL, HB⟩
    · obtain ⟨c0, c1, c2, c3⟩ := HV.out _ B0.out
      go_wp2_with fail
      have E1 := Lib.hid (Whole.mk wr 70 #[.int .i64 p, .int .i64 w, .int .i64 k, .int .i64 n])
      have B1 := Lib.hid (B0.out.alloc (by have := B0.out.size; omega) (.cells #[.int .i64 p, .int .i64 w, .int .i64 k, .int .i64 n] 70))
      have L1 := Lib.hid (bld_keep L0.out ((Below.refl wr.heap.size wr).alloc (Nat.le_refl _) (.cells #[.int .i64 p, .int .i64 w, .int .i64 k, .int .i64 n] 70)))
      clear L0 c0 c1 c2 c3
      rcases (show (p < 1 ∨ 32 < p) ∨ (p = 1 ∨ p = 20 ∨ p = 21 ∨ p = 26 ∨ p = 27 ∨ p = 28 ∨ p = 29 ∨ p = 30 ∨ p = 32) ∨ (p = 23 ∨ p = 24) ∨ p = 25 ∨ lenP p by unfold lenP; omega) with h | h | h | h | h
      · have HM := Lib.hid (show mayZ p w k n = false from may_out h)
        refine (formOf_out p h _).mono ?_
        rintro e w1' ⟨rfl, rfl⟩
        clear h
        go_wp2_with fail
        go_ret2
        exact ⟨⟨#[]⟩, by rw [HM.out]; rfl, B1.out⟩
      · have H := Lib.hid h
        clear h
        refine (formOf_words p H.out _).mono ?_
        rintro e w3 ⟨A1, rfl, hr, b1⟩
        have E2 := Lib.hid (E1.out.under b1 E1.out.size)
        have B2 := Lib.hid (B1.out.trans (b1.mono B1.out.size))
        have L2 := Lib.hid (bld_keep L1.out b1)
        have R2 := Lib.hid (row_in hr)
        clear b1 hr E1 B1 L1
        have c0 : w3.cell? ⟨wr.heap.size, 0, none⟩ = some (.int .i64 p) := E2.out.cell 0
        have c1 : w3.cell? ⟨wr.heap.size, 1, none⟩ = some (.int .i64 w) := E2.out.cell 1
        have c2 : w3.cell? ⟨wr.heap.size, 2, none⟩ = some (.int .i64 k) := E2.out.cell 2
        have c3 : w3.cell? ⟨wr.heap.size, 3, none⟩ = some (.int .i64 n) := E2.out.cell 3
        go_wp2_with fail
        cases hmay : mayZ p w k n with
        | false =>
          have HM := Lib.hid hmay
          refine (wordsHas_val _ p w k n H.out false hmay _).mono ?_
          rintro e w4 ⟨rfl, b2⟩
          have B3 := Lib.hid (B2.out.trans (b2.mono B2.out.size))
          clear b2 hmay c0 c1 c2 c3
          go_wp2_with fail
          go_ret2
          exact ⟨⟨#[]⟩, by rw [HM.out]; rfl, B3.out⟩
        | true =>
          have HM := Lib.hid hmay
          have hwb : 0 ≤ w ∧ w < wordsN p := by have := hmay; rw [may_words H.out, decide_eq_true_iff] at this; exact ⟨this.1, this.2.1⟩
          refine (wordsHas_val _ p w k n H.out true hmay _).mono ?_
          rintro e w4 ⟨rfl, b2⟩
          have E3 := Lib.hid (E2.out.under b2 E2.out.size)
          have B3 := Lib.hid (B2.out.trans (b2.mono B2.out.size))
          have L3 := Lib.hid (bld_keep L2.out b2)
          have R3 := Lib.hid ((R2.out.below b2).more b2.size)
          have HP := Lib.hid (mayp_range hmay)
          obtain ⟨j, rfl⟩ : ∃ j : Nat, w = (j : Int) := ⟨w.toNat, by omega⟩
          have HW := Lib.hid (show j < (wordsS p).length by have := wordsS_length p; omega)
          clear b2 hmay c0 c1 c2 c3 hwb E2 B2 L2 R2
          go_upto_region 10 with fail
          have YE := Lib.hid (fun t : Later w4.heap.size w4 => E3.out.under t.h E3.out.size)
          have y0 : ∀ t : Later w4.heap.size w4, t.w.cell? ⟨wr.heap.size, 0, none⟩ = some (.int .i64 p) := fun t => (YE.out t).cell 0
          have y1 : ∀ t : Later w4.heap.size w4, t.w.cell? ⟨wr.heap.size, 1, none⟩ = some (.int .i64 j) := fun t => (YE.out t).cell 1
          have y2 : ∀ t : Later w4.heap.size w4, t.w.cell? ⟨wr.heap.size, 2, none⟩ = some (.int .i64 k) := fun t => (YE.out t).cell 2
          have y3 : ∀ t : Later w4.heap.size w4, t.w.cell? ⟨wr.heap.size, 3, none⟩ = some (.int .i64 n) := fun t => (YE.out t).cell 3
          have YN := Lib.hid (fun (wb : World) (hb : Behind w4 wb) => text_told (nameOf_any p HP.out wb (HT.out wb (B3.out.trans (hb.mono B3.out.size))).2.1))
          have YT := Lib.hid (fun (wb : World) (hb : Behind w4 wb) => text_told (wordsTell_any p j k n H.out A1 wb HW.out ((R3.out.below hb).more hb.size)))
          refine region_lane [] [0, 1, 2, 3, 4, 5, 6, 7] [8] (by kernel_rfl) (by kernel_rfl) (fun _ _ _ _ _ h => h) ?_
          simp only [pick, List.map_nil]
          refine wpQuiet_nil ⟨rfl, ?_⟩
          simp only [List.map_cons, List.map_nil, List.getD_cons_zero, List.getD_cons_succ, List.drop_succ_cons, List.drop_zero]
          refine laneO_run 2 (by kernel_rfl) ?_
          simp only [List.take_succ_cons, List.take_zero, List.drop_succ_cons, List.drop_zero]
          repeat (go_big_quiet_step (fail))
          refine wpQuiet_nil ?_
          refine laneO_callT (strT 20) (strT_steady _) rfl rfl (by rfl) (by rfl) Tryz.func84 (by kernel_rfl) rfl (fun a' wb hw hm => ?_) ?_
          · have e : a'.tmps.getD 30 undef = .int .i64 p := hm 30 (by simp)
            have e2 : (#[Operand.tmp 30] : Array Operand).map a'.eval = #[.int .i64 p] := by simp [Act.eval] at e ⊢; exact e
            rw [e2]
            exact YN.out wb hw
          refine laneO_gives (strT 22) (strT_steady _) rfl (by rfl) (by rfl) (fun a' wb hw hm => ?_) ?_
          · obtain ⟨s, e, hs⟩ : strT 20 (a'.tmps.getD 31 undef) wb := hm 31 (by simp [Oper.looksAt, Op.operands])
            exact add_gives (.tmp 31) (.const (.string ⟨#[58, 32]⟩)) rfl e rfl (by rw [ByteArray.size_append]; have : (ByteArray.mk #[58, 32]).size = 2 := rfl; omega) (by decide)
          refine laneO_run 2 (by kernel_rfl) ?_
          simp only [List.take_succ_cons, List.take_zero, List.drop_succ_cons, List.drop_zero]
          repeat (go_big_quiet_step (fail))
          refine wpQuiet_nil ?_
          refine laneO_told (strT 400) (strT_steady _) (by kernel_rfl) rfl (fun wb hw => .inl ⟨by rfl, ?_⟩) ?_
          · unfold gives
            rw [run_invoke (f := 121) (T := 131) (v := .slice (some A1) (wordsS p).length (wordsS p).length) rfl rfl (by kernel_rfl) Tryz.func121 (by kernel_rfl) rfl]
            simp only [Act.eval, List.map_toArray, List.map_cons, List.map_nil, List.append_toArray, List.cons_append, List.nil_append]
            exact ⟨Behind.refl _, YT.out wb hw⟩
          refine laneO_gives (strT 422) (strT_steady _) rfl (by rfl) (by rfl) (fun a' wb hw hm => ?_) ?_
          · obtain ⟨s, e, hs⟩ : strT 22 (a'.tmps.getD 32 undef) wb := hm 32 (by simp [Oper.looksAt, Op.operands])
            obtain ⟨s2, e2, hs2⟩ : strT 400 (a'.tmps.getD 35 undef) wb := hm 35 (by simp [Oper.looksAt, Op.operands])
            exact add_gives (.tmp 32) (.tmp 35) rfl e e2 (by rw [ByteArray.size_append]; omega) (by decide)
          clear YE y0 y1 y2 y3 YN YT E3 R3
          refine laneO_end (by simp) rfl rfl rfl fun w5 hb0 => ?_
          rintro x ⟨s, rfl, hs⟩ x2 ⟨s2, rfl, hs2⟩ x3 ⟨s3, rfl, hs3⟩ x4 ⟨s4, rfl, hs4⟩
          have B4 := Lib.hid (B3.out.trans (hb0.mono B3.out.size))
          have L4 := Lib.hid (bld_keep L3.out hb0)
          have WS := Lib.hid (wstr_any W.heap.size W.heap.size [] s w5 L4.out (by simp; omega) B4.out.size)
          clear hb0 B3 L3 L4
          simp only [Act.put, List.setIfInBounds_toArray, List.set_cons_zero, List.set_cons_succ, fillAll]
          go_wp2_with fail
          refine WS.out.mono ?_
          rintro e w6 ⟨rfl, hbl, hb⟩
          have B5 := Lib.hid (B4.out.trans hb)
          have L5 := Lib.hid (show BldAt W.heap.size W.heap.size (Lib.strCells s) w6 from .inr (by simpa using hbl))
          clear hb hbl WS B4
          go_upto_region 11 with fail
          have LE := Lib.hid (Tryz.Builder_Len W.heap.size W.heap.size _ w6 L5.out)
          have LN := Lib.hid (Lib.strCells_length s)
          go_wp2_with fail
          refine LE.out.mono ?_
          rintro e w7 ⟨rfl, rfl⟩
          have NL := Lib.hid (show ¬ (2000 < (Lib.strCells s).length) by rw [LN.out]; omega)
          generalize (Lib.strCells s).length = q at *
          have nl : ((q : Nat) : Int) ≤ 2000 := by have := NL.out; omega
          go_wp2_with fail
          go_roundw
          case rel => exact .inr ⟨rfl, HM, ⟨s.data.toList, L5.out⟩, B5⟩
          case measure => simp [intOf]
      · have H := Lib.hid h
        clear h
        refine (formOf_whole p H.out _).mono ?_
        rintro e w3' ⟨rfl, rfl⟩
        generalize wr.alloc (.cells #[.int .i64 p, .int .i64 w, .int .i64 k, .int .i64 n] 70) = w3 at *
        have E2 := E1
        have B2 := B1
        have L2 := L1
        clear E1 B1 L1
        have c0 : w3.cell? ⟨wr.heap.size, 0, none⟩ = some (.int .i64 p) := E2.out.cell 0
        have c1 : w3.cell? ⟨wr.heap.size, 1, none⟩ = some (.int .i64 w) := E2.out.cell 1
        have c2 : w3.cell? ⟨wr.heap.size, 2, none⟩ = some (.int .i64 k) := E2.out.cell 2
        have c3 : w3.cell? ⟨wr.heap.size, 3, none⟩ = some (.int .i64 n) := E2.out.cell 3
        go_wp2_with fail
        cases hmay : mayZ p w k n with
        | false =>
          have HM := Lib.hid hmay
          refine (wholeHas_val p w k n H.out false hmay _).mono ?_
          rintro e w4 ⟨rfl, b2⟩
          have B3 := Lib.hid (B2.out.trans (b2.mono B2.out.size))
          clear b2 hmay c0 c1 c2 c3
          go_wp2_with fail
          go_ret2
          exact ⟨⟨#[]⟩, by rw [HM.out]; rfl, B3.out⟩
        | true =>
          have HM := Lib.hid hmay
          have hwb : 0 ≤ w ∧ w ≤ 100 := by have := hmay; rw [may_whole H.out, decide_eq_true_iff] at this; exact ⟨this.1, this.2.1⟩
          refine (wholeHas_val p w k n H.out true hmay _).mono ?_
          rintro e w4 ⟨rfl, b2⟩
          have E3 := Lib.hid (E2.out.under b2 E2.out.size)
          have B3 := Lib.hid (B2.out.trans (b2.mono B2.out.size))
          have L3 := Lib.hid (bld_keep L2.out b2)
          have HP := Lib.hid (mayp_range hmay)
          have HW := Lib.hid (show -4611686018427387904 ≤ w ∧ w ≤ 4611686018427387904 by omega)
          clear b2 hmay c0 c1 c2 c3 hwb E2 B2 L2
          go_upto_region 10 with fail
          have YE := Lib.hid (fun t : Later w4.heap.size w4 => E3.out.under t.h E3.out.size)
          have y0 : ∀ t : Later w4.heap.size w4, t.w.cell? ⟨wr.heap.size, 0, none⟩ = some (.int .i64 p) := fun t => (YE.out t).cell 0
          have y1 : ∀ t : Later w4.heap.size w4, t.w.cell? ⟨wr.heap.size, 1, none⟩ = some (.int .i64 w) := fun t => (YE.out t).cell 1
          have y2 : ∀ t : Later w4.heap.size w4, t.w.cell? ⟨wr.heap.size, 2, none⟩ = some (.int .i64 k) := fun t => (YE.out t).cell 2
          have y3 : ∀ t : Later w4.heap.size w4, t.w.cell? ⟨wr.heap.size, 3, none⟩ = some (.int .i64 n) := fun t => (YE.out t).cell 3
          have YN := Lib.hid (fun (wb : World) (hb : Behind w4 wb) => text_told (nameOf_any p HP.out wb (HT.out wb (B3.out.trans (hb.mono B3.out.size))).2.1))
          have YT := Lib.hid (fun (wb : World) (hb : Behind w4 wb) => text_told (wholeTell_any 0 100 p w k n HW.out.1 HW.out.2 wb (HT.out wb (B3.out.trans (hb.mono B3.out.size))).1))
          refine region_lane [] [0, 1, 2, 3, 4, 5, 6, 7] [8] (by kernel_rfl) (by kernel_rfl) (fun _ _ _ _ _ h => h) ?_
          simp only [pick, List.map_nil]
          refine wpQuiet_nil ⟨rfl, ?_⟩
          simp only [List.map_cons, List.map_nil, List.getD_cons_zero, List.getD_cons_succ, List.drop_succ_cons, List.drop_zero]
          refine laneO_run 2 (by kernel_rfl) ?_
          simp only [List.take_succ_cons, List.take_zero, List.drop_succ_cons, List.drop_zero]
          repeat (go_big_quiet_step (fail))
          refine wpQuiet_nil ?_
          refine laneO_callT (strT 20) (strT_steady _) rfl rfl (by rfl) (by rfl) Tryz.func84 (by kernel_rfl) rfl (fun a' wb hw hm => ?_) ?_
          · have e : a'.tmps.getD 30 undef = .int .i64 p := hm 30 (by simp)
            have e2 : (#[Operand.tmp 30] : Array Operand).map a'.eval = #[.int .i64 p] := by simp [Act.eval] at e ⊢; exact e
            rw [e2]
            exact YN.out wb hw
          refine laneO_gives (strT 22) (strT_steady _) rfl (by rfl) (by rfl) (fun a' wb hw hm => ?_) ?_
          · obtain ⟨s, e, hs⟩ : strT 20 (a'.tmps.getD 31 undef) wb := hm 31 (by simp [Oper.looksAt, Op.operands])
            exact add_gives (.tmp 31) (.const (.string ⟨#[58, 32]⟩)) rfl e rfl (by rw [ByteArray.size_append]; have : (ByteArray.mk #[58, 32]).size = 2 := rfl; omega) (by decide)
          refine laneO_run 2 (by kernel_rfl) ?_
          simp only [List.take_succ_cons, List.take_zero, List.drop_succ_cons, List.drop_zero]
          repeat (go_big_quiet_step (fail))
          refine wpQuiet_nil ?_
          refine laneO_told (strT 400) (strT_steady _) (by kernel_rfl) rfl (fun wb hw => .inl ⟨by rfl, ?_⟩) ?_
          · unfold gives
            rw [run_invoke (f := 124) (T := 133) (v := .agg #[.int .i64 0, .int .i64 100]) rfl rfl (by kernel_rfl) Tryz.func124 (by kernel_rfl) rfl]
            simp only [Act.eval, List.map_toArray, List.map_cons, List.map_nil, List.append_toArray, List.cons_append, List.nil_append]
            exact ⟨Behind.refl _, YT.out wb hw⟩
          refine laneO_gives (strT 422) (strT_steady _) rfl (by rfl) (by rfl) (fun a' wb hw hm => ?_) ?_
          · obtain ⟨s, e, hs⟩ : strT 22 (a'.tmps.getD 32 undef) wb := hm 32 (by simp [Oper.looksAt, Op.operands])
            obtain ⟨s2, e2, hs2⟩ : strT 400 (a'.tmps.getD 35 undef) wb := hm 35 (by simp [Oper.looksAt, Op.operands])
            exact add_gives (.tmp 32) (.tmp 35) rfl e e2 (by rw [ByteArray.size_append]; omega) (by decide)
          clear YE y0 y1 y2 y3 YN YT E3
          refine laneO_end (by simp) rfl rfl rfl fun w5 hb0 => ?_
          rintro x ⟨s, rfl, hs⟩ x2 ⟨s2, rfl, hs2⟩ x3 ⟨s3, rfl, hs3⟩ x4 ⟨s4, rfl, hs4⟩
          have B4 := Lib.hid (B3.out.trans (hb0.mono B3.out.size))
          have L4 := Lib.hid (bld_keep L3.out hb0)
          have WS := Lib.hid (wstr_any W.heap.size W.heap.size [] s w5 L4.out (by simp; omega) B4.out.size)
          clear hb0 B3 L3 L4
          simp only [Act.put, List.setIfInBounds_toArray, List.set_cons_zero, List.set_cons_succ, fillAll]
          go_wp2_with fail
          refine WS.out.mono ?_
          rintro e w6 ⟨rfl, hbl, hb⟩
          have B5 := Lib.hid (B4.out.trans hb)
          have L5 := Lib.hid (show BldAt W.heap.size W.heap.size (Lib.strCells s) w6 from .inr (by simpa using hbl))
          clear hb hbl WS B4
          go_upto_region 11 with fail
          have LE := Lib.hid (Tryz.Builder_Len W.heap.size W.heap.size _ w6 L5.out)
          have LN := Lib.hid (Lib.strCells_length s)
          go_wp2_with fail
          refine LE.out.mono ?_
          rintro e w7 ⟨rfl, rfl⟩
          have NL := Lib.hid (show ¬ (2000 < (Lib.strCells s).length) by rw [LN.out]; omega)
          generalize (Lib.strCells s).length = q at *
          have nl : ((q : Nat) : Int) ≤ 2000 := by have := NL.out; omega
          go_wp2_with fail
          go_roundw
          case rel => exact .inr ⟨rfl, HM, ⟨s.data.toList, L5.out⟩, B5⟩
          case measure => simp [intOf]
      · subst h
        refine (formOf_order _).mono ?_
        rintro e w3' ⟨rfl, rfl⟩
        generalize wr.alloc (.cells #[.int .i64 25, .int .i64 w, .int .i64 k, .int .i64 n] 70) = w3 at *
        have E2 := E1
        have B2 := B1
        have L2 := L1
        clear E1 B1 L1
        have c0 : w3.cell? ⟨wr.heap.size, 0, none⟩ = some (.int .i64 25) := E2.out.cell 0
        have c1 : w3.cell? ⟨wr.heap.size, 1, none⟩ = some (.int .i64 w) := E2.out.cell 1
        have c2 : w3.cell? ⟨wr.heap.size, 2, none⟩ = some (.int .i64 k) := E2.out.cell 2
        have c3 : w3.cell? ⟨wr.heap.size, 3, none⟩ = some (.int .i64 n) := E2.out.cell 3
        go_wp2_with fail
        cases hmay : mayZ 25 w k n with
        | false =>
          have HM := Lib.hid hmay
          refine (orderHas_val w k n false hmay _).mono ?_
          rintro e w4 ⟨rfl, b2⟩
          have B3 := Lib.hid (B2.out.trans (b2.mono B2.out.size))
          clear b2 hmay c0 c1 c2 c3
          go_wp2_with fail
          go_ret2
          exact ⟨⟨#[]⟩, by rw [HM.out]; rfl, B3.out⟩
        | true =>
          have HM := Lib.hid hmay
          have hwb : (-1000) ≤ w ∧ w ≤ 1000 := by have := hmay; rw [may_order rfl, decide_eq_true_iff] at this; exact ⟨this.1, this.2.1⟩
          refine (orderHas_val w k n true hmay _).mono ?_
          rintro e w4 ⟨rfl, b2⟩
          have E3 := Lib.hid (E2.out.under b2 E2.out.size)
          have B3 := Lib.hid (B2.out.trans (b2.mono B2.out.size))
          have L3 := Lib.hid (bld_keep L2.out b2)
          have HP := Lib.hid (mayp_range hmay)
          have HW := Lib.hid (show -4611686018427387904 ≤ w ∧ w ≤ 4611686018427387904 by omega)
          clear b2 hmay c0 c1 c2 c3 hwb E2 B2 L2
          go_upto_region 10 with fail
          have YE := Lib.hid (fun t : Later w4.heap.size w4 => E3.out.under t.h E3.out.size)
          have y0 : ∀ t : Later w4.heap.size w4, t.w.cell? ⟨wr.heap.size, 0, none⟩ = some (.int .i64 25) := fun t => (YE.out t).cell 0
          have y1 : ∀ t : Later w4.heap.size w4, t.w.cell? ⟨wr.heap.size, 1, none⟩ = some (.int .i64 w) := fun t => (YE.out t).cell 1
          have y2 : ∀ t : Later w4.heap.size w4, t.w.cell? ⟨wr.heap.size, 2, none⟩ = some (.int .i64 k) := fun t => (YE.out t).cell 2
          have y3 : ∀ t : Later w4.heap.size w4, t.w.cell? ⟨wr.heap.size, 3, none⟩ = some (.int .i64 n) := fun t => (YE.out t).cell 3
          have YN := Lib.hid (fun (wb : World) (hb : Behind w4 wb) => text_told (nameOf_any 25 HP.out wb (HT.out wb (B3.out.trans (hb.mono B3.out.size))).2.1))
          have YT := Lib.hid (fun (wb : World) (hb : Behind w4 wb) => text_told (wholeTell_any (-1000) 1000 25 w k n HW.out.1 HW.out.2 wb (HT.out wb (B3.out.trans (hb.mono B3.out.size))).1))
          refine region_lane [] [0, 1, 2, 3, 4, 5, 6, 7] [8] (by kernel_rfl) (by kernel_rfl) (fun _ _ _ _ _ h => h) ?_
          simp only [pick, List.map_nil]
          refine wpQuiet_nil ⟨rfl, ?_⟩
          simp only [List.map_cons, List.map_nil, List.getD_cons_zero, List.getD_cons_succ, List.drop_succ_cons, List.drop_zero]
          refine laneO_run 2 (by kernel_rfl) ?_
          simp only [List.take_succ_cons, List.take_zero, List.drop_succ_cons, List.drop_zero]
          repeat (go_big_quiet_step (fail))
          refine wpQuiet_nil ?_
          refine laneO_callT (strT 20) (strT_steady _) rfl rfl (by rfl) (by rfl) Tryz.func84 (by kernel_rfl) rfl (fun a' wb hw hm => ?_) ?_
          · have e : a'.tmps.getD 30 undef = .int .i64 25 := hm 30 (by simp)
            have e2 : (#[Operand.tmp 30] : Array Operand).map a'.eval = #[.int .i64 25] := by simp [Act.eval] at e ⊢; exact e
            rw [e2]
            exact YN.out wb hw
          refine laneO_gives (strT 22) (strT_steady _) rfl (by rfl) (by rfl) (fun a' wb hw hm => ?_) ?_
          · obtain ⟨s, e, hs⟩ : strT 20 (a'.tmps.getD 31 undef) wb := hm 31 (by simp [Oper.looksAt, Op.operands])
            exact add_gives (.tmp 31) (.const (.string ⟨#[58, 32]⟩)) rfl e rfl (by rw [ByteArray.size_append]; have : (ByteArray.mk #[58, 32]).size = 2 := rfl; omega) (by decide)
          refine laneO_run 2 (by kernel_rfl) ?_
          simp only [List.take_succ_cons, List.take_zero, List.drop_succ_cons, List.drop_zero]
          repeat (go_big_quiet_step (fail))
          refine wpQuiet_nil ?_
          refine laneO_told (strT 400) (strT_steady _) (by kernel_rfl) rfl (fun wb hw => .inl ⟨by rfl, ?_⟩) ?_
          · unfold gives
            rw [run_invoke (f := 124) (T := 133) (v := .agg #[.int .i64 (-1000), .int .i64 1000]) rfl rfl (by kernel_rfl) Tryz.func124 (by kernel_rfl) rfl]
            simp only [Act.eval, List.map_toArray, List.map_cons, List.map_nil, List.append_toArray, List.cons_append, List.nil_append]
            exact ⟨Behind.refl _, YT.out wb hw⟩
          refine laneO_gives (strT 422) (strT_steady _) rfl (by rfl) (by rfl) (fun a' wb hw hm => ?_) ?_
          · obtain ⟨s, e, hs⟩ : strT 22 (a'.tmps.getD 32 undef) wb := hm 32 (by simp [Oper.looksAt, Op.operands])
            obtain ⟨s2, e2, hs2⟩ : strT 400 (a'.tmps.getD 35 undef) wb := hm 35 (by simp [Oper.looksAt, Op.operands])
            exact add_gives (.tmp 32) (.tmp 35) rfl e e2 (by rw [ByteArray.size_append]; omega) (by decide)
          clear YE y0 y1 y2 y3 YN YT E3
          refine laneO_end (by simp) rfl rfl rfl fun w5 hb0 => ?_
          rintro x ⟨s, rfl, hs⟩ x2 ⟨s2, rfl, hs2⟩ x3 ⟨s3, rfl, hs3⟩ x4 ⟨s4, rfl, hs4⟩
          have B4 := Lib.hid (B3.out.trans (hb0.mono B3.out.size))
          have L4 := Lib.hid (bld_keep L3.out hb0)
          have WS := Lib.hid (wstr_any W.heap.size W.heap.size [] s w5 L4.out (by simp; omega) B4.out.size)
          clear hb0 B3 L3 L4
          simp only [Act.put, List.setIfInBounds_toArray, List.set_cons_zero, List.set_cons_succ, fillAll]
          go_wp2_with fail
          refine WS.out.mono ?_
          rintro e w6 ⟨rfl, hbl, hb⟩
          have B5 := Lib.hid (B4.out.trans hb)
          have L5 := Lib.hid (show BldAt W.heap.size W.heap.size (Lib.strCells s) w6 from .inr (by simpa using hbl))
          clear hb hbl WS B4
          go_upto_region 11 with fail
          have LE := Lib.hid (Tryz.Builder_Len W.heap.size W.heap.size _ w6 L5.out)
          have LN := Lib.hid (Lib.strCells_length s)
          go_wp2_with fail
          refine LE.out.mono ?_
          rintro e w7 ⟨rfl, rfl⟩
          have NL := Lib.hid (show ¬ (2000 < (Lib.strCells s).length) by rw [LN.out]; omega)
          generalize (Lib.strCells s).length = q at *
          have nl : ((q : Nat) : Int) ≤ 2000 := by have := NL.out; omega
          go_wp2_with fail
          go_roundw
          case rel => exact .inr ⟨rfl, HM, ⟨s.data.toList, L5.out⟩, B5⟩
          case measure => simp [intOf]
      · have H := Lib.hid h
        clear h
        refine (formOf_length p H.out _).mono ?_
        rintro e w3 ⟨rfl, b1⟩
        have AW := Lib.hid (autoS_small p)
        generalize hau : autoS p = au at *
        generalize hpc : pctF p = pc at *
        generalize hmn : minF p = mn at *
        have HAS := Lib.hid (fun (b : Bool) (hb : mayZ p w k n = b) (w5 : World) => lenHas_val p w k n H.out b hb w5)
        rw [hau, hpc, hmn] at HAS
        clear hau hpc hmn
        have E2 := Lib.hid (E1.out.under b1 E1.out.size)
        have B2 := Lib.hid (B1.out.trans (b1.mono B1.out.size))
        have L2 := Lib.hid (bld_keep L1.out b1)
        clear b1 E1 B1 L1
        have c0 : w3.cell? ⟨wr.heap.size, 0, none⟩ = some (.int .i64 p) := E2.out.cell 0
        have c1 : w3.cell? ⟨wr.heap.size, 1, none⟩ = some (.int .i64 w) := E2.out.cell 1
        have c2 : w3.cell? ⟨wr.heap.size, 2, none⟩ = some (.int .i64 k) := E2.out.cell 2
        have c3 : w3.cell? ⟨wr.heap.size, 3, none⟩ = some (.int .i64 n) := E2.out.cell 3
        go_wp2_with fail
        cases hmay : mayZ p w k n with
        | false =>
          have HM := Lib.hid hmay
          refine (HAS.out false hmay _).mono ?_
          rintro e w4 ⟨rfl, b2⟩
          have B3 := Lib.hid (B2.out.trans (b2.mono B2.out.size))
          clear b2 hmay c0 c1 c2 c3
          go_wp2_with fail
          go_ret2
          exact ⟨⟨#[]⟩, by rw [HM.out]; rfl, B3.out⟩
        | true =>
          have HM := Lib.hid hmay
          have hwb := may_len_bd H.out hmay
          refine (HAS.out true hmay _).mono ?_
          rintro e w4 ⟨rfl, b2⟩
          have E3 := Lib.hid (E2.out.under b2 E2.out.size)
          have B3 := Lib.hid (B2.out.trans (b2.mono B2.out.size))
          have L3 := Lib.hid (bld_keep L2.out b2)
          have HP := Lib.hid (mayp_range hmay)
          have HW := Lib.hid hwb
          clear b2 hmay c0 c1 c2 c3 hwb E2 B2 L2 HAS
          go_upto_region 10 with fail
          have YE := Lib.hid (fun t : Later w4.heap.size w4 => E3.out.under t.h E3.out.size)
          have y0 : ∀ t : Later w4.heap.size w4, t.w.cell? ⟨wr.heap.size, 0, none⟩ = some (.int .i64 p) := fun t => (YE.out t).cell 0
          have y1 : ∀ t : Later w4.heap.size w4, t.w.cell? ⟨wr.heap.size, 1, none⟩ = some (.int .i64 w) := fun t => (YE.out t).cell 1
          have y2 : ∀ t : Later w4.heap.size w4, t.w.cell? ⟨wr.heap.size, 2, none⟩ = some (.int .i64 k) := fun t => (YE.out t).cell 2
          have y3 : ∀ t : Later w4.heap.size w4, t.w.cell? ⟨wr.heap.size, 3, none⟩ = some (.int .i64 n) := fun t => (YE.out t).cell 3
          have YN := Lib.hid (fun (wb : World) (hb : Behind w4 wb) => text_told (nameOf_any p HP.out wb (HT.out wb (B3.out.trans (hb.mono B3.out.size))).2.1))
          have YT := Lib.hid (fun (wb : World) (hb : Behind w4 wb) => text_told (lenTell_any au pc mn p w k n AW.out HW.out wb (HT.out wb (B3.out.trans (hb.mono B3.out.size))).1))
          refine region_lane [] [0, 1, 2, 3, 4, 5, 6, 7] [8] (by kernel_rfl) (by kernel_rfl) (fun _ _ _ _ _ h => h) ?_
          simp only [pick, List.map_nil]
          refine wpQuiet_nil ⟨rfl, ?_⟩
          simp only [List.map_cons, List.map_nil, List.getD_cons_zero, List.getD_cons_succ, List.drop_succ_cons, List.drop_zero]
          refine laneO_run 2 (by kernel_rfl) ?_
          simp only [List.take_succ_cons, List.take_zero, List.drop_succ_cons, List.drop_zero]
          repeat (go_big_quiet_step (fail))
          refine wpQuiet_nil ?_
          refine laneO_callT (strT 20) (strT_steady _) rfl rfl (by rfl) (by rfl) Tryz.func84 (by kernel_rfl) rfl (fun a' wb hw hm => ?_) ?_
          · have e : a'.tmps.getD 30 undef = .int .i64 p := hm 30 (by simp)
            have e2 : (#[Operand.tmp 30] : Array Operand).map a'.eval = #[.int .i64 p] := by simp [Act.eval] at e ⊢; exact e
            rw [e2]
            exact YN.out wb hw
          refine laneO_gives (strT 22) (strT_steady _) rfl (by rfl) (by rfl) (fun a' wb hw hm => ?_) ?_
          · obtain ⟨s, e, hs⟩ : strT 20 (a'.tmps.getD 31 undef) wb := hm 31 (by simp [Oper.looksAt, Op.operands])
            exact add_gives (.tmp 31) (.const (.string ⟨#[58, 32]⟩)) rfl e rfl (by rw [ByteArray.size_append]; have : (ByteArray.mk #[58, 32]).size = 2 := rfl; omega) (by decide)
          refine laneO_run 2 (by kernel_rfl) ?_
          simp only [List.take_succ_cons, List.take_zero, List.drop_succ_cons, List.drop_zero]
          repeat (go_big_quiet_step (fail))
          refine wpQuiet_nil ?_
          refine laneO_told (strT 400) (strT_steady _) (by kernel_rfl) rfl (fun wb hw => .inl ⟨by rfl, ?_⟩) ?_
          · unfold gives
            rw [run_invoke (f := 142) (T := 135) (v := .agg #[.string au, .bool pc, .bool mn]) rfl rfl (by kernel_rfl) Tryz.func142 (by kernel_rfl) rfl]
            simp only [Act.eval, List.map_toArray, List.map_cons, List.map_nil, List.append_toArray, List.cons_append, List.nil_append]
            exact ⟨Behind.refl _, YT.out wb hw⟩
          refine laneO_gives (strT 422) (strT_steady _) rfl (by rfl) (by rfl) (fun a' wb hw hm => ?_) ?_
          · obtain ⟨s, e, hs⟩ : strT 22 (a'.tmps.getD 32 undef) wb := hm 32 (by simp [Oper.looksAt, Op.operands])
            obtain ⟨s2, e2, hs2⟩ : strT 400 (a'.tmps.getD 35 undef) wb := hm 35 (by simp [Oper.looksAt, Op.operands])
            exact add_gives (.tmp 32) (.tmp 35) rfl e e2 (by rw [ByteArray.size_append]; omega) (by decide)
          clear YE y0 y1 y2 y3 YN YT E3
          refine laneO_end (by simp) rfl rfl rfl fun w5 hb0 => ?_
          rintro x ⟨s, rfl, hs⟩ x2 ⟨s2, rfl, hs2⟩ x3 ⟨s3, rfl, hs3⟩ x4 ⟨s4, rfl, hs4⟩
          have B4 := Lib.hid (B3.out.trans (hb0.mono B3.out.size))
          have L4 := Lib.hid (bld_keep L3.out hb0)
          have WS := Lib.hid (wstr_any W.heap.size W.heap.size [] s w5 L4.out (by simp; omega) B4.out.size)
          clear hb0 B3 L3 L4
          simp only [Act.put, List.setIfInBounds_toArray, List.set_cons_zero, List.set_cons_succ, fillAll]
          go_wp2_with fail
          refine WS.out.mono ?_
          rintro e w6 ⟨rfl, hbl, hb⟩
          have B5 := Lib.hid (B4.out.trans hb)
          have L5 := Lib.hid (show BldAt W.heap.size W.heap.size (Lib.strCells s) w6 from .inr (by simpa using hbl))
          clear hb hbl WS B4
          go_upto_region 11 with fail
          have LE := Lib.hid (Tryz.Builder_Len W.heap.size W.heap.size _ w6 L5.out)
          have LN := Lib.hid (Lib.strCells_length s)
          go_wp2_with fail
          refine LE.out.mono ?_
          rintro e w7 ⟨rfl, rfl⟩
          have NL := Lib.hid (show ¬ (2000 < (Lib.strCells s).length) by rw [LN.out]; omega)
          generalize (Lib.strCells s).length = q at *
          have nl : ((q : Nat) : Int) ≤ 2000 := by have := NL.out; omega
          go_wp2_with fail
          go_roundw
          case rel => exact .inr ⟨rfl, HM, ⟨s.data.toList, L5.out⟩, B5⟩
          case measure => simp [intOf]
    · obtain ⟨l, hl⟩ := HL.out
      have S := Lib.hid (Tryz.Builder_String_any W.heap.size W.heap.size l wr hl HB.out.size)
      go_wp2_with fail
      refine S.out.mono ?_
      rintro e w2 ⟨rfl, hb⟩
      have B2 := Lib.hid (HB.out.trans hb)
      clear hb
      go_wp2_with fail
      go_ret2
      exact ⟨⟨l.toArray⟩, by rw [HM.out]; rfl, B2.out⟩
end Go.Proofs.YtbhdpfacfgldiaaGreatDoor
