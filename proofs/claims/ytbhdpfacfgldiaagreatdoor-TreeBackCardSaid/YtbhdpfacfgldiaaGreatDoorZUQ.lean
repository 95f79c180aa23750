import Derived.Test.YtbhdpfacfgldiaaGreatDoorDeclTextQ
import Derived.Test.YtbhdpfacfgldiaaGreatDoorZRQ
import Derived.Test.YtbhdpfacfgldiaaGreatDoorRef6WhereQ
import Derived.Test.YtbhdpfacfgldiaaGreatDoorRefParseQ
import Derived.Test.YtbhdpfacfgldiaaGreatDoorOneQ
/- tree.isUntold: what it answers. -/
namespace Go.Proofs.YtbhdpfacfgldiaaGreatDoor
open Go Go.RowKit
set_option linter.unusedVariables false
set_option linter.unusedSimpArgs false
set_option maxRecDepth 20000
set_option maxHeartbeats 4000000

theorem isUntold_any (p w k n : Int) (W : World) (hT : TabOk W) (hA : AscOk W) :
    Calls Tryz.prog 69 #[.agg #[.int .i64 p, .int .i64 w, .int .i64 k, .int .i64 n]] W fun e w' => e = .returned (.bool (!mayZ p w k n)) ∧ Below W.heap.size W w' := by
  have B1 := Lib.hid ((Below.refl W.heap.size W).alloc (Nat.le_refl _) (.cells #[.int .i64 p, .int .i64 w, .int .i64 k, .int .i64 n] 70))
  have hB2 := B1.out.alloc (by simp) (.cells #[.int .i64 p, .int .i64 w, .int .i64 k, .int .i64 n] 70)
  have hE := Whole.mk (W.alloc (.cells #[.int .i64 p, .int .i64 w, .int .i64 k, .int .i64 n] 70)) 70 #[.int .i64 p, .int .i64 w, .int .i64 k, .int .i64 n]
  rw [World.size_alloc] at hE
  have F := Lib.hid (text_one p w k n (W.heap.size + 1) _ hE.size (hE.cell 0) (hE.cell 1) (hE.cell 2) (hE.cell 3) (hT.below hB2) (hA.below hB2))
  have B2 := Lib.hid hB2
  clear hE hT hA hB2 B1
  go_enter Tryz.func69, Tryz.ntmps69
  go_wp2_with fail
  refine F.out.mono ?_
  rintro e w1 ⟨s, rfl, hb⟩
  have B3 := Lib.hid (B2.out.trans (hb.mono B2.out.size))
  clear hb
  go_wp2_with fail
  go_ret
  exact ⟨rfl, B3.out⟩
theorem untoldAt_any (W : World) (hT : TabOk W) (hA : AscOk W) (d : Dc) : UntoldAt W d := fun w hb => isUntold_any d.p d.w d.k d.n w (hT.below hb) (hA.below hb)
end Go.Proofs.YtbhdpfacfgldiaaGreatDoor
/- quoinref6: what an Op gives a node. -/
namespace Go.Proofs.YtbhdpfacfgldiaaGreatDoor
open Go Go.RowKit
set_option linter.unusedVariables false
set_option linter.unusedSimpArgs false
set_option maxRecDepth 20000
set_option maxHeartbeats 4000000

theorem parseFrom_few (l : List UInt8) : ∀ (f a : Nat) (out ds : List Dc), parseFrom l f a out = .ok ds → ds.length ≤ out.length + f
  | 0, _, out, ds, h => by rw [parseFrom] at h; injection h with h; subst h; omega
  | f + 1, a, out, ds, h => by
    rw [parseFrom] at h
    split at h
    · split at h
      · cases h
      · have := parseFrom_few l f _ _ _ h
        simp at this; omega
    · injection h with h; subst h; omega
theorem parse_few (s : ByteArray) (ds : List Dc) (h : parseR (bytesOf s) = .ok ds) : ds.length ≤ 1000000 := by
  unfold parseR at h
  split at h
  · cases h
  · have := parseFrom_few _ _ _ _ _ h
    simp at this; omega
theorem node_flat : FlatT Tryz.prog 32 5 := ⟨⟨_, Tryz.underlying32, rfl⟩, by kernel_rfl⟩
def givenN (op : Op6) (n : Nd) : Nd := if n.tx = true then (if 1000 < op.tx.size then n else { n with dat := op.tx }) else match parseR (bytesOf op.tx) with | .bad _ _ => { n with sty := [] } | .ok ds => { n with sty := ds }
def givenE (op : Op6) (n : Nd) : Int := if n.tx = true then (if 1000 < op.tx.size then 4 else 0) else match parseR (bytesOf op.tx) with | .bad _ er => er | .ok _ => 0
theorem rgiven_any (op : Op6) (n : Nd) (sv : Value) (W : World) (h : StyAt W sv n.sty) (hd : n.dat.size ≤ 9223372036854775807) :
    Calls Tryz.prog 54 #[opV op, .agg (nodeC n sv).toArray] W fun e w' => ∃ sv', e = .returned (.tuple #[.agg (nodeC (givenN op n) sv').toArray, .int .i64 (givenE op n)]) ∧ ((sv' = sv ∧ (givenN op n).sty = n.sty) ∨ StyOwn w' W.heap.size sv' (givenN op n).sty) ∧ Below W.heap.size W w' := by
  obtain ⟨id, par, tx, dat, sty⟩ := n
  obtain ⟨k, oid, at_, bf, s⟩ := op
  unfold nodeC at *
  simp only at h hd
  have H0 := Lib.hid h
  obtain ⟨A0, c0, rfl, -⟩ := h
  generalize sty.length = ns at *
  cases tx
  · have B0 := Lib.hid (((((Below.refl W.heap.size W).alloc (Nat.le_refl _) (.cells #[.int .i64 k, .int .i64 oid, .int .i64 at_, .int .i64 bf, .string s] 54)).alloc (by simp) (.cells #[.int .i64 id, .int .i64 par, .bool false, .string dat, .slice A0 ns c0] 32))).alloc (by simp; omega) (.cells #[.int .i64 0, .int .i64 0, .bool false, .string ⟨#[]⟩, .slice none 0 0] 32))
    have X0 : Hid (Whole (((W.alloc (.cells #[.int .i64 k, .int .i64 oid, .int .i64 at_, .int .i64 bf, .string s] 54)).alloc (.cells #[.int .i64 id, .int .i64 par, .bool false, .string dat, .slice A0 ns c0] 32)).alloc (.cells #[.int .i64 0, .int .i64 0, .bool false, .string ⟨#[]⟩, .slice none 0 0] 32)) (W.heap.size + 1) 32 [.int .i64 id, .int .i64 par, .bool false, .string dat, .slice A0 ns c0]) := Lib.hid (by
      have h := (Whole.mk (W.alloc (.cells #[.int .i64 k, .int .i64 oid, .int .i64 at_, .int .i64 bf, .string s] 54)) 32 #[.int .i64 id, .int .i64 par, .bool false, .string dat, .slice A0 ns c0]).made (.cells #[.int .i64 0, .int .i64 0, .bool false, .string ⟨#[]⟩, .slice none 0 0] 32)
      simpa using h)
    have Y0 : Hid (Whole (((W.alloc (.cells #[.int .i64 k, .int .i64 oid, .int .i64 at_, .int .i64 bf, .string s] 54)).alloc (.cells #[.int .i64 id, .int .i64 par, .bool false, .string dat, .slice A0 ns c0] 32)).alloc (.cells #[.int .i64 0, .int .i64 0, .bool false, .string ⟨#[]⟩, .slice none 0 0] 32)) (W.heap.size + 1 + 1) 32 [.int .i64 0, .int .i64 0, .bool false, .string ⟨#[]⟩, .slice none 0 0]) := Lib.hid (by
      have h := Whole.mk ((W.alloc (.cells #[.int .i64 k, .int .i64 oid, .int .i64 at_, .int .i64 bf, .string s] 54)).alloc (.cells #[.int .i64 id, .int .i64 par, .bool false, .string dat, .slice A0 ns c0] 32)) 32 #[.int .i64 0, .int .i64 0, .bool false, .string ⟨#[]⟩, .slice none 0 0]
      simpa using h)
    have PA := Lib.hid (fun w => rparse_any s w)
    have EN := Lib.hid (show givenN ⟨k, oid, at_, bf, s⟩ ⟨id, par, false, dat, sty⟩ = match parseR (bytesOf s) with | .bad _ _ => ⟨id, par, false, dat, []⟩ | .ok ds => ⟨id, par, false, dat, ds⟩ from by unfold givenN; simp)
    have EE := Lib.hid (show givenE ⟨k, oid, at_, bf, s⟩ ⟨id, par, false, dat, sty⟩ = match parseR (bytesOf s) with | .bad _ er => er | .ok _ => 0 from by unfold givenE; simp)
    generalize givenN ⟨k, oid, at_, bf, s⟩ ⟨id, par, false, dat, sty⟩ = gn at *
    generalize givenE ⟨k, oid, at_, bf, s⟩ ⟨id, par, false, dat, sty⟩ = ge at *
    go_enter Tryz.func54, Tryz.ntmps54
    go_wp2_with fail
    refine (PA.out _).mono ?_
    intro e w1 hp
    unfold ParsePost at hp
    have key : Hid (∃ A1 c1 m1 er ds, e = .returned (.tuple #[.slice A1 m1 c1, .int .i64 er.1, .int .i64 ge]) ∧ gn = ⟨id, par, false, dat, ds⟩ ∧ m1 = ds.length ∧ StyOwn w1 (W.heap.size + 1 + 1 + 1) (.slice A1 m1 c1) ds ∧ Below W.heap.size W w1 ∧ (er : Int × Int) = er ∧
      Whole w1 (W.heap.size + 1) 32 [.int .i64 id, .int .i64 par, .bool false, .string dat, .slice A0 ns c0] ∧ Whole w1 (W.heap.size + 1 + 1) 32 [.int .i64 0, .int .i64 0, .bool false, .string ⟨#[]⟩, .slice none 0 0]) := Lib.hid (by
      have e1 := EN.out
      have e2 := EE.out
      cases hq : parseR (bytesOf s) with
      | bad a er =>
        rw [hq] at hp e1 e2
        obtain ⟨h1, h2⟩ := hp
        refine ⟨none, 0, 0, ((a : Int), 0), [], by rw [h1, e2], e1, rfl, noS_own w1 _, B0.out.trans (h2.mono B0.out.size), rfl, X0.out.under h2 X0.out.size, Y0.out.under h2 Y0.out.size⟩
      | ok ds =>
        rw [hq] at hp e1 e2
        obtain ⟨A, c, h1, h2, h3⟩ := hp
        obtain ⟨A2, c2, e3, -, h63, hn⟩ := owns_nil h2
        refine ⟨A, c, ds.length, (0, 0), ds, by rw [h1, e2], e1, rfl, ⟨A, c, rfl, own_mono h2 (by simp), ?_⟩, B0.out.trans (h3.mono B0.out.size), rfl, X0.out.under h3 X0.out.size, Y0.out.under h3 Y0.out.size⟩
        exact parse_few s ds hq)
    obtain ⟨A1, c1, m1, ⟨er, er2⟩, ds, rfl, hgn, hm1, hst, hB, -, hX, hY⟩ := key.out
    clear key hp
    have HG := Lib.hid hgn
    have HM := Lib.hid hm1
    have HST := Lib.hid hst
    have HB := Lib.hid hB
    have X1 := Lib.hid hX
    have Y1 := Lib.hid hY
    clear hgn hm1 hst hB hX hY B0 X0 Y0 PA EN EE
    have x0 := X1.out.cell 0
    have x1 := X1.out.cell 1
    have x2 := X1.out.cell 2
    have x3 := X1.out.cell 3
    have x4 := X1.out.cell 4
    have f4 := X1.out.free 4
    simp only [List.getElem?_cons_zero, List.getElem?_cons_succ] at x0 x1 x2 x3 x4
    have X2 := Lib.hid (X1.out.put 4 (.slice A1 m1 c1))
    have Y2 := Lib.hid (Y1.out.other (p := ⟨W.heap.size + 1, 4, none⟩) (by simp) (.slice A1 m1 c1))
    have hsz := X1.out.size
    simp only [List.set_cons_zero, List.set_cons_succ] at X2
    go_upto_region 8 with fail
    clear x0 x1 x2 x3 x4 f4
    have O2 := Lib.hid ((Only.refl [W.heap.size + 1] w1).setCell ⟨W.heap.size + 1, 4, none⟩ (.inl (by simp)) (.slice A1 m1 c1))
    generalize w1.setCell ⟨W.heap.size + 1, 4, none⟩ (.slice A1 m1 c1) = w2 at *
    have x0 := X2.out.cell 0
    have x1 := X2.out.cell 1
    have x2 := X2.out.cell 2
    have x3 := X2.out.cell 3
    have x4 := X2.out.cell 4
    simp only [List.getElem?_cons_zero, List.getElem?_cons_succ] at x0 x1 x2 x3 x4
    go_wp2_with (refine cells_store node_flat (.tmp 4) (.tmp 29) rfl rfl (W.heap.size + 1 + 1) rfl [.int .i64 id, .int .i64 par, .bool false, .string dat, .slice A1 m1 c1] rfl (by simp [Value.oneCell']) rfl 32 [.int .i64 0, .int .i64 0, .bool false, .string ⟨#[]⟩, .slice none 0 0] ?_ rfl ?_; (focus (exact Y2.out)); intro w3 h3 o3; have R3 := Lib.hid h3; have O3 := Lib.hid o3; clear h3 o3)
    have HB3 : Hid (Below W.heap.size W w3) := Lib.hid ((HB.out.trans (O2.out.below (by simp) HB.out.size)).trans (O3.out.below (by simp; omega) (by have h1 := HB.out.size; have h2 := O2.out.size; omega)))
    refine cells_end2 node_flat rfl (W.heap.size + 1 + 1) rfl [.int .i64 id, .int .i64 par, .bool false, .string dat, .slice A1 m1 c1] rfl 32 R3.out rfl ⟨.slice A1 m1 c1, by rw [HG.out]; rfl, ?_, HB3.out⟩
    rw [HG.out]
    have hlow : ∀ g, (Value.slice A1 m1 c1).ownBlock = some g → W.heap.size + 1 + 1 + 1 ≤ g := fun g hg => by
      obtain ⟨A, c, e, ho, -⟩ := HST.out
      rw [e] at hg
      exact (ho.lt g hg).1
    exact .inr (((HST.out.only O2.out fun g hg hx => by have := hlow g hg; simp at hx; omega).only O3.out fun g hg hx => by have := hlow g hg; simp at hx; omega).mono (by omega))
  · by_cases hs : 1000 < s.size
    · have hs2 : (1000 : Int) < s.size := by omega
      have EN : givenN ⟨k, oid, at_, bf, s⟩ ⟨id, par, true, dat, sty⟩ = ⟨id, par, true, dat, sty⟩ := by unfold givenN; simp [hs]
      have EE : givenE ⟨k, oid, at_, bf, s⟩ ⟨id, par, true, dat, sty⟩ = 4 := by unfold givenE; simp [hs]
      rw [EN, EE]
      clear EN EE
      have B0 := Lib.hid (((((Below.refl W.heap.size W).alloc (Nat.le_refl _) (.cells #[.int .i64 k, .int .i64 oid, .int .i64 at_, .int .i64 bf, .string s] 54)).alloc (by simp) (.cells #[.int .i64 id, .int .i64 par, .bool true, .string dat, .slice A0 ns c0] 32))).alloc (by simp; omega) (.cells #[.int .i64 id, .int .i64 par, .bool true, .string dat, .slice A0 ns c0] 32))
      have X0 := Lib.hid (Whole.mk ((W.alloc (.cells #[.int .i64 k, .int .i64 oid, .int .i64 at_, .int .i64 bf, .string s] 54)).alloc (.cells #[.int .i64 id, .int .i64 par, .bool true, .string dat, .slice A0 ns c0] 32)) 32 #[.int .i64 id, .int .i64 par, .bool true, .string dat, .slice A0 ns c0])
      go_enter Tryz.func54, Tryz.ntmps54
      go_wp2_with fail
      exact cells_end2 node_flat rfl (W.heap.size + 1 + 1) rfl [.int .i64 id, .int .i64 par, .bool true, .string dat, .slice A0 ns c0] rfl 32 (by simpa using X0.out) rfl ⟨_, rfl, .inl (by first | exact ⟨rfl, rfl⟩ | rfl), B0.out⟩
    · have hs2 : ¬ (1000 : Int) < s.size := by omega
      have EN : givenN ⟨k, oid, at_, bf, s⟩ ⟨id, par, true, dat, sty⟩ = ⟨id, par, true, s, sty⟩ := by unfold givenN; simp [hs]
      have EE : givenE ⟨k, oid, at_, bf, s⟩ ⟨id, par, true, dat, sty⟩ = 0 := by unfold givenE; simp [hs]
      rw [EN, EE]
      clear EN EE
      have B0 := Lib.hid (((((Below.refl W.heap.size W).alloc (Nat.le_refl _) (.cells #[.int .i64 k, .int .i64 oid, .int .i64 at_, .int .i64 bf, .string s] 54)).alloc (by simp) (.cells #[.int .i64 id, .int .i64 par, .bool true, .string s, .slice A0 ns c0] 32))).alloc (by simp; omega) (.cells #[.int .i64 id, .int .i64 par, .bool true, .string s, .slice A0 ns c0] 32))
      have X0 := Lib.hid (Whole.mk ((W.alloc (.cells #[.int .i64 k, .int .i64 oid, .int .i64 at_, .int .i64 bf, .string s] 54)).alloc (.cells #[.int .i64 id, .int .i64 par, .bool true, .string s, .slice A0 ns c0] 32)) 32 #[.int .i64 id, .int .i64 par, .bool true, .string s, .slice A0 ns c0])
      go_enter Tryz.func54, Tryz.ntmps54
      go_wp2_with fail
      exact cells_end2 node_flat rfl (W.heap.size + 1 + 1) rfl [.int .i64 id, .int .i64 par, .bool true, .string s, .slice A0 ns c0] rfl 32 (by simpa using X0.out) rfl ⟨_, rfl, .inl (by first | exact ⟨rfl, rfl⟩ | rfl), B0.out⟩
end Go.Proofs.YtbhdpfacfgldiaaGreatDoor
/- quoinlaw4.Text: some text of at most 1300 bytes; and what the document's Parse answers of any text. -/
namespace Go.Proofs.YtbhdpfacfgldiaaGreatDoor
open Go Go.RowKit
set_option linter.unusedVariables false
set_option linter.unusedSimpArgs false
set_option maxRecDepth 20000
set_option maxHeartbeats 8000000

theorem Only.rowAt {S : List Nat} {w w' : World} {B : Nat} {A : Option Addr} {xs : List Value} (h : Only S w w') (hr : Row w B A xs) (hB : B ≤ w.heap.size) (hn : ∀ a, A = some a → a.block ∉ S) : Row w' B A xs := fun hne => by
  obtain ⟨a, e, hb, hc⟩ := hr hne
  exact ⟨a, e, hb, fun i hi => (h.cell (by rw [add_block]; omega) (by rw [add_block]; exact hn a e)).trans (hc i hi)⟩
/-- Some row of declarations, a place, an error. -/
def ParseAny (W : World) (e : Ending) (w' : World) : Prop := ∃ (ds : List Dc) (A : Option Addr) (c : Nat) (x y : Int), e = .returned (.tuple #[.slice A ds.length c, .int .i64 x, .int .i64 y]) ∧ Row w' w'.heap.size A (i64s (dCells ds)) ∧ ds.length ≤ 4611686018427387904 ∧ Below W.heap.size W w' ∧ ∀ a, A = some a → W.heap.size ≤ a.block
theorem parseFrom_length (l : List UInt8) : ∀ (f a : Nat) (out ds : List Dc), parseFrom l f a out = .ok ds → ds.length ≤ out.length + f := by
  intro f
  induction f with
  | zero => intro a out ds h; simp only [parseFrom] at h; injection h with h; subst h; omega
  | succ f ih =>
    intro a out ds h
    rw [parseFrom] at h
    split at h
    · split at h
      · cases h
      · have := ih _ _ _ h
        rw [List.length_append, List.length_singleton] at this
        omega
    · injection h with h
      subst h
      omega
theorem parseR_length (l : List UInt8) (ds : List Dc) (h : parseR l = .ok ds) : ds.length ≤ 2001 := by
  unfold parseR at h
  split at h
  · cases h
  · have := parseFrom_length _ _ _ _ _ h
    simp only [List.length_nil] at this
    omega
theorem parse_any (s : ByteArray) (W : World) : Calls Tryz.prog 48 #[.string s] W fun e w' => ParseAny W e w' := by
  refine (rparse_any s W).mono fun e w' h => ?_
  have hl := parseR_length (bytesOf s)
  unfold ParsePost at h
  split at h
  · exact ⟨[], none, 0, _, _, h.1, Row.nil _ _ _, by simp, h.2, fun a e => by cases e⟩
  · rename_i ds hr
    obtain ⟨A, c, he, ho, hb⟩ := h
    have := hl ds hr
    refine ⟨_, A, c, _, _, he, row_of_own ho, by omega, hb, fun a e => ?_⟩
    subst e
    exact (ho.lt a.block rfl).1
theorem text_any (zs : List Int) (A : Option Addr) (c : Nat) (right : Bool) (W : World) (hR : Row W W.heap.size A (i64s zs)) (hm : zs.length ≤ 9223372036854775807) :
    Calls Tryz.prog 29 #[.slice A zs.length c, .bool right] W fun e w' => ∃ s : ByteArray, e = .returned (.string s) ∧ s.size ≤ 1300 ∧ Below W.heap.size W w' := by
  have HR := Lib.hid hR
  clear hR
  go_enter Tryz.func29, Tryz.ntmps29
  go_wp2
  go_loopw [5, 6] (fun s i wr => ∃ (k : Nat) (t : ByteArray), k ≤ zs.length ∧ k ≤ 20 ∧ i = .int .i64 k ∧ s = .string t ∧ t.size ≤ 65 * k ∧ Below W.heap.size W wr) (fun _ i _ => 20 - (intOf i).toNat)
  case atStart => exact ⟨0, ByteArray.empty, Nat.zero_le _, by omega, rfl, rfl, by decide, Below.refl _ _⟩
  case round =>
    obtain ⟨k, t, hk, hk20, rfl, rfl, ht, hB⟩ := hrel
    have HB := Lib.hid hB
    clear hB
    by_cases hlt : k < zs.length ∧ k < 20
    · obtain ⟨hlt, hlt2⟩ := hlt
      have hz0 : W.heap.size ≤ wr.heap.size := HB.out.size
      obtain ⟨ad, rfl, hb, hc⟩ := (HR.out.below HB.out).int hlt
      generalize zs[k] = z at *
      go_wp2_with fail
      refine (one_any z _).mono ?_
      rintro e w1 ⟨t1, rfl, h1, b1⟩
      have HB1 := Lib.hid (HB.out.trans (b1.mono hz0))
      clear b1 hc
      go_wp2_with fail
      refine (parse_any t1 _).mono ?_
      rintro e w2 ⟨ds, A2, c2, x2, y2, rfl, -, -, b2, -⟩
      have HB2 := Lib.hid (HB1.out.trans (b2.mono HB1.out.size))
      clear b2 HB1
      have hs1 : (t ++ ⟨#[59]⟩).size ≤ 65 * k + 1 := by rw [ByteArray.size_append]; have : (⟨#[59]⟩ : ByteArray).size = 1 := rfl; omega
      have hs2 : (t ++ t1).size ≤ 65 * (k + 1) := by rw [ByteArray.size_append]; omega
      have hs3 : (t ++ ⟨#[59]⟩ ++ t1).size ≤ 65 * (k + 1) := by rw [ByteArray.size_append]; omega
      have HS2 := Lib.hid hs2
      have HS3 := Lib.hid hs3
      clear hs2 hs3
      have h0 : t.size ≤ 65 * (k + 1) := by omega
      cases right
      · go_wp2_with fail
        all_goals go_roundw
        all_goals first
          | (case measure => simp [intOf]; omega)
          | (case rel => first | exact ⟨k + 1, _, by omega, by omega, by go_num, rfl, HS3.out, HB2.out⟩ | exact ⟨k + 1, _, by omega, by omega, by go_num, rfl, HS2.out, HB2.out⟩)
      · by_cases hy : y2 = 0
        · subst hy
          go_wp2_with fail
          all_goals go_roundw
          all_goals first
            | (case measure => simp [intOf]; omega)
            | (case rel => first | exact ⟨k + 1, _, by omega, by omega, by go_num, rfl, HS3.out, HB2.out⟩ | exact ⟨k + 1, _, by omega, by omega, by go_num, rfl, HS2.out, HB2.out⟩)
        · go_wp2_with fail
          all_goals go_roundw
          all_goals first
            | (case measure => simp [intOf]; omega)
            | (case rel => exact ⟨k + 1, _, by omega, by omega, by go_num, rfl, h0, HB2.out⟩)
    · by_cases h1 : k < zs.length
      · have h2 : ¬ (k : Int) < 20 := by omega
        go_wp2_with fail
        go_ret
        exact ⟨_, rfl, by omega, HB.out⟩
      · go_wp2_with fail
        go_ret
        exact ⟨_, rfl, by omega, HB.out⟩
end Go.Proofs.YtbhdpfacfgldiaaGreatDoor
