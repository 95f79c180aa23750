import Derived.Test.YteaenomfighaoaaAlPartQ
import Derived.Test.YteaenomfighaoaaTotHeldQ
import Derived.Test.YteaenomfighaoaaShareQ
import Derived.Test.YteaenomfighaoaaZQ
/- along.share. -/
namespace Go.Proofs.Yteaenomfighaoaa
open Go Go.RowKit
set_option linter.unusedVariables false
set_option linter.unusedSimpArgs false
set_option maxRecDepth 20000
set_option maxHeartbeats 4000000

theorem Row.offH {w : World} {B g i : Nat} {A : Option Addr} {xs : List Value} {u : Value} (h : Row w B A xs) (hn : ∀ ad, A = some ad → ad.block ≠ g) : Row (w.setCell ⟨g, i, none⟩ u) B A xs := fun hx => by
  obtain ⟨ad, e, hb, hc⟩ := h hx
  refine ⟨ad, e, hb, fun k hk => ?_⟩
  rw [← hc k hk]
  exact World.cell?_of_block (w := w) (Below.heap_setCell w ⟨g, i, none⟩ u (ad.add k).block (by rw [add_block]; exact hn ad e))
theorem share_made (n : Int) (A : Option Addr) (c : Nat) (zs : List Int) (w : World) (hr : Row w w.heap.size A (i64s zs)) (F : ShareFacts n zs) :
    Calls Try.prog 34 #[.int .i64 n, .slice A zs.length c] w fun e w' =>
      e = .returned (.slice (some ⟨w.heap.size, 0, none⟩) zs.length zs.length) ∧ Row w' w'.heap.size (some ⟨w.heap.size, 0, none⟩) (i64s (shareZ n zs)) ∧ Below w.heap.size w w' := by
  refine (share_yes n A c zs w _ (Nat.le_refl _) hr F.shareOk').mono ?_
  rintro e w' ⟨rfl, hrow, hb⟩
  refine ⟨rfl, ?_, hb⟩
  rw [shareZ_yes n zs F.shareOk']
  exact row_of_rowIs hrow hrow.lt
theorem gaps_share (f : Int) (h0 : 0 ≤ f) (h1 : f ≤ 1152921504606846976) (gz N : Nat) (T : List Nat) (A : Option Addr) (c m : Nat) (hT : T.length = m) (hm : m ≤ 1000) (hN : N ≤ 1000) (hlt : ∀ k, k < m → T.getD k 0 < N) (W : World) (lo lo2 : Nat) (G : RowG W lo 2 gz N (i64s (List.replicate N 0))) (OT : W.ownsRow lo2 3 1 (.slice A m c) m (natV T)) :
    Calls Try.prog 27 #[.slice (some ⟨gz, 0, none⟩) N N, .slice A m c, totV f] W fun e w' =>
      e = .returned (.tuple #[]) ∧ RowG w' lo 2 gz N (i64s (fillT N T (shareZ f (onesA m)) m)) ∧ Only [gz] W w' := by
  have hgz := (rowG_lt G).2
  have HO := Lib.hid (fun g (hg : (Value.slice A m c).ownBlock = some g) => (fun e => owns_ne (e := 3) (e' := 2) OT G (by decide) hg (by rw [e]; rfl) : g ≠ gz))
  have SF := Lib.hid (onesA_facts h0 h1 hm)
  have HELD := Lib.hid (fun w => held_any f (by unfold I64; omega) w)
  have RA := Lib.hid (fun gs w h => repeat_any gs m (by omega) w h)
  have L1 : Hid (Whole ((W.alloc (.cells #[.int .i64 (tH f), .int .u64 (tL f)] 36)).alloc (.cells #[.int .i64 1] 2)) (W.heap.size + 1) 2 [.int .i64 1]) := Lib.hid (by
    have h := Whole.mk (W.alloc (.cells #[.int .i64 (tH f), .int .u64 (tL f)] 36)) 2 #[.int .i64 1]
    rw [World.size_alloc] at h; exact h)
  have V1 := Lib.hid ((Whole.mk W 36 #[.int .i64 (tH f), .int .u64 (tL f)]).made (.cells #[.int .i64 1] 2))
  have B1 := Lib.hid (((Below.refl W.heap.size W).alloc (Nat.le_refl _) (.cells #[.int .i64 (tH f), .int .u64 (tL f)] 36)).alloc (by simp) (.cells #[.int .i64 1] 2))
  have HG := Lib.hid G
  have HOT := Lib.hid OT
  have HLT := Lib.hid hlt
  have HTL := Lib.hid hT
  have PL := Lib.hid (fun (h : 0 < f) => (ones_part (m := m) h h1 hm).1)
  clear G OT hlt hT
  go_enter Try.func27, Try.ntmps27
  go_wp2_with fail
  refine (RA.out _ _ L1.out).mono ?_
  rintro e w1 ⟨A1, c1, rfl, r1, hb1⟩
  have R1 := Lib.hid r1
  have V2 := Lib.hid (V1.out.under hb1 V1.out.size)
  have B2 := Lib.hid (B1.out.trans (hb1.mono B1.out.size))
  clear r1 hb1 RA L1 V1 B1
  have c0 : w1.cell? ⟨W.heap.size, 0, none⟩ = some (.int .i64 (tH f)) := V2.out.cell 0
  have c1' : w1.cell? ⟨W.heap.size, 1, none⟩ = some (.int .u64 (tL f)) := V2.out.cell 1
  go_wp2_with fail
  refine (HELD.out _).mono ?_
  rintro e w2 ⟨rfl, hb2⟩
  have R2 := Lib.hid ((R1.out.below hb2).more hb2.size)
  have B3 := Lib.hid (B2.out.trans (hb2.mono B2.out.size))
  clear hb2 R1 V2 B2 c0 c1' HELD
  have SH := Lib.hid (share_made f A1 c1 (onesA m) w2 R2.out SF.out)
  rw [onesA_len] at SH
  go_wp2_with fail
  refine SH.out.mono ?_
  rintro e w3 ⟨rfl, r3, hb3⟩
  have PR := Lib.hid r3
  have B4 := Lib.hid (B3.out.trans (hb3.mono B3.out.size))
  have hs2 : gz < w2.heap.size := Nat.lt_of_lt_of_le hgz B3.out.size
  clear r3 hb3 R2 B3 SH
  obtain ⟨gp, hgp⟩ : ∃ g, w2.heap.size = g := ⟨_, rfl⟩
  rw [hgp] at PR hs2 ⊢
  clear hgp
  have PL2 : Hid ((shareZ f (onesA m)).length = m) := Lib.hid (by rw [shareZ_yes _ _ SF.out.shareOk']; simp [onesA_len])
  clear PL SF
  obtain ⟨P, hP⟩ : ∃ P, shareZ f (onesA m) = P := ⟨_, rfl⟩
  have HP := Lib.hid hP
  rw [hP] at PR PL2
  clear hP
  have G4 := Lib.hid (own_below HG.out B4.out (Nat.le_refl _))
  have T4 := Lib.hid (own_below HOT.out B4.out (Nat.le_refl _))
  have N4 : Hid (Only [gz] W w3) := Lib.hid (Only.of_below B4.out)
  clear HG HOT B4
  go_wp2_with fail
  go_loopw [18] (fun v18 wr => ∃ k : Nat, v18 = .int .i64 k ∧ k ≤ m ∧ Hid (RowG wr lo 2 gz N (i64s (fillT N T P k))) ∧ Hid (wr.ownsRow lo2 3 1 (.slice A m c) m (natV T)) ∧ Hid (Row wr wr.heap.size (some ⟨gp, 0, none⟩) (i64s P)) ∧ Hid (Only [gz] W wr)) (fun v18 _ => m - (intOf v18).toNat)
  case atStart => exact ⟨0, rfl, Nat.zero_le _, G4, T4, PR, N4⟩
  case round =>
    clear G4 T4 PR N4
    obtain ⟨k, rfl, hk, G4, T4, PR, N4⟩ := hrel
    generalize wr = w4 at *
    by_cases hlt : k < m
    · have hltz : (k : Int) < m := by omega
      have hkP : k < P.length := by rw [PL2.out]; exact hlt
      have hkT : k < T.length := by rw [HTL.out]; exact hlt
      obtain ⟨ap, he, -, dp⟩ := PR.out.int hkP
      injection he with he
      subst he
      rw [head_add] at dp
      obtain ⟨gt, hgt⟩ := own_head T4.out (by omega)
      subst hgt
      have dt := (T4.out.cellAt k (by omega)).trans (natV_get hkT)
      have htN := HLT.out k hlt
      obtain ⟨t, ht⟩ : ∃ t, T.getD k 0 = t := ⟨_, rfl⟩
      obtain ⟨z, hz⟩ : ∃ z, P[k] = z := ⟨_, rfl⟩
      have EF : Hid (fillT N T P (k + 1) = (fillT N T P k).set t z) := Lib.hid (by
        rw [fillT, ht]
        have : P.getD k 0 = z := by rw [← hz]; simp [List.getD, hkP]
        rw [this])
      rw [hz] at dp
      rw [ht] at dt htN
      have htNz : (t : Int) < N := by omega
      have cg := rowG_cell G4.out htN (u := .int .i64 ((fillT N T P k).getD t 0)) (by simp [i64s, List.getD, fillT_len, htN])
      have fg := G4.out.frozenAt t
      have lg := rowG_lt G4.out
      have G5 : Hid (RowG (w4.setCell ⟨gz, t, none⟩ (.int .i64 z)) lo 2 gz N (i64s (fillT N T P (k + 1)))) := Lib.hid (by
        have h := rowG_put G4.out t (.int .i64 z)
        rw [EF.out]
        unfold i64s at h ⊢
        rw [List.map_set]
        exact h)
      have T5 := Lib.hid (own_off T4.out HO.out t (.int .i64 z))
      have PR5 : Hid (Row (w4.setCell ⟨gz, t, none⟩ (.int .i64 z)) (w4.setCell ⟨gz, t, none⟩ (.int .i64 z)).heap.size (some ⟨gp, 0, none⟩) (i64s P)) := Lib.hid (by
        rw [World.size_setCell]
        exact Row.offH PR.out (fun ad e => by injection e with e; subst e; show gp ≠ gz; omega))
      have N5 := Lib.hid (N4.out.setCell ⟨gz, t, none⟩ (.inl (by simp)) (.int .i64 z))
      clear hz ht G4 T4 PR N4 EF
      go_wp2_with fail
      go_roundw
      case rel => exact ⟨k + 1, by go_num, by omega, G5, T5, PR5, N5⟩
      case measure => simp [intOf] <;> omega
    · obtain rfl : m = k := by omega
      have hltz : ¬ (m : Int) < m := by omega
      go_wp2_with fail
      refine bodyPost_end (v := .tuple #[]) (results_none (by kernel_rfl) _ _ _) rfl ?_
      rw [HP.out]
      exact ⟨rfl, G4.out, N4.out⟩
end Go.Proofs.Yteaenomfighaoaa
