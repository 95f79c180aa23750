import Derived.Test.YtpbfdfpedpfemaaGreatDoorTreeSay
/- tree.Say. -/
namespace Go.Proofs.YtpbfdfpedpfemaaGreatDoor
open Go Go.RowKit
set_option linter.unusedVariables false
set_option linter.unusedSimpArgs false
set_option maxRecDepth 20000
set_option maxHeartbeats 2000000

theorem tsay_any {W : World} {base t : Nat} {most : Int} {L : List Nd} (hT : Tree W base t most L) (hL : L.length ≤ 1000) {T : Tr} (hf : T.flat = L) (hF : Fits L T) (h0 : T.n.id = 0) :
    Calls Tryz.prog 20 #[.pointer (some ⟨t, 0, none⟩)] W fun e w' => ∃ v, e = .returned v ∧ NodesOwn w' W.heap.size v L ∧ Tree w' base t most L ∧ Below W.heap.size W w' := by
  have HT := Lib.hid hT
  have HN := Lib.hid (tlen_any hT)
  have SY := Lib.hid (fun (w : World) (v : Value) (hT : Tree w base t most L) (hv : NodesOwn w W.heap.size v []) (hz : W.heap.size ≤ w.heap.size) => say_any (base := base) (t := t) (most := most) hL W.heap.size T.flat.length T (Nat.le_refl _) hF w v [] hT hv hz (by rw [hf]; simp; omega))
  rw [h0, List.nil_append, hf] at SY
  clear hT hF h0 hf
  obtain ⟨i0, hi, hz0, hz1, hz2⟩ := info_parts nodeInfo
  go_enter Tryz.func20, Tryz.ntmps20
  go_wp2_with fail
  refine HN.out.mono ?_
  rintro e w1 ⟨rfl, rfl⟩
  go_wp2_with (at_make; refine wpList_make_own _ rfl _ _ 23 rfl W.heap.size 32 i0 (.agg #[.int .i64 0, .int .i64 0, .bool false, .string ⟨#[]⟩, .slice none 0 0]) 5 Tryz.underlying23 hi hz0 hz1 .i64 .i64 _ L.length rfl rfl rfl (by rw [hz2]; omega) (by unfold maxLen; omega) (Nat.le_refl _) ?_; intro w2 r1 r2; have R1 := Lib.hid r1; have R2 := Lib.hid (Only.of_grown r2); clear r1 r2)
  have B2 : Hid (Below W.heap.size W w2) := Lib.hid (R2.out.below (by simp) (Nat.le_refl _))
  have T2 := Lib.hid (HT.out.behind B2.out)
  have N2 : Hid (NodesOwn w2 W.heap.size (.slice (some ⟨W.heap.size, 0, none⟩) 0 L.length) []) := Lib.hid ⟨_, _, [], rfl, rfl, R1.out, fun k hk => by simp at hk⟩
  refine (SY.out w2 _ T2.out N2.out B2.out.size).mono ?_
  rintro e w3 ⟨v, rfl, r1, r2, r3, -⟩
  have Q1 := Lib.hid r1
  have Q2 := Lib.hid r2
  have Q3 : Hid (Below W.heap.size W w3) := Lib.hid (B2.out.trans (r3.below (by intro x hx; simp [Value.ownBlock] at hx; omega) B2.out.size))
  clear r1 r2 r3 SY
  go_wp2
  go_ret
  exact ⟨_, rfl, Q1.out, Q2.out, Q3.out⟩
end Go.Proofs.YtpbfdfpedpfemaaGreatDoor
