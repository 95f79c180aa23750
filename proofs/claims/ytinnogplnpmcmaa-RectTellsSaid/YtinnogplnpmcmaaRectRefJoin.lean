import Derived.Test.YtinnogplnpmcmaaRectRef
/- The document's own Join, by its contract. -/
namespace Go.Proofs.Ytinnogplnpmcmaa
open Go.RowKit
set_option linter.unusedVariables false
set_option linter.unusedSimpArgs false

set_option maxHeartbeats 2000000 in
theorem rjoin_any (w : World) (g o c : Nat) (qs : List Q) (hr : Row w w.heap.size (some ⟨g, o, none⟩) (flat4 qs)) (hn : 0 < qs.length) (hm : qs.length ≤ 1000) (hs : ∀ q ∈ qs, q.small) :
    Calls Try.prog 19 #[.slice (some ⟨g, o, none⟩) qs.length c] w fun e w' => e = .returned (qv (joinQ qs)) ∧ Below w.heap.size w w' := by
  have HS := Lib.hid hs
  obtain ⟨had, g0, g1, g2, g3⟩ := hr.quad2 hn
  have HR := Lib.hid hr
  have hs1 := hs _ (List.getElem_mem hn)
  have H1 := Lib.hid (joinQ_one qs hn)
  clear hs hr
  have hc1 : ((qs.length : Int) == 0) = false := by rw [beq_eq_false_iff_ne]; omega
  have hc2 : 1 ≤ qs.length := hn
  have hc3 : (1 : Int) ≤ qs.length := by omega
  have hc5 : (0 : Int) < qs.length := by omega
  simp only [Nat.zero_mul, Nat.add_zero] at g0 g1 g2 g3
  obtain ⟨q0, hq0⟩ : ∃ q0, qs[0] = q0 := ⟨_, rfl⟩
  rw [hq0] at g0 g1 g2 g3 hs1
  have H2 := Lib.hid hq0
  clear hq0
  obtain ⟨⟨s1, s2⟩, ⟨s3, s4⟩, ⟨s5, s6⟩, s7, s8⟩ := hs1
  have i1 := IntWalk.i64_in (q0.x + q0.a) (by omega)
  have i2 := IntWalk.i64_in (q0.y + q0.b) (by omega)
  go_enter Try.func19, Try.ntmps19
  go_wp2
  go_quiet (fail)
  clear i1 i2
  go_wp2
  go_loopw [3, 4, 5, 6, 7] (fun v3 v4 v5 v6 i wr => ∃ k n : Nat, 1 ≤ k ∧ k ≤ qs.length ∧ i = .int .i64 k ∧ wr = (w.alloc (.cells #[.int .i64 0, .int .i64 0, .int .i64 0, .int .i64 0] 23)).drewN n ∧
      v3 = .int .i64 (joinQ (qs.take k)).x ∧ v4 = .int .i64 (joinQ (qs.take k)).y ∧ v5 = .int .i64 ((joinQ (qs.take k)).x + (joinQ (qs.take k)).a) ∧ v6 = .int .i64 ((joinQ (qs.take k)).y + (joinQ (qs.take k)).b))
    (fun _ _ _ _ i _ => qs.length - (intOf i).toNat)
  case atStart =>
    refine ⟨1, _, by omega, hc2, rfl, rfl, ?_⟩
    rw [H1.out, H2.out]
    exact ⟨rfl, rfl, rfl, rfl⟩
  case round =>
    obtain ⟨k, n, hk, hk2, rfl, rfl, rfl, rfl, rfl, rfl⟩ := hrel
    by_cases hlt : k < qs.length
    · obtain ⟨_, e0, e1, e2, e3⟩ := HR.out.quad2 hlt
      have J := Lib.hid (joinQ_take qs k (by omega) hlt)
      have hs1 := joinQ_small (qs.take k) (fun q hq => HS.out q (List.mem_of_mem_take hq)) (by simp; omega)
      have hs2 := HS.out _ (List.getElem_mem hlt)
      clear g0 g1 g2 g3
      generalize joinQ (qs.take k) = j at *
      generalize qs[k] = q at *
      obtain ⟨⟨a1, a2⟩, ⟨a3, a4⟩, ⟨a5, a6⟩, a7, a8⟩ := hs1
      obtain ⟨⟨b1, b2⟩, ⟨b3, b4⟩, ⟨b5, b6⟩, b7, b8⟩ := hs2
      have i1 := IntWalk.i64_in (q.x + q.a) (by omega)
      have i2 := IntWalk.i64_in (q.y + q.b) (by omega)
      have i3 : (k : Int) < qs.length := by omega
      go_wp2
      go_quiet (fail)
      clear i1 i2
      go_wp2
      go_roundw
      case rel =>
        refine ⟨k + 1, _, by omega, by omega, by go_num, rfl, ?_⟩
        rw [J.out]
        refine ⟨rfl, rfl, ?_, ?_⟩ <;> (simp only [ar]; congr 1; omega)
      case measure => simp [intOf]; omega
    · obtain rfl : k = qs.length := by omega
      obtain ⟨j, hj⟩ : ∃ j, joinQ qs = j := ⟨_, rfl⟩
      have hjs := joinQ_small qs HS.out hn
      rw [hj] at hjs
      have HJ := Lib.hid hj
      clear hj
      have ht : qs.take qs.length = qs := List.take_length
      simp only [List.take_length, HJ.out]
      clear ht
      obtain ⟨⟨a1, a2⟩, ⟨a3, a4⟩, ⟨a5, a6⟩, a7, a8⟩ := hjs
      have i1 : j.x + j.a - j.x = j.a := by omega
      have i2 : j.y + j.b - j.y = j.b := by omega
      go_wp2
      go_outline
      refine bodyPost_ret (v := qv j) ?_ rfl ⟨by rw [HJ.out], ?_⟩
      · simp [results, Try.results19, go_sem, i1, i2]
      · exact below_put4 (below_drewN ((Below.refl w.heap.size w).alloc (Nat.le_refl _) _) _) (by omega) _ _ _ _
end Go.Proofs.Ytinnogplnpmcmaa
