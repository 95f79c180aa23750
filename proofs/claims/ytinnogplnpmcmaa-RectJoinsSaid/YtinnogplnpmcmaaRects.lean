import Derived.Test.YtinnogplnpmcmaaRect
import Derived.Test.YtinnogplnpmcmaaWhole
/- rect.Join by its contract: slices of rectangles. -/
namespace Go.Proofs.Ytinnogplnpmcmaa
open Go.RowKit
set_option linter.unusedVariables false
set_option linter.unusedSimpArgs false

structure Q where
  x : Int
  y : Int
  a : Int
  b : Int
def flat4 : List Q → List Value
  | [] => []
  | q :: r => .int .i64 q.x :: .int .i64 q.y :: .int .i64 q.a :: .int .i64 q.b :: flat4 r
theorem flat4_length (l : List Q) : (flat4 l).length = l.length * 4 := by
  induction l with
  | nil => rfl
  | cons q l ih => simp [flat4, ih]; omega
theorem flat4_get (l : List Q) : ∀ k (h : k < l.length), (flat4 l)[k * 4]? = some (.int .i64 l[k].x) ∧ (flat4 l)[k * 4 + 1]? = some (.int .i64 l[k].y) ∧ (flat4 l)[k * 4 + 2]? = some (.int .i64 l[k].a) ∧ (flat4 l)[k * 4 + 3]? = some (.int .i64 l[k].b) := by
  induction l with
  | nil => intro k h; simp at h
  | cons q r ih =>
    intro k h
    cases k with
    | zero => exact ⟨rfl, rfl, rfl, rfl⟩
    | succ k =>
      have := ih k (by simpa using h)
      rw [show (k + 1) * 4 = k * 4 + 1 + 1 + 1 + 1 by omega]
      simpa [flat4] using this
theorem flat4_drop (l : List Q) (k : Nat) : (flat4 l).drop (k * 4) = flat4 (l.drop k) := by
  induction l generalizing k with
  | nil => simp [flat4]
  | cons q r ih =>
    cases k with
    | zero => simp
    | succ k =>
      rw [show (k + 1) * 4 = k * 4 + 1 + 1 + 1 + 1 by omega]
      simpa [flat4] using ih k
theorem flat4_take (l : List Q) (k : Nat) : (flat4 l).take (k * 4) = flat4 (l.take k) := by
  induction l generalizing k with
  | nil => simp [flat4]
  | cons q r ih =>
    cases k with
    | zero => simp [flat4]
    | succ k =>
      rw [show (k + 1) * 4 = k * 4 + 1 + 1 + 1 + 1 by omega]
      simpa [flat4] using ih k
theorem flat4_append (l m : List Q) : flat4 (l ++ m) = flat4 l ++ flat4 m := by
  induction l with
  | nil => rfl
  | cons q l ih => simp [flat4, ih]
theorem Row.quad {w : World} {B : Nat} {A : Option Addr} {qs : List Q} (h : Row w B A (flat4 qs)) {k : Nat} (hk : k < qs.length) :
    ∃ ad, A = some ad ∧ ad.block < B ∧ w.cell? (ad.add (k * 4)) = some (.int .i64 qs[k].x) ∧ w.cell? (ad.add (k * 4 + 1)) = some (.int .i64 qs[k].y) ∧ w.cell? (ad.add (k * 4 + 2)) = some (.int .i64 qs[k].a) ∧ w.cell? (ad.add (k * 4 + 3)) = some (.int .i64 qs[k].b) := by
  have hl := flat4_length qs
  obtain ⟨ad, e, hb, hc⟩ := h (by omega)
  obtain ⟨g0, g1, g2, g3⟩ := flat4_get qs k hk
  rw [List.getElem?_eq_some_iff] at g0 g1 g2 g3
  obtain ⟨h0, g0⟩ := g0
  obtain ⟨h1, g1⟩ := g1
  obtain ⟨h2, g2⟩ := g2
  obtain ⟨h3, g3⟩ := g3
  exact ⟨ad, e, hb, by rw [hc _ h0, g0], by rw [hc _ h1, g1], by rw [hc _ h2, g2], by rw [hc _ h3, g3]⟩

def Q.small (q : Q) : Prop := Small q.x q.y q.a q.b
/-- The least about two. -/
def ar (p q : Q) : Q := ⟨min p.x q.x, min p.y q.y, max (p.x + p.a) (q.x + q.a) - min p.x q.x, max (p.y + p.b) (q.y + q.b) - min p.y q.y⟩
theorem ar_small {p q : Q} (hp : p.small) (hq : q.small) : (ar p q).small := by
  unfold Q.small Small ar at *; simp only; omega
def joinQ : List Q → Q
  | [] => ⟨0, 0, 0, 0⟩
  | q :: r => r.foldl ar q
theorem joinQ_take (l : List Q) (k : Nat) (h0 : 0 < k) (hk : k < l.length) : joinQ (l.take (k + 1)) = ar (joinQ (l.take k)) l[k] := by
  obtain ⟨j, rfl⟩ : ∃ j, k = j + 1 := ⟨k - 1, by omega⟩
  cases l with
  | nil => simp at hk
  | cons q r =>
    simp only [List.take_succ_cons, joinQ]
    have hj : j < r.length := by simpa using hk
    rw [List.take_succ_eq_append_getElem hj, List.foldl_append]
    rfl
theorem joinQ_small (l : List Q) (h : ∀ q ∈ l, q.small) (hn : 0 < l.length) : (joinQ l).small := by
  cases l with
  | nil => simp at hn
  | cons q r =>
    unfold joinQ
    have h0 := h q (by simp)
    have hr : ∀ p ∈ r, p.small := fun p hp => h p (by simp [hp])
    clear h hn
    induction r generalizing q with
    | nil => exact h0
    | cons p r ih => exact ih (ar q p) (ar_small h0 (hr p (by simp))) fun p' hp' => hr p' (by simp [hp'])
abbrev qv (q : Q) : Value := rv q.x q.y q.a q.b
theorem around_q (p q : Q) (w : World) (hp : p.small) (hq : q.small) : Calls Try.prog 21 #[qv p, qv q] w fun e w' => e = .returned (qv (ar p q)) ∧ Below w.heap.size w w' := around_any _ _ _ _ _ _ _ _ w hp hq

theorem joinQ_one (l : List Q) (h : 0 < l.length) : joinQ (l.take 1) = l[0] := by
  cases l with
  | nil => simp at h
  | cons q r => rfl
theorem join_none (w : World) (A : Option Addr) (c : Nat) : Calls Try.prog 10 #[.slice A 0 c] w fun e w' => e = .returned (rv 0 0 0 0) ∧ Below w.heap.size w w' := by
  go_enter Try.func10, Try.ntmps10
  go_wp2
  refine bodyPost_ret (v := rv 0 0 0 0) (by simp [results, Try.results10, go_sem]) rfl ⟨rfl, ?_⟩
  exact (Below.refl _ _).alloc (Nat.le_refl _) _
theorem at_add (g o i : Nat) : (⟨g, o, none⟩ : Addr).add i = ⟨g, o + i, none⟩ := by unfold Addr.add; split <;> simp_all
theorem Row.quad2 {w : World} {B g o : Nat} {qs : List Q} (h : Row w B (some ⟨g, o, none⟩) (flat4 qs)) {k : Nat} (hk : k < qs.length) :
    g < B ∧ w.cell? ⟨g, o + k * 4, none⟩ = some (.int .i64 qs[k].x) ∧ w.cell? ⟨g, o + k * 4 + 1, none⟩ = some (.int .i64 qs[k].y) ∧ w.cell? ⟨g, o + k * 4 + 2, none⟩ = some (.int .i64 qs[k].a) ∧ w.cell? ⟨g, o + k * 4 + 3, none⟩ = some (.int .i64 qs[k].b) := by
  obtain ⟨ad, e, hb, g0, g1, g2, g3⟩ := h.quad hk
  injection e with e
  subst e
  rw [at_add] at g0 g1 g2 g3
  exact ⟨hb, g0, g1, g2, g3⟩
set_option maxHeartbeats 1000000 in
theorem join_any (w : World) (g o c : Nat) (qs : List Q) (hr : Row w w.heap.size (some ⟨g, o, none⟩) (flat4 qs)) (hn : 0 < qs.length) (hm : qs.length ≤ 1000) (hc : qs.length ≤ c) (hc' : c ≤ 9223372036854775807) (hs : ∀ q ∈ qs, q.small) :
    Calls Try.prog 10 #[.slice (some ⟨g, o, none⟩) qs.length c] w fun e w' => e = .returned (qv (joinQ qs)) ∧ Below w.heap.size w w' := by
  have HS := Lib.hid hs
  obtain ⟨had, g0, g1, g2, g3⟩ := hr.quad2 hn
  have HR := Lib.hid hr
  clear hs hr
  have hc1 : ((qs.length : Int) == 0) = false := by rw [beq_eq_false_iff_ne]; omega
  have hc2 : 1 ≤ qs.length := hn
  have hc3 : (1 : Int) ≤ qs.length := by omega
  have hc4 : (qs.length : Int) ≤ c := by omega
  simp only [Nat.zero_mul, Nat.add_zero] at g0 g1 g2 g3
  by_cases hone : c = 1
  · subst hone
    have hq : qs.length = 1 := by omega
    have hj : joinQ qs = qs[0] := by rw [← joinQ_one qs hn, ← hq, List.take_length]
    rw [hj]
    have hq1 : (1 : Int) ≤ qs.length := by omega
    have hq2 : (qs.length : Int) ≤ 1 := by omega
    have hq3 : qs.length ≤ 1 := by omega
    clear hq hj hc1 hc4
    generalize qs[0] = q at *
    go_enter Try.func10, Try.ntmps10
    go_wp2
    go_loop [16] (fun i => i = .int .i64 0) (fun _ => 0)
    case atStart => rfl
    case round =>
      subst hrel
      go_wp2
      refine bodyPost_ret (v := qv q) ?_ rfl ⟨rfl, ?_⟩
      · simp [results, Try.results10, go_sem]
      · exact ((Below.refl _ w).alloc (Nat.le_refl _) _).alloc (by simp) _
  · have hgrow : 1 ≤ c := by omega
    go_enter Try.func10, Try.ntmps10
    go_wp2
    go_loopw [16] (fun i wr => ∃ k : Nat, k + 1 ≤ qs.length ∧ i = .int .i64 k ∧ Below (w.heap.size + 1) (w.alloc (.cells #[.int .i64 0, .int .i64 0, .int .i64 0, .int .i64 0] 23)) wr ∧
        Whole wr (w.heap.size + 1) 23 [.int .i64 (joinQ (qs.take (k + 1))).x, .int .i64 (joinQ (qs.take (k + 1))).y, .int .i64 (joinQ (qs.take (k + 1))).a, .int .i64 (joinQ (qs.take (k + 1))).b])
      (fun i _ => qs.length - (intOf i).toNat)
    case atStart =>
      refine ⟨0, hn, rfl, ((Below.refl _ _).alloc (by simp) _), ?_⟩
      rw [joinQ_one qs hn]
      have h := Whole.mk (w.alloc (.cells #[.int .i64 0, .int .i64 0, .int .i64 0, .int .i64 0] 23)) 23 #[.int .i64 qs[0].x, .int .i64 qs[0].y, .int .i64 qs[0].a, .int .i64 qs[0].b]
      rw [World.size_alloc] at h
      exact h
    case round =>
      obtain ⟨k, hk, rfl, hbel, hwh⟩ := hrel
      have hw0 := (Whole.mk w 23 #[.int .i64 0, .int .i64 0, .int .i64 0, .int .i64 0]).under hbel (by omega)
      have hsz := hwh.size
      by_cases hlt : k + 1 < qs.length
      · obtain ⟨_, e0, e1, e2, e3⟩ := ((HR.out.alloc (Nat.le_refl _) _).below (hbel.mono (by omega))).quad2 hlt
        obtain ⟨p0, p1, p2, p3⟩ := hwh.four
        obtain ⟨q0, q1, q2, q3⟩ := hwh.fourFree
        have J := Lib.hid (joinQ_take qs (k + 1) (by omega) hlt)
        have hs1 := joinQ_small (qs.take (k + 1)) (fun q hq => HS.out q (List.mem_of_mem_take hq)) (by simp; omega)
        have hs2 := HS.out _ (List.getElem_mem hlt)
        have HA := Lib.hid (fun w => around_q (joinQ (qs.take (k + 1))) qs[k + 1] w hs1 hs2)
        have HW := Lib.hid hwh
        have HB := Lib.hid hbel
        clear hwh hbel hs1 hs2 g0 g1 g2 g3
        generalize joinQ (qs.take (k + 1)) = j at *
        generalize qs[k + 1] = q at *
        rw [show o + (k + 1) * 4 = o + 4 + k * 4 by omega] at e0 e1 e2 e3
        have hk1 : k < qs.length - 1 := by omega
        go_wp2_with fail
        refine (HA.out _).mono ?_; rintro e w1 ⟨rfl, hb1⟩
        have HW1 := (HW.out.made (.cells #[.int .i64 q.x, .int .i64 q.y, .int .i64 q.a, .int .i64 q.b] 23)).under hb1 (by simp; omega)
        obtain ⟨r0, r1, r2, r3⟩ := HW1.four
        obtain ⟨t0, t1, t2, t3⟩ := HW1.fourFree
        have HB1 := Lib.hid ((HB.out.alloc (by omega) _).trans (hb1.mono (by simp; omega)))
        have HW2 := Lib.hid HW1
        clear HW1 hb1 HW
        go_wp2_with fail
        go_roundw
        case rel =>
          refine ⟨k + 1, by omega, by go_num, ?_, ?_⟩
          · exact (((HB1.out.setCell (by simp) _).setCell (by simp) _).setCell (by simp) _).setCell (by simp) _
          · rw [J.out]; exact HW2.out.putFour _ _ _ _
        case measure => simp [intOf]; omega
      · have hk1 : ¬ k < qs.length - 1 := by omega
        have hke : k + 1 = qs.length := by omega
        have HK := Lib.hid hke
        rw [hke, List.take_length] at hwh
        obtain ⟨p0, p1, p2, p3⟩ := hwh.four
        obtain ⟨q0, q1, q2, q3⟩ := hw0.four
        obtain ⟨r0, r1, r2, r3⟩ := hw0.fourFree
        have HB1 := Lib.hid (((Below.refl _ w).alloc (Nat.le_refl _) _).trans (hbel.mono (by omega)))
        clear hwh hw0 hbel g0 g1 g2 g3 hke
        obtain ⟨j, hj⟩ : ∃ j, joinQ qs = j := ⟨_, rfl⟩
        rw [hj] at p0 p1 p2 p3
        have HJ := Lib.hid hj
        clear hj
        go_wp2
        refine bodyPost_ret (v := qv j) ?_ rfl ⟨by rw [HJ.out], ?_⟩
        · simp [results, Try.results10, go_sem, p0, p1, p2, p3, q0, q1, q2, q3]
        · exact (((HB1.out.setCell (by simp) _).setCell (by simp) _).setCell (by simp) _).setCell (by simp) _
end Go.Proofs.Ytinnogplnpmcmaa
