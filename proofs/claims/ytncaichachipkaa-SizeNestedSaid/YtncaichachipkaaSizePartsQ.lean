import Derived.Test.YtncaichachipkaaSizeAddQ
import Derived.Test.YtncaichachipkaaZQ
/- size.parts: a box and all in it that counts, each behind what it is in. -/
namespace Go.Proofs.Ytncaichachipkaa
open Go Go.RowKit
set_option linter.unusedVariables false
set_option linter.unusedSimpArgs false
set_option maxRecDepth 20000
set_option maxHeartbeats 4000000

theorem pt_info : (Try.prog.info? 67).map (fun i => (i.zero, i.size, i.bytes)) = some (some (.agg #[.pointer none, .int .i64 0, .int .i64 0, .int .u64 0, .int .i64 0]), 5, 40) := by kernel_rfl
def ptC0 (p : Pt) : List Value := ptC p 0 0
theorem ptC0_len (p : Pt) : (ptC0 p).length = 5 := rfl
theorem ptC0_lit (p : Pt) : ptC0 p = [.pointer (some ⟨p.g, p.q, none⟩), .int .i64 p.in_, .int .i64 0, .int .u64 0, .int .i64 0] := rfl
theorem own_lit (w : World) (e : TypeId) (size : Nat) (cs : Array Value) (h : cs.size = size) : (w.alloc (.cells cs e)).ownsRow w.heap.size e size (.slice (some ⟨w.heap.size, 0, none⟩) 1 1) 1 cs.toList := by
  refine ⟨by simp [h], .inr ⟨w.heap.size, 1, cs, rfl, Nat.le_refl _, heap_alloc_new w _, Nat.le_refl _, by decide, by simp [h], ?_⟩⟩
  rw [List.take_of_length_le (by simp [h])]
theorem own_range {w : World} {base e size : Nat} {g n c : Nat} {α : Type} {f : α → List Value} {l : List α} (hf : ∀ x, (f x).length = size) (h : w.ownsRow base e size (.slice (some ⟨g, 0, none⟩) n c) n (l.flatMap f)) (i : Nat) (hi : i < l.length) : w.rangeAt g (i * size) (f l[i]) := fun j v hv => by
  have hj : j < size := by have := (List.getElem?_eq_some_iff.1 hv).1; rwa [hf] at this
  have hlen : i * size + size ≤ l.length * size := by
    have : (i + 1) * size ≤ l.length * size := Nat.mul_le_mul_right size hi
    rwa [Nat.succ_mul] at this
  have h1 := h.1
  rw [rec_len hf] at h1
  rw [h.cellAt _ (by omega), rec_get hf l i hi j hj]
  exact hv
/-- The kids of a part, as parts. -/
theorem boxes_pts {w : World} {S : Nat → Prop} (i : Nat) : ∀ {l : List Bx} {A : Option Addr}, BoxesAt w S l A → ∃ U : List Pt, U.map Pt.bx = l ∧ (∀ p ∈ U, p.in_ = i) ∧ (∀ p ∈ U, BoxAt w S p.bx p.g p.q) ∧ ∀ m (h : m < U.length), ∃ g0 q0, A = some ⟨g0, q0, none⟩ ∧ U[m] = ⟨U[m].bx, g0, q0 + m * 47, i⟩
  | [], A, _ => ⟨[], rfl, by simp, by simp, fun m h => absurd h (by simp)⟩
  | b :: r, A, h => by
    rw [BoxesAt] at h
    obtain ⟨g, q, cs, e, hs, hr, hv, hb⟩ := h
    obtain ⟨U, h1, h2, h3, h4⟩ := boxes_pts i hb
    refine ⟨⟨b, g, q, i⟩ :: U, by simp [h1], ?_, ?_, ?_⟩
    · intro p hp
      rcases List.mem_cons.1 hp with rfl | hp
      · rfl
      · exact h2 p hp
    · intro p hp
      rcases List.mem_cons.1 hp with rfl | hp
      · exact ⟨hs, cs, hr, hv⟩
      · exact h3 p hp
    · intro m hm
      cases m with
      | zero => exact ⟨g, q, e, by simp⟩
      | succ m =>
        obtain ⟨g0, q0, e0, h5⟩ := h4 m (by simpa using hm)
        injection e0 with e0
        injection e0 with e1 e2 _
        subst e1 e2
        refine ⟨g, q, e, ?_⟩
        simp only [List.getElem_cons_succ]
        rw [h5]
        congr 1
        omega
/-- Parts in the making. -/
structure PaSt (W w : World) (b : Bx) (g q : Nat) (T : List Pt) (A : Option Addr) (n c : Nat) : Prop where
  own : w.ownsRow W.heap.size 67 5 (.slice A n c) n ((⟨b, g, q, 0⟩ :: T).flatMap ptC0)
  low : Below W.heap.size W w
  at_ : ∀ p ∈ T, BoxAt W (· < W.heap.size) p.bx p.g p.q
  len : n = T.length + 1
section
variable {W w w' : World} {b : Bx} {g q n c c' : Nat} {T : List Pt} {A A' : Option Addr}
theorem PaSt.behind (h : PaSt W w b g q T A n c) (hb : Below w.heap.size w w') : PaSt W w' b g q T A n c :=
  ⟨own_below h.own hb (Nat.le_refl _), h.low.trans (hb.mono h.low.size), h.at_, h.len⟩
theorem PaSt.pushed (h : PaSt W w b g q T A n c) (p : Pt) (hp : BoxAt W (· < W.heap.size) p.bx p.g p.q) (ho : w'.ownsRow W.heap.size 67 5 (.slice A' (n + 1) c') (n + 1) ((⟨b, g, q, 0⟩ :: T).flatMap ptC0 ++ ptC0 p)) (hb : Below W.heap.size w w') : PaSt W w' b g q (T ++ [p]) A' (n + 1) c' := by
  refine ⟨by rw [← List.cons_append, List.flatMap_append]; simpa using ho, h.low.trans hb, fun y hy => ?_, by rw [h.len]; simp⟩
  rcases List.mem_append.1 hy with hy | hy
  · exact h.at_ y hy
  · rw [List.mem_singleton] at hy; subst hy; exact hp
end
def PartsPost (W : World) (b : Bx) (g q : Nat) (e : Ending) (w' : World) : Prop := ∃ (T : List Pt) (A : Option Addr) (n c : Nat), e = .returned (.slice A n c) ∧ Bfs b (T.length + 1) T ∧ PaSt W w' b g q T A n c
theorem parts_any (b : Bx) (g q : Nat) (W : World) (hb : BoxAt W (· < W.heap.size) b g q) (hc : b.cnt ≤ 1073741824) :
    Calls Try.prog 20 #[.pointer (some ⟨g, q, none⟩)] W (PartsPost W b g q) := by
  have HB := Lib.hid hb
  have P0 : Hid (PaSt W (W.alloc (.cells #[.pointer (some ⟨g, q, none⟩), .int .i64 0, .int .i64 0, .int .u64 0, .int .i64 0] 67)) b g q [] (some ⟨W.heap.size, 0, none⟩) 1 1) := Lib.hid
    ⟨own_lit W 67 5 #[.pointer (some ⟨g, q, none⟩), .int .i64 0, .int .i64 0, .int .u64 0, .int .i64 0] rfl, (Below.refl _ W).alloc (Nat.le_refl _) _, by simp, rfl⟩
  have F0 := Lib.hid (Bfs.start b)
  clear hb
  go_enter Try.func20, Try.ntmps20
  go_upto_region 3 with fail
  generalize W.alloc _ = W1 at *
  go_loopw [3, 4] (fun v3 v4 wr => ∃ (T : List Pt) (i : Nat) (A : Option Addr) (n c : Nat), v3 = .slice A n c ∧ v4 = .int .i64 i ∧ i ≤ n ∧ n ≤ b.cnt ∧ Hid (Bfs b i T) ∧ Hid (PaSt W wr b g q T A n c)) (fun _ v4 _ => b.cnt - (intOf v4).toNat)
  case atStart => exact ⟨[], 0, _, 1, 1, rfl, rfl, Nat.zero_le _, by have := F0.out.small; simp at this; omega, F0, P0⟩
  case round =>
    clear P0 F0
    obtain ⟨T, i, A, n, c, rfl, rfl, hin, hnc, F, P⟩ := hrel
    by_cases hlt : i < n
    · have hki : (i : Int) < n := by omega
      have hl := P.out.len
      obtain ⟨gl, c1, hv, -, -, -⟩ := owns_some P.out.own (by omega)
      injection hv with e1 e2 e3
      subst e1
      clear e2 e3 c1
      have hpa : (⟨gl, 0, none⟩ : Addr).add (i * 5) = ⟨gl, i * 5, none⟩ := head_add _ _
      have hil : i < ((⟨b, g, q, 0⟩ : Pt) :: T).length := by simp; omega
      have hbx : (((⟨b, g, q, 0⟩ : Pt) :: T)[i]).bx = bxAt b T i := by
        cases i with
        | zero => rfl
        | succ i => rw [bxAt_succ b T i (by omega)]; rfl
      have hat : BoxAt W (· < W.heap.size) (((⟨b, g, q, 0⟩ : Pt) :: T)[i]).bx (((⟨b, g, q, 0⟩ : Pt) :: T)[i]).g (((⟨b, g, q, 0⟩ : Pt) :: T)[i]).q := by
        rcases List.mem_cons.1 (List.getElem_mem hil) with h | h
        · rw [h]; exact HB.out
        · exact P.out.at_ _ h
      have K := Lib.hid (kids_any ((⟨b, g, q, 0⟩ : Pt) :: T)[i] 0 0 (· < W.heap.size) gl (i * 5) wr (own_range ptC0_len P.out.own i hil) (hat.below P.out.low))
      rw [hbx] at K
      have HL := Lib.hid hl
      clear hbx hat hil hl
      go_wp2_with fail
      refine K.out.mono ?_
      rintro e w' ⟨rfl, A2, c2, rfl, hK⟩
      obtain ⟨U, u1, u2, u3, u4⟩ := boxes_pts i hK
      have hUl : (bxAt b T i).kds.length = U.length := by rw [← u1]; simp
      have F2 := Lib.hid (F.out.next (U := U) (by have := HL.out; omega) u2 u1)
      have U2 := Lib.hid u2
      have U3 : Hid (∀ p ∈ U, BoxAt W (· < W.heap.size) p.bx p.g p.q) := Lib.hid fun p hp => (u3 p hp).keep fun k hk => ⟨hk, (P.out.low.block k hk).symm⟩
      have U4 := Lib.hid u4
      rw [hUl]
      have hsm : n + U.length ≤ b.cnt := by have := F2.out.small; have := HL.out; simp at *; omega
      have hge : (0 : Int) ≤ i := by omega
      clear K hK u1 u2 u3 u4 hUl hpa F
      have P1 : Hid (PaSt W wr b g q (T ++ U.take 0) (some ⟨gl, 0, none⟩) n c) := Lib.hid (by simpa using P.out)
      clear P
      go_upto_region 7 with fail
      go_loopw [3, 22] (fun v3 v22 wx => ∃ (m : Nat) (A : Option Addr) (n' c : Nat), v3 = .slice A n' c ∧ v22 = .int .i64 m ∧ m ≤ U.length ∧ n' = n + m ∧ Hid (PaSt W wx b g q (T ++ U.take m) A n' c)) (fun _ v22 _ => U.length - (intOf v22).toNat)
      case atStart => exact ⟨0, _, _, _, rfl, rfl, Nat.zero_le _, rfl, P1⟩
      case round =>
        clear P1
        obtain ⟨m, A3, n3, c3, rfl, rfl, hm, rfl, P⟩ := hrel
        by_cases hml : m < U.length
        · have hmi : (m : Int) < U.length := by omega
          obtain ⟨g0, q0, hA, hUm⟩ := U4.out m hml
          subst hA
          have hpa : (⟨g0, q0, none⟩ : Addr).add (m * 47) = ⟨g0, q0 + m * 47, none⟩ := Addr.add_mid _ _ _
          have HC : Hid (ptC0 U[m] = [.pointer (some ⟨g0, q0 + m * 47, none⟩), .int .i64 i, .int .i64 0, .int .u64 0, .int .i64 0]) := Lib.hid (by rw [hUm]; rfl)
          have HT : Hid (T ++ U.take (m + 1) = (T ++ U.take m) ++ [U[m]]) := Lib.hid (by rw [List.take_succ_eq_append_getElem hml, List.append_assoc])
          have HX := Lib.hid (U3.out U[m] (List.getElem_mem hml))
          have hzb := P.out.low.size
          clear hUm
          generalize U[m] = um at *
          go_wp2_with (at_builtin; refine wpList_new rfl (.tmp 25) (.tmp 31) _ rfl W.heap.size 67 5 40 (.agg #[.pointer none, .int .i64 0, .int .i64 0, .int .u64 0, .int .i64 0]) Try.underlying63 pt_info rfl (by decide) _ _ _ _ rfl P.out.own rfl ⟨by omega, by unfold maxLen; omega, hzb⟩ rfl (by simp [Value.oneCell']) ?_; intro A4 c4 w4 own4 hb4; have P4 := Lib.hid (P.out.pushed um HX.out (by rw [HC.out]; exact own4) hb4); rw [← HT.out] at P4; clear own4 hb4 P hzb)
          go_roundw
          case rel => exact ⟨m + 1, A4, _, c4, rfl, by go_num, by omega, by omega, P4⟩
          case measure => simp [intOf]; omega
        · obtain rfl : m = U.length := by omega
          have P5 : Hid (PaSt W _ b g q (T ++ U) A3 (n + U.length) c3) := Lib.hid (by have := P.out; rwa [List.take_length] at this)
          clear P U2 U3 U4
          go_wp2
          go_roundw
          case rel => exact ⟨T ++ U, i + 1, A3, n + U.length, c3, rfl, by go_num, by omega, hsm, F2, P5⟩
          case measure => simp [intOf]; omega
    · obtain rfl : i = n := by omega
      have hki : ¬ (i : Int) < i := by omega
      have R : Hid (PartsPost W b g q (.returned (.slice A i c)) wr) := Lib.hid ⟨T, A, i, c, rfl, by have := F.out; rwa [P.out.len] at this, P.out⟩
      clear F P
      go_wp2
      go_ret
      exact R.out
end Go.Proofs.Ytncaichachipkaa
