import Derived.Test.YtmlnpphblicghaaBrkLeafQ
/- brk.lastThatFits. -/
namespace Go.Proofs.Ytmlnpphblicghaa
open Go Go.RowKit
set_option linter.unusedVariables false
set_option linter.unusedSimpArgs false
set_option maxRecDepth 20000
set_option maxHeartbeats 4000000

def aboveN (most : Int) (L : List En) (i : Nat) : Bool := decide (most < (L.map (·.least)).getD i 0)
theorem aboveN_at (most : Int) (L : List En) (i : Nat) (h : i < L.length) : aboveN most L i = decide (most < L[i].least) := by
  unfold aboveN
  rw [List.getD_eq_getElem?_getD, List.getElem?_map, List.getElem?_eq_getElem h]
  rfl
theorem fits_any (e : Nat × Int) (r : List (Nat × Int)) (A : Option Addr) (c : Nat) (most : Int) (W : World) (hR : Row W W.heap.size A ((leasts (e :: r)).flatMap enC)) (hl : r.length < 1099511627776) :
    Calls Try.prog 50 #[.slice A (r.length + 1) c, totV most] W fun o w' => o = .returned (.int .i64 (fitN most r)) ∧ Below W.heap.size W w' := by
  have hL : (leasts (e :: r)).length = r.length + 1 := by rw [leasts_length]; rfl
  have eg : ∀ args w, (callFunc 61 args).run Try.prog w = .ok (.enter 61 args) w := enters_of Try.func61 (by kernel_rfl) rfl
  have H1 := Lib.hid ((Whole.mk W 64 #[.slice A (r.length + 1) c]).made (.cells #[.int .i64 (tH most), .int .u64 (tL most)] 68))
  have H2 : Hid (Whole ((W.alloc (.cells #[.slice A (r.length + 1) c] 64)).alloc (.cells #[.int .i64 (tH most), .int .u64 (tL most)] 68)) (W.heap.size + 1) 68 [.int .i64 (tH most), .int .u64 (tL most)]) := Lib.hid (by simpa using Whole.mk (W.alloc (.cells #[.slice A (r.length + 1) c] 64)) 68 #[.int .i64 (tH most), .int .u64 (tL most)])
  have SR := Lib.hid (search_any 61 #[.pointer (some ⟨W.heap.size, 0, none⟩), .pointer (some ⟨W.heap.size + 1, 0, none⟩)] (r.length + 1) (aboveN most (leasts (e :: r)))
    ((W.alloc (.cells #[.slice A (r.length + 1) c] 64)).alloc (.cells #[.int .i64 (tH most), .int .u64 (tL most)] 68)) eg (by omega)
    (fun w' i hb hi => by
      have hB : Below W.heap.size W w' := ((((Below.refl W.heap.size W).alloc (Nat.le_refl _) (.cells #[.slice A (r.length + 1) c] 64)).alloc (by simp) (.cells #[.int .i64 (tH most), .int .u64 (tL most)] 68))).trans (hb.mono (by simp; omega))
      have h1 := (H1.out.under hb H1.out.size).cell 0
      have h2 := (H2.out.under hb H2.out.size).cell 0
      have h3 := (H2.out.under hb H2.out.size).cell 1
      have := closure_any (leasts (e :: r)) A c most W.heap.size (W.heap.size + 1) i (by omega) w' ((hR.below hB).more hB.size) (by rw [hL]; exact h1) h2 h3
      rw [← aboveN_at] at this
      exact this)
    (fun a b hab hb h => by
      rw [aboveN_at _ _ _ (by omega), decide_eq_true_eq] at h ⊢
      have := leasts_mono (e :: r) a b hab (by omega)
      omega))
  have HN := Lib.hid (fun (q : Nat) (h1 : q ≤ r.length + 1) (h2 : ∀ t, t < q → aboveN most (leasts (e :: r)) t = false) (h3 : ∀ t, q ≤ t → t < r.length + 1 → aboveN most (leasts (e :: r)) t = true) => fitN_is most (e :: r) q h1
    (fun t h ht => by have := h2 t ht; rw [aboveN_at _ _ _ h, decide_eq_false_iff_not] at this; omega)
    (fun t h ht => by have := h3 t ht (by omega); rw [aboveN_at _ _ _ h, decide_eq_true_eq] at this; exact this))
  have HP := Lib.hid (fitN_pred most e r)
  have hfl := fitN_le most (e :: r)
  simp only [List.length_cons] at hfl
  have HB := Lib.hid (((Below.refl W.heap.size W).alloc (Nat.le_refl _) (.cells #[.slice A (r.length + 1) c] 64)).alloc (by simp) (.cells #[.int .i64 (tH most), .int .u64 (tL most)] 68))
  clear hR eg hL H1 H2
  generalize fitN most (e :: r) = N at *
  generalize fitN most r = M at *
  generalize aboveN most (leasts (e :: r)) = p at *
  unfold totV
  go_enter Try.func50, Try.ntmps50
  go_wp2_with (go_at_call 60; refine SR.out.mono ?_; rintro o w' ⟨q, rfl, q1, q2, q3, hb⟩; have hq := HN.out q q1 q2 q3; clear q2 q3 q1; subst hq; have HB2 := Lib.hid (HB.out.trans (hb.mono (by simp; omega))); clear hb)
  all_goals go_ret
  all_goals exact ⟨ret_int (by have := HP.out; omega), HB2.out⟩
end Go.Proofs.Ytmlnpphblicghaa
