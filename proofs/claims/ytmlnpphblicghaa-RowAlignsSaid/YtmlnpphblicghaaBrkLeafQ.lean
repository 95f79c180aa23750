import Derived.Test.YtmlnpphblicghaaTotAboveQ
import Derived.Test.YtmlnpphblicghaaZQ
import Derived.Test.YtmlnpphblicghaaTotalQ
/- sort.Search by what its function tells; slices.Contains of numbers; rows of ends; brk.lastThatFits. -/
namespace Go.Proofs.Ytmlnpphblicghaa
open Go Go.RowKit
set_option linter.unusedVariables false
set_option linter.unusedSimpArgs false
set_option maxRecDepth 20000
set_option maxHeartbeats 4000000

theorem search_any (g : Nat) (cb : Array Value) (n : Nat) (p : Nat → Bool) (w : World) (eg : ∀ args w, (callFunc g args).run Try.prog w = .ok (.enter g args) w) (hsz : n < 4611686018427387904)
    (hf : ∀ (w' : World) (i : Nat), Below w.heap.size w w' → i < n → Calls Try.prog g (#[.int .i64 i] ++ cb) w' fun e w'' => e = .returned (.bool (p i)) ∧ Below w'.heap.size w' w'')
    (hmono : ∀ a b, a ≤ b → b < n → p a = true → p b = true) :
    Calls Try.prog 60 #[.int .i64 n, .func (.func g) #[] cb] w fun e w' => ∃ r : Nat, e = .returned (.int .i64 r) ∧ r ≤ n ∧ (∀ t, t < r → p t = false) ∧ (∀ t, r ≤ t → t < n → p t = true) ∧ Below w.heap.size w w' := by
  have HF := Lib.hid hf
  have M := Lib.hid hmono
  clear hf hmono
  go_enter Try.func60, Try.ntmps60
  go_wp2
  go_loopw [5, 6] (fun s5 s6 wr => ∃ (lo hi : Nat), s5 = .int .i64 lo ∧ s6 = .int .i64 hi ∧ lo ≤ hi ∧ hi ≤ n ∧ Below w.heap.size w wr ∧ Hid ((∀ t, t < lo → p t = false) ∧ (∀ t, hi ≤ t → t < n → p t = true))) (fun s5 s6 _ => (intOf s6).toNat - (intOf s5).toNat)
  case atStart => exact ⟨0, n, rfl, rfl, Nat.zero_le _, Nat.le_refl _, Below.refl _ _, Lib.hid ⟨fun t ht => absurd ht (Nat.not_lt_zero _), fun t h1 h2 => by omega⟩⟩
  case round =>
    obtain ⟨lo, hi, rfl, rfl, hlh, hin, hB, I⟩ := hrel
    have HB := Lib.hid hB
    clear hB
    by_cases hlt : lo < hi
    · have hc := HF.out wr ((lo + hi) / 2) HB.out (by omega)
      rw [show (((lo + hi) / 2 : Nat) : Int) = ((lo : Int) + (hi : Int)) / 2 by omega] at hc
      have e2 : ((lo : Int) + (hi : Int)) / 2 = (((lo + hi) / 2 : Nat) : Int) := by omega
      have e3 : ((lo : Int) + (hi : Int)) / 2 + 1 = (((lo + hi) / 2 + 1 : Nat) : Int) := by omega
      have E2 := Lib.hid e2
      have E3 := Lib.hid e3
      clear e2 e3
      cases hp : p ((lo + hi) / 2) <;> rw [hp] at hc
      · have HP := Lib.hid hp
        clear hp
        go_wp2_with (go_at_fn g; refine hc.mono ?_; rintro e w' ⟨rfl, hb⟩; have HB2 := Lib.hid (HB.out.trans (hb.mono HB.out.size)); clear hb HB)
        go_roundw
        case measure => simp [intOf]; omega
        case rel => exact ⟨(lo + hi) / 2 + 1, hi, by rw [E3.out], rfl, by omega, hin, HB2.out, Lib.hid ⟨fun t ht => (by
            cases h : p t with
            | false => rfl
            | true => have := M.out t ((lo + hi) / 2) (by omega) (by omega) h; rw [HP.out] at this; cases this), I.out.2⟩⟩
      · have HP := Lib.hid hp
        clear hp
        go_wp2_with (go_at_fn g; refine hc.mono ?_; rintro e w' ⟨rfl, hb⟩; have HB2 := Lib.hid (HB.out.trans (hb.mono HB.out.size)); clear hb HB)
        go_roundw
        case measure => simp [intOf]; omega
        case rel => exact ⟨lo, (lo + hi) / 2, rfl, by rw [E2.out], by omega, by omega, HB2.out, Lib.hid ⟨I.out.1, fun t ht htn => M.out ((lo + hi) / 2) t ht htn HP.out⟩⟩
    · obtain rfl : hi = lo := by omega
      go_wp2
      go_ret
      exact ⟨hi, rfl, hin, I.out.1, I.out.2, HB.out⟩
/- numbers: slices.Index, slices.Contains -/
/- rows of ends -/
def enC (x : En) : List Value := [.int .i64 x.at_, .int .i64 (tH x.sum), .int .u64 (tL x.sum), .int .i64 (tH x.least), .int .u64 (tL x.least)]
theorem enC_len (x : En) : (enC x).length = 5 := rfl
theorem Row.en {w : World} {B : Nat} {A : Option Addr} {l : List En} (h : Row w B A (l.flatMap enC)) {i : Nat} (hi : i < l.length) :
    ∃ ad, A = some ad ∧ ad.block < B ∧ w.cell? (ad.add (i * 5)) = some (.int .i64 l[i].at_) ∧ w.cell? ⟨(ad.add (i * 5)).block, (ad.add (i * 5)).off + 1, none⟩ = some (.int .i64 (tH l[i].sum)) ∧
      w.cell? ⟨(ad.add (i * 5)).block, (ad.add (i * 5)).off + 2, none⟩ = some (.int .u64 (tL l[i].sum)) ∧ w.cell? ⟨(ad.add (i * 5)).block, (ad.add (i * 5)).off + 3, none⟩ = some (.int .i64 (tH l[i].least)) ∧
      w.cell? ⟨(ad.add (i * 5)).block, (ad.add (i * 5)).off + 4, none⟩ = some (.int .u64 (tL l[i].least)) := by
  obtain ⟨ad, e, hb, h0, hj⟩ := h.rc enC_len (by decide) hi
  exact ⟨ad, e, hb, h0 _ rfl, hj 1 _ (by decide) rfl, hj 2 _ (by decide) rfl, hj 3 _ (by decide) rfl, hj 4 _ (by decide) rfl⟩
theorem closure_any (es : List En) (A : Option Addr) (c : Nat) (most : Int) (b1 b2 : Nat) (i : Nat) (hi : i < es.length) (W : World) (hR : Row W W.heap.size A (es.flatMap enC)) (h1 : W.cell? ⟨b1, 0, none⟩ = some (.slice A es.length c))
    (h2 : W.cell? ⟨b2, 0, none⟩ = some (.int .i64 (tH most))) (h3 : W.cell? ⟨b2, 1, none⟩ = some (.int .u64 (tL most))) :
    Calls Try.prog 61 (#[.int .i64 i] ++ #[.pointer (some ⟨b1, 0, none⟩), .pointer (some ⟨b2, 0, none⟩)]) W fun e w' => e = .returned (.bool (decide (most < es[i].least))) ∧ Below W.heap.size W w' := by
  obtain ⟨ad, rfl, hab, c0, c1, c2, c3, c4⟩ := hR.en hi
  have hii : (i : Int) < es.length := by omega
  have AB := Lib.hid (fun w => above_any es[i].least most w)
  have z1 := World.block_lt_of_cell? _ _ h1
  have z2 := World.block_lt_of_cell? _ _ h2
  generalize es[i] = x at *
  clear hR c0 c1 c2
  simp only [totV] at AB
  generalize tH x.least = lh at *
  generalize tL x.least = ll at *
  generalize tH most = mh at *
  generalize tL most = ml at *
  go_enter Try.func61, Try.ntmps61
  go_upto_region 1 with fail
  have y1 : ∀ t : Later W.heap.size W, t.w.cell? ⟨b1, 0, none⟩ = some (.slice (some ad) es.length c) := fun t => (t.h.cell z1).trans h1
  have y2 : ∀ t : Later W.heap.size W, t.w.cell? ⟨b2, 0, none⟩ = some (.int .i64 mh) := fun t => (t.h.cell z2).trans h2
  have y3 : ∀ t : Later W.heap.size W, t.w.cell? ⟨b2, 1, none⟩ = some (.int .u64 ml) := fun t => (t.h.cell (p := ⟨b2, 1, none⟩) z2).trans h3
  have y4 : ∀ t : Later W.heap.size W, t.w.cell? ⟨(ad.add (i * 5)).block, (ad.add (i * 5)).off + 3, none⟩ = some (.int .i64 lh) := fun t => (t.h.cell (by rw [add_block]; exact hab)).trans c3
  have y5 : ∀ t : Later W.heap.size W, t.w.cell? ⟨(ad.add (i * 5)).block, (ad.add (i * 5)).off + 4, none⟩ = some (.int .u64 ll) := fun t => (t.h.cell (by rw [add_block]; exact hab)).trans c4
  clear h1 h2 h3 c3 c4
  refine region_lane [] [0, 1, 2, 3, 4, 5, 6] [7] (by kernel_rfl) (by kernel_rfl) (fun _ _ _ _ _ h => h) ?_
  simp only [pick, List.map_nil]
  refine wpQuiet_nil ⟨rfl, ?_⟩
  simp only [List.map_cons, List.map_nil, List.getD_cons_zero, List.getD_cons_succ, List.drop_succ_cons, List.drop_zero]
  refine laneO_run 6 (by kernel_rfl) ?_
  simp only [List.take_succ_cons, List.take_zero, List.drop_succ_cons, List.drop_zero]
  repeat (go_big_quiet_step (fail))
  refine wpQuiet_nil ?_
  refine laneO_call (v := .bool (decide (most < x.least))) (by kernel_rfl) (by rfl) (fun C hC h0 => ?_) ?_
  focus (go_big_quiet_op; exact ⟨_, fun w hw => (AB.out w).mono fun e w' ⟨he, hb⟩ => ⟨he, hC _ _ hw hb⟩, rfl⟩)
  simp only [Act.put, List.setIfInBounds_toArray, List.set_cons_zero, List.set_cons_succ]
  refine laneO_end0 rfl rfl fun w1 hb0 => ?_
  go_wp2
  go_ret
  exact ⟨rfl, hb0⟩
end Go.Proofs.Ytmlnpphblicghaa
