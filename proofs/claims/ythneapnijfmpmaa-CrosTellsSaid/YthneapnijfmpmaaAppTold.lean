import Derived.Test.YthneapnijfmpmaaOnly
import Derived.Test.YthneapnijfmpmaaPush
import Derived.Deep.RegionLawGrows
import Derived.Deep.Upon
/- 'append([]T{}, xs...)' in a region that draws its order: xs of any length. No program is named here. -/
namespace Go.Proofs.Ythneapnijfmpmaa
open Go Go.RowKit
set_option linter.unusedVariables false
set_option linter.unusedSimpArgs false

/-- A slice of the call's own. -/
def ownsT (B0 : Nat) (e : TypeId) (size n : Nat) (xs : List Value) : Told := fun v w => ∃ A c, v = .slice A n c ∧ w.ownsRow B0 e size (.slice A n c) n xs
theorem ownsT_steady (B0 : Nat) (e : TypeId) (size n : Nat) (xs : List Value) : Steady (ownsT B0 e size n xs) := fun v w w' hb ⟨A, c, h1, h2⟩ => ⟨A, c, h1, own_below h2 hb (Nat.le_refl _)⟩
theorem own_none {w : World} {lo g : Nat} {e : TypeId} {size : Nat} (h : Whole w g e []) (hl : lo ≤ g) : w.ownsRow lo e size (.slice (some ⟨g, 0, none⟩) 0 0) 0 [] :=
  ⟨by simp, .inr ⟨g, 0, #[], rfl, hl, h, Nat.le_refl _, by simp [maxLen], by simp, by simp⟩⟩
theorem append_lit0 {P : Program} {ops : Array Oper} {o : Oper} {a : Act} {w : World} {lo : Nat} (hw : Region.wanted o (yielded ops a.tmps) = true) (hlo : lo ≤ w.heap.size) (s x : Operand) (t e : TypeId) (size bytes : Nat) (z : Value) (hop : o.op = .call { callee := .builtin .append, args := #[s, x], argTypes := #[t, t] })
    (ht : P.underlying t = some (.slice e)) (hinfo : (P.info? e).map (fun i => (i.zero, i.size, i.bytes)) = some (some z, size, bytes)) (hzs : z.cells.size = size) (hsz : 0 < size)
    (hs : rowT lo 0 e [] (a.eval s) w) (ao : Option Addr) (m c : Nat) (news : List Value) (hx : a.eval x = .slice ao m c) (hnil : ao = none → m = 0) (hn : news.length = m * size) (hc : ∀ ad, ao = some ad → ∀ j u, news[j]? = some u → w.cell? (ad.add j) = some u) (h1c : ∀ u ∈ news, u.oneCell' = true)
    (hm : m ≤ maxLen) (hb : m * bytes ≤ 140737488355328) : givesBy P ops o a w (ownsT lo e size m news) := by
  refine ⟨hw, fun K Q hK => ?_⟩
  obtain ⟨i0, hi0, hz0, hz1, hz2⟩ := info_parts hinfo
  obtain ⟨g, hs1, hs2, hs3⟩ := hs
  by_cases h0 : m = 0
  · subst h0
    have hnews : news = [] := List.eq_nil_of_length_eq_zero (by simpa using hn)
    subst hnews
    have hsrc : Src P i0.size t (.slice ao 0 c) 0 [] w := by
      cases ao with
      | none => exact Src.ofNil w ht c
      | some ad => exact Src.ofSlice w ht ad 0 c [] (by simp) (by simp) (by simp)
    have hrun := run_append_nothing (P := P) w t t o.type e i0 ht hi0 (some ⟨g, 0, none⟩) 0 0 (Nat.le_refl _) (.slice ao 0 c) hsrc
    unfold Oper.wp execOp
    simp only [hop, resolve, invoke, builtin, Sem.run_bind, Sem.run_pure, Result.andThen_ok, List.map_toArray, List.map_cons, List.map_nil, hs1, hx, hrun]
    exact hK _ _ (Behind.refl w) ⟨_, _, rfl, own_none hs3 hs2⟩
  · cases ao with
    | none => exact absurd (hnil rfl) h0
    | some ad =>
      obtain ⟨v', w', hrun, r1, r2⟩ := run_append_arg_grows (P := P) w t o.type e i0 z size bytes ht hi0 hz0 hz1 hz2 hzs hsz ⟨g, 0, none⟩ 0 0 [] (by simp) (fun j u hu => by simp at hu) ad m c news hn (hc ad rfl) (by omega) (by omega) (by rw [Nat.zero_add]; exact hb)
      rw [Nat.zero_add, List.nil_append] at r1
      obtain ⟨A, cc, rfl⟩ := own_shape r1
      unfold Oper.wp execOp
      simp only [hop, resolve, invoke, builtin, Sem.run_bind, Sem.run_pure, Result.andThen_ok, List.map_toArray, List.map_cons, List.map_nil, hs1, hx, hrun]
      exact hK _ _ ⟨r2.os, r2.tape, r2.output, r2.size, fun b hb => r2.block b hb (by simp)⟩ ⟨A, cc, rfl, own_raise r1 fun g' hg' => Nat.le_trans hlo (own_low r1 g' hg')⟩
theorem own_cap {w : World} {b e size n c : Nat} {A : Option Addr} {xs : List Value} (h : w.ownsRow b e size (.slice A n c) n xs) : n ≤ c := by
  obtain ⟨A', c', e, hc, -⟩ := owns_nil h
  injection e with _ _ e2
  subst e2
  exact hc
theorem own_head {w : World} {b e size n c : Nat} {A : Option Addr} {xs : List Value} (h : w.ownsRow b e size (.slice A n c) n xs) (hn : 0 < n) : ∃ g, A = some ⟨g, 0, none⟩ := by
  obtain ⟨g, c', e, -⟩ := owns_some h hn
  injection e with e _ _
  exact ⟨g, e⟩
end Go.Proofs.Ythneapnijfmpmaa
