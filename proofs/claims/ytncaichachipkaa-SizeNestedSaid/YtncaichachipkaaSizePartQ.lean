import Derived.Test.YtncaichachipkaaSizeOuterQ
import Derived.Test.YtncaichachipkaaWhitCQ
import Derived.Test.YtncaichachipkaaBrkWideQ
/- A part of a box: its kids, what it takes, its content. -/
namespace Go.Proofs.Ytncaichachipkaa
open Go Go.RowKit
set_option linter.unusedVariables false
set_option linter.unusedSimpArgs false
set_option maxRecDepth 20000
set_option maxHeartbeats 4000000

def ptC (p : Pt) (s gr : Int) : List Value := [.pointer (some ⟨p.g, p.q, none⟩), .int .i64 p.in_, .int .i64 (tH s), .int .u64 (tL s), .int .i64 gr]
def FineR (zs : List Int) (rs : List Rn) : Prop := rs.length ≤ 4611686018427387904 ∧ sizeAll rs ≤ 100000 ∧ FineG (glyphsL zs rs)
def KidsPost (W : World) (S : Nat → Prop) (b : Bx) (e : Ending) (w' : World) : Prop := W = w' ∧ ∃ A c, e = .returned (.slice A b.kds.length c) ∧ BoxesAt W S b.kds A
theorem part_cells {w : World} {g q : Nat} {p : Pt} {s gr : Int} (h : w.rangeAt g q (ptC p s gr)) :
    w.cell? ⟨g, q, none⟩ = some (.pointer (some ⟨p.g, p.q, none⟩)) ∧ w.cell? ⟨g, q + 1, none⟩ = some (.int .i64 p.in_) ∧ w.cell? ⟨g, q + 2, none⟩ = some (.int .i64 (tH s)) ∧ w.cell? ⟨g, q + 3, none⟩ = some (.int .u64 (tL s)) ∧ w.cell? ⟨g, q + 4, none⟩ = some (.int .i64 gr) :=
  ⟨h 0 _ rfl, h 1 _ rfl, h 2 _ rfl, h 3 _ rfl, h 4 _ rfl⟩
theorem kids_any (p : Pt) (s gr : Int) (S : Nat → Prop) (g q : Nat) (W : World) (hp : W.rangeAt g q (ptC p s gr)) (hb : BoxAt W S p.bx p.g p.q) :
    Calls Try.prog 25 #[.pointer (some ⟨g, q, none⟩)] W (KidsPost W S p.bx) := by
  obtain ⟨c0, -, -, -, -⟩ := part_cells hp
  obtain ⟨d0, -, -, -, ⟨A, c, d45, hK⟩, -⟩ := hb.cells
  have HK := Lib.hid hK
  have E := Lib.hid (show p.bx.kds = kdsZ p.bx.k p.bx.kids from rfl)
  clear hp hb hK
  generalize p.g = bg at *
  generalize p.q = bq at *
  unfold KidsPost
  generalize p.bx.kds = kd at *
  generalize p.bx.k = k at *
  generalize p.bx.kids = ks at *
  by_cases h1 : k = 1
  · subst h1
    have F : Hid (∃ A' c', Ending.returned (.slice A ks.length c) = .returned (.slice A' kd.length c') ∧ BoxesAt W S kd A') := Lib.hid ⟨A, c, by rw [E.out, kdsZ, if_pos (.inl rfl)], by rw [E.out, kdsZ, if_pos (.inl rfl)]; exact HK.out⟩
    clear E HK
    go_enter Try.func25, Try.ntmps25
    go_wp2
    go_ret
    exact ⟨rfl, F.out⟩
  · have b1 : (k == 1) = false := by rw [beq_eq_false_iff_ne]; exact h1
    by_cases h3 : k = 3
    · subst h3
      have F : Hid (∃ A' c', Ending.returned (.slice A ks.length c) = .returned (.slice A' kd.length c') ∧ BoxesAt W S kd A') := Lib.hid ⟨A, c, by rw [E.out, kdsZ, if_pos (.inr rfl)], by rw [E.out, kdsZ, if_pos (.inr rfl)]; exact HK.out⟩
      clear E HK
      go_enter Try.func25, Try.ntmps25
      go_wp2
      go_ret
      exact ⟨rfl, F.out⟩
    · have b3 : (k == 3) = false := by rw [beq_eq_false_iff_ne]; exact h3
      have F : Hid (∃ A' c', Ending.returned (.slice none 0 0) = .returned (.slice A' kd.length c') ∧ BoxesAt W S kd A') := Lib.hid ⟨none, 0, by rw [E.out, kdsZ, if_neg (by omega)]; rfl, by rw [E.out, kdsZ, if_neg (by omega), BoxesAt]; trivial⟩
      clear E HK h1 h3
      go_enter Try.func25, Try.ntmps25
      go_wp2
      go_ret
      exact ⟨rfl, F.out⟩
theorem isRow_any (p : Pt) (s gr : Int) (S : Nat → Prop) (least : Bool) (g q : Nat) (W : World) (hp : W.rangeAt g q (ptC p s gr)) (hb : BoxAt W S p.bx p.g p.q) :
    Calls Try.prog 29 #[.pointer (some ⟨g, q, none⟩), .bool least] W fun e w' => e = .returned (.bool (rowZ p.bx.k p.bx.st least)) ∧ W = w' := by
  obtain ⟨c0, -, -, -, -⟩ := part_cells hp
  obtain ⟨d0, hl, -, hS, -, -⟩ := hb.cells
  have e1 : W.cell? ⟨p.g, p.q + 3, none⟩ = some (.int .i64 (p.bx.st.getD 1 0)) := style_num hS 1 (by omega)
  have e2 : W.cell? ⟨p.g, p.q + 4, none⟩ = some (.int .i64 (p.bx.st.getD 2 0)) := style_num hS 2 (by omega)
  have E := Lib.hid (show rowZ p.bx.k p.bx.st least = decide (p.bx.k = 3 ∧ p.bx.st.getD 1 0 ≠ 2 ∧ p.bx.st.getD 1 0 ≠ 3 ∧ (least = false ∨ p.bx.st.getD 2 0 = 0)) from rfl)
  clear hp hb hS
  generalize p.g = bg at *
  generalize p.q = bq at *
  generalize rowZ p.bx.k p.bx.st least = r at *
  generalize p.bx.k = k at *
  generalize p.bx.st.getD 1 0 = z1 at *
  generalize p.bx.st.getD 2 0 = z2 at *
  clear hl
  by_cases h3 : k = 3
  · subst h3
    have b0 : ((3 : Int) != 3) = false := rfl
    by_cases h1 : z1 = 2
    · subst h1
      have F := Lib.hid (show r = false by rw [E.out]; simp)
      clear E
      go_enter Try.func29, Try.ntmps29
      go_wp2
      go_ret
      exact ⟨ret_bool F.out.symm, rfl⟩
    · have b1 : (z1 == 2) = false := by rw [beq_eq_false_iff_ne]; exact h1
      by_cases h2 : z1 = 3
      · subst h2
        have F := Lib.hid (show r = false by rw [E.out]; simp)
        clear E
        go_enter Try.func29, Try.ntmps29
        go_wp2
        go_ret
        exact ⟨ret_bool F.out.symm, rfl⟩
      · have b2 : (z1 == 3) = false := by rw [beq_eq_false_iff_ne]; exact h2
        cases least
        · have F := Lib.hid (show r = true by rw [E.out]; simp [h1, h2])
          clear E h1 h2
          go_enter Try.func29, Try.ntmps29
          go_wp2
          go_ret
          exact ⟨ret_bool F.out.symm, rfl⟩
        · have F := Lib.hid (show r = (z2 == 0) by rw [E.out]; simp [h1, h2]; by_cases h0 : z2 = 0 <;> simp [h0])
          clear E h1 h2
          generalize hv : (z2 == 0) = v at *
          go_enter Try.func29, Try.ntmps29
          go_wp2
          go_ret
          exact ⟨ret_bool F.out.symm, rfl⟩
  · have b0 : (k != 3) = true := by rw [bne_iff_ne]; exact h3
    have F := Lib.hid (show r = false by rw [E.out]; simp [h3])
    clear E h3
    go_enter Try.func29, Try.ntmps29
    go_wp2
    go_ret
    exact ⟨ret_bool F.out.symm, rfl⟩
end Go.Proofs.Ytncaichachipkaa
