import Derived.Test.YtjhmdflagkenbaaOneQ
/- quoinlaw4.Text: some text of at most 1300 bytes; and what the document's Parse answers of any text. -/
namespace Go.Proofs.Ytjhmdflagkenbaa
open Go Go.RowKit
set_option linter.unusedVariables false
set_option linter.unusedSimpArgs false
set_option maxRecDepth 20000
set_option maxHeartbeats 8000000

theorem Only.rowAt {S : List Nat} {w w' : World} {B : Nat} {A : Option Addr} {xs : List Value} (h : Only S w w') (hr : Row w B A xs) (hB : B ≤ w.heap.size) (hn : ∀ a, A = some a → a.block ∉ S) : Row w' B A xs := fun hne => by
  obtain ⟨a, e, hb, hc⟩ := hr hne
  exact ⟨a, e, hb, fun i hi => (h.cell (by rw [add_block]; omega) (by rw [add_block]; exact hn a e)).trans (hc i hi)⟩
/-- Some row of declarations, a place, an error. -/
def ParseAny (W : World) (e : Ending) (w' : World) : Prop := ∃ (ds : List Dc) (A : Option Addr) (c : Nat) (x y : Int), e = .returned (.tuple #[.slice A ds.length c, .int .i64 x, .int .i64 y]) ∧ Row w' w'.heap.size A (i64s (dCells ds)) ∧ ds.length ≤ 4611686018427387904 ∧ Below W.heap.size W w' ∧ ∀ a, A = some a → W.heap.size ≤ a.block
theorem parseFrom_length (l : List UInt8) : ∀ (f a : Nat) (out ds : List Dc), parseFrom l f a out = .ok ds → ds.length ≤ out.length + f := by
  intro f
  induction f with
  | zero => intro a out ds h; simp only [parseFrom] at h; injection h with h; subst h; omega
  | succ f ih =>
    intro a out ds h
    rw [parseFrom] at h
    split at h
    · split at h
      · cases h
      · have := ih _ _ _ h
        rw [List.length_append, List.length_singleton] at this
        omega
    · injection h with h
      subst h
      omega
theorem parseR_length (l : List UInt8) (ds : List Dc) (h : parseR l = .ok ds) : ds.length ≤ 2001 := by
  unfold parseR at h
  split at h
  · cases h
  · have := parseFrom_length _ _ _ _ _ h
    simp only [List.length_nil] at this
    omega
theorem parse_any (s : ByteArray) (W : World) : Calls Try.prog 24 #[.string s] W fun e w' => ParseAny W e w' := by
  refine (rparse_any s W).mono fun e w' h => ?_
  have hl := parseR_length (bytesOf s)
  unfold ParsePost at h
  split at h
  · exact ⟨[], none, 0, _, _, h.1, Row.nil _ _ _, by simp, h.2, fun a e => by cases e⟩
  · rename_i ds hr
    obtain ⟨A, c, he, ho, hb⟩ := h
    have := hl ds hr
    refine ⟨_, A, c, _, _, he, row_of_own ho, by omega, hb, fun a e => ?_⟩
    subst e
    exact (ho.lt a.block rfl).1
theorem text_any (zs : List Int) (A : Option Addr) (c : Nat) (right : Bool) (W : World) (hR : Row W W.heap.size A (i64s zs)) (hm : zs.length ≤ 9223372036854775807) :
    Calls Try.prog 25 #[.slice A zs.length c, .bool right] W fun e w' => ∃ s : ByteArray, e = .returned (.string s) ∧ s.size ≤ 1300 ∧ Below W.heap.size W w' := by
  have HR := Lib.hid hR
  clear hR
  go_enter Try.func25, Try.ntmps25
  go_wp2
  go_loopw [5, 6] (fun s i wr => ∃ (k : Nat) (t : ByteArray), k ≤ zs.length ∧ k ≤ 20 ∧ i = .int .i64 k ∧ s = .string t ∧ t.size ≤ 65 * k ∧ Below W.heap.size W wr) (fun _ i _ => 20 - (intOf i).toNat)
  case atStart => exact ⟨0, ByteArray.empty, Nat.zero_le _, by omega, rfl, rfl, by decide, Below.refl _ _⟩
  case round =>
    obtain ⟨k, t, hk, hk20, rfl, rfl, ht, hB⟩ := hrel
    have HB := Lib.hid hB
    clear hB
    by_cases hlt : k < zs.length ∧ k < 20
    · obtain ⟨hlt, hlt2⟩ := hlt
      have hz0 : W.heap.size ≤ wr.heap.size := HB.out.size
      obtain ⟨ad, rfl, hb, hc⟩ := (HR.out.below HB.out).int hlt
      generalize zs[k] = z at *
      go_wp2_with fail
      refine (one_any z _).mono ?_
      rintro e w1 ⟨t1, rfl, h1, b1⟩
      have HB1 := Lib.hid (HB.out.trans (b1.mono hz0))
      clear b1 hc
      go_wp2_with fail
      refine (parse_any t1 _).mono ?_
      rintro e w2 ⟨ds, A2, c2, x2, y2, rfl, -, -, b2, -⟩
      have HB2 := Lib.hid (HB1.out.trans (b2.mono HB1.out.size))
      clear b2 HB1
      have hs1 : (t ++ ⟨#[59]⟩).size ≤ 65 * k + 1 := by rw [ByteArray.size_append]; have : (⟨#[59]⟩ : ByteArray).size = 1 := rfl; omega
      have hs2 : (t ++ t1).size ≤ 65 * (k + 1) := by rw [ByteArray.size_append]; omega
      have hs3 : (t ++ ⟨#[59]⟩ ++ t1).size ≤ 65 * (k + 1) := by rw [ByteArray.size_append]; omega
      have HS2 := Lib.hid hs2
      have HS3 := Lib.hid hs3
      clear hs2 hs3
      have h0 : t.size ≤ 65 * (k + 1) := by omega
      cases right
      · go_wp2_with fail
        all_goals go_roundw
        all_goals first
          | (case measure => simp [intOf]; omega)
          | (case rel => first | exact ⟨k + 1, _, by omega, by omega, by go_num, rfl, HS3.out, HB2.out⟩ | exact ⟨k + 1, _, by omega, by omega, by go_num, rfl, HS2.out, HB2.out⟩)
      · by_cases hy : y2 = 0
        · subst hy
          go_wp2_with fail
          all_goals go_roundw
          all_goals first
            | (case measure => simp [intOf]; omega)
            | (case rel => first | exact ⟨k + 1, _, by omega, by omega, by go_num, rfl, HS3.out, HB2.out⟩ | exact ⟨k + 1, _, by omega, by omega, by go_num, rfl, HS2.out, HB2.out⟩)
        · go_wp2_with fail
          all_goals go_roundw
          all_goals first
            | (case measure => simp [intOf]; omega)
            | (case rel => exact ⟨k + 1, _, by omega, by omega, by go_num, rfl, h0, HB2.out⟩)
    · by_cases h1 : k < zs.length
      · have h2 : ¬ (k : Int) < 20 := by omega
        go_wp2_with fail
        go_ret
        exact ⟨_, rfl, by omega, HB.out⟩
      · go_wp2_with fail
        go_ret
        exact ⟨_, rfl, by omega, HB.out⟩
end Go.Proofs.Ytjhmdflagkenbaa
