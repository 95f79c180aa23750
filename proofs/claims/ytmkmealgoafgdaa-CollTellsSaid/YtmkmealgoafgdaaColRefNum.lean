import Derived.Test.YtmkmealgoafgdaaCollNum
/- Lines of items one by one. No program is named here. -/
namespace Go.Proofs.Ytmkmealgoafgdaa
set_option linter.unusedVariables false
set_option linter.unusedSimpArgs false

def ColAt (inner : Int) (wrap : Bool) (l : List Int) (i : Nat) (n : Int) (cur : List (Nat × Nat)) : Prop :=
  (i = 0 ∧ cur = [] ∧ n = 0) ∨ (0 < i ∧ ∃ done fr, cur = done ++ [(fr, i)] ∧ done ++ colL inner wrap (l.drop i) i n fr = linesZ inner wrap l 0)
theorem ColAt.more {inner : Int} {wrap : Bool} {l : List Int} {i : Nat} {n : Int} {cur : List (Nat × Nat)} (h : ColAt inner wrap l i n cur) (hi : i < l.length) (hb : i = 0 ∨ (wrap = true ∧ inner < n + l[i])) : ColAt inner wrap l (i + 1) (0 + l[i]) (cur ++ [(i, i + 1)]) := by
  refine .inr ⟨by omega, cur, i, rfl, ?_⟩
  rw [Int.zero_add]
  rcases h with ⟨rfl, rfl, rfl⟩ | ⟨h0, done, fr, rfl, e⟩
  · cases l with
    | nil => simp at hi
    | cons x r => rfl
  · have hb := hb.resolve_left (by omega)
    rw [List.drop_eq_getElem_cons hi] at e
    unfold colL at e
    rw [if_pos hb] at e
    rw [List.append_assoc]
    exact e
theorem ColAt.same {inner : Int} {wrap : Bool} {l : List Int} {i : Nat} {n : Int} {cur : List (Nat × Nat)} (h : ColAt inner wrap l i n cur) (hi : i < l.length) (hb : ¬ (i = 0 ∨ (wrap = true ∧ inner < n + l[i]))) : ∃ done fr, cur = done ++ [(fr, i)] ∧ ColAt inner wrap l (i + 1) (n + l[i]) (done ++ [(fr, i + 1)]) := by
  rcases h with ⟨rfl, rfl, rfl⟩ | ⟨h0, done, fr, rfl, e⟩
  · exact absurd (.inl rfl) hb
  · refine ⟨done, fr, rfl, .inr ⟨by omega, done, fr, rfl, ?_⟩⟩
    rw [List.drop_eq_getElem_cons hi] at e
    unfold colL at e
    rw [if_neg (fun h => hb (.inr h))] at e
    exact e
theorem ColAt.fin {inner : Int} {wrap : Bool} {l : List Int} {n : Int} {cur : List (Nat × Nat)} (h : ColAt inner wrap l l.length n cur) : cur = linesZ inner wrap l 0 := by
  rcases h with ⟨h0, rfl, rfl⟩ | ⟨h0, done, fr, rfl, e⟩
  · rw [List.eq_nil_of_length_eq_zero h0]; rfl
  · rw [List.drop_length] at e; exact e
theorem ColAt.len {inner : Int} {wrap : Bool} {l : List Int} {i : Nat} {n : Int} {cur : List (Nat × Nat)} (h : ColAt inner wrap l i n cur) : cur.length ≤ l.length := by
  rcases h with ⟨rfl, rfl, rfl⟩ | ⟨h0, done, fr, rfl, e⟩
  · simp
  · have := congrArg List.length e
    have h2 := linesZ_len inner wrap l 0
    have h3 := colL_pos inner wrap (l.drop i) i n fr
    simp at this ⊢
    omega
end Go.Proofs.Ytmkmealgoafgdaa
