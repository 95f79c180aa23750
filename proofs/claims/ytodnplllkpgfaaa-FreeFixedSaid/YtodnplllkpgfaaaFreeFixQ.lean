import Derived.Test.YtodnplllkpgfaaaZQ
/- Free space among items, one of them without a factor. No program is named here. -/
namespace Go.Proofs.Ytodnplllkpgfaaa
open Go.RowKit
set_option linter.unusedVariables false
set_option linter.unusedSimpArgs false

theorem openI_append (A B : List It) : openI (A ++ B) = openI A + openI B := by simp [openI]
theorem putI_append : ∀ (A B : List It) (ps : List Int), putI (A ++ B) ps = putI A ps ++ putI B (ps.drop (openI A))
  | [], B, ps => by simp [putI, openI]
  | i :: r, B, ps => by
    rw [List.cons_append]
    by_cases h : i.fz = true
    · have e1 : putI (i :: (r ++ B)) ps = (i, i.s) :: putI (r ++ B) ps := by rw [putI, if_pos h]
      have e2 : putI (i :: r) ps = (i, i.s) :: putI r ps := by rw [putI, if_pos h]
      rw [e1, e2, putI_append r B ps, openI_cons, if_pos h]; rfl
    · have e1 : putI (i :: (r ++ B)) ps = (⟨i.x, clF i.x (i.x.base + ps.headD 0), false⟩, i.x.base + ps.headD 0) :: putI (r ++ B) ps.tail := by rw [putI, if_neg h]
      have e2 : putI (i :: r) ps = (⟨i.x, clF i.x (i.x.base + ps.headD 0), false⟩, i.x.base + ps.headD 0) :: putI r ps.tail := by rw [putI, if_neg h]
      rw [e1, e2, putI_append r B ps.tail, openI_cons, if_neg h]
      rw [← List.drop_one, List.drop_drop, Nat.add_comm 1 (openI r)]; rfl
theorem runI_stop (g : Bool) (inner : Int) : ∀ (k : Nat) (l : List It), openI l ≤ k → runI g inner (k + 1) l = runI g inner k l
  | 0, l, h => by
    unfold runI
    rw [if_pos (by omega)]
  | k + 1, l, h => by
    rw [runI]
    conv => rhs; rw [runI]
    by_cases h0 : openI l = 0
    · rw [if_pos h0, if_pos h0]
    · rw [if_neg h0, if_neg h0]
      have := round_open (g := g) (inner := inner) h0
      exact runI_stop g inner k _ (by omega)
/-- An item without a factor, as great as f. -/
def fixX (f : Int) : Fx := ⟨f, f, f, 0, 0, 0⟩
theorem fix_hyp {f : Int} (h : 0 ≤ f) : hypF (fixX f) = f := by unfold hypF clF fixX; simp only; rw [if_pos h]; omega
theorem fix_round (g : Bool) (inner f : Int) (A B : List It) : ∃ A' B' : List It, roundI g inner (A ++ B) = A' ++ B' ∧ A'.length = A.length ∧ roundI g (inner + f) (A ++ ⟨fixX f, f, true⟩ :: B) = A' ++ ⟨fixX f, f, true⟩ :: B' := by
  have hfree : freeI (inner + f) (A ++ ⟨fixX f, f, true⟩ :: B) = freeI inner (A ++ B) := by
    unfold freeI
    simp only [List.map_append, List.map_cons, List.sum_append, List.sum_cons]
    show inner + f - (_ + (0 + f + _)) = _
    omega
  have hleft : leftI g (inner + f) (A ++ ⟨fixX f, f, true⟩ :: B) = leftI g inner (A ++ B) := by unfold leftI; rw [hfree]
  have hws : wtsI g (A ++ ⟨fixX f, f, true⟩ :: B) = wtsI g (A ++ B) := by unfold wtsI; simp
  unfold roundI
  rw [hleft, hws]
  generalize shareZ (leftI g inner (A ++ B)) (wtsI g (A ++ B)) = ps
  have e1 : putI (A ++ ⟨fixX f, f, true⟩ :: B) ps = putI A ps ++ ((⟨fixX f, f, true⟩ : It), f) :: putI B (ps.drop (openI A)) := by
    rw [putI_append]
    congr 1
  have e2 := putI_append A B ps
  have ho : overI (putI A ps ++ ((⟨fixX f, f, true⟩ : It), f) :: putI B (ps.drop (openI A))) = overI (putI A ps ++ putI B (ps.drop (openI A))) := by
    unfold overI
    simp only [List.map_append, List.map_cons, List.sum_append, List.sum_cons]
    omega
  rw [e1, e2]
  simp only [ho]
  refine ⟨(putI A ps).map (stopI (overI (putI A ps ++ putI B (ps.drop (openI A))))), (putI B (ps.drop (openI A))).map (stopI (overI (putI A ps ++ putI B (ps.drop (openI A))))), by rw [List.map_append], by rw [List.length_map, putI_len], ?_⟩
  rw [List.map_append, List.map_cons]
  simp [stopI]
theorem fix_run (g : Bool) (inner f : Int) : ∀ (k : Nat) (A B : List It), ∃ A' B' : List It, runI g inner k (A ++ B) = A' ++ B' ∧ A'.length = A.length ∧ runI g (inner + f) k (A ++ ⟨fixX f, f, true⟩ :: B) = A' ++ ⟨fixX f, f, true⟩ :: B'
  | 0, A, B => ⟨A, B, rfl, rfl, rfl⟩
  | k + 1, A, B => by
    have ho : openI (A ++ ⟨fixX f, f, true⟩ :: B) = openI (A ++ B) := by rw [openI_append, openI_append, openI_cons, if_pos rfl]
    unfold runI
    rw [ho]
    by_cases h0 : openI (A ++ B) = 0
    · rw [if_pos h0, if_pos h0]; exact ⟨A, B, rfl, rfl, rfl⟩
    · rw [if_neg h0, if_neg h0]
      obtain ⟨A1, B1, e1, e2, e3⟩ := fix_round g inner f A B
      rw [e1, e3]
      obtain ⟨A2, B2, e4, e5, e6⟩ := fix_run g inner f k A1 B1
      exact ⟨A2, B2, e4, e5.trans e2, e6⟩
/-- The others share as if it were not there, and so much less room. -/
theorem fix_sizes {inner f : Int} (hf : 0 ≤ f) (A B : List Fx) : sizesF (inner + f) (A ++ fixX f :: B) = (sizesF inner (A ++ B)).take A.length ++ f :: (sizesF inner (A ++ B)).drop A.length := by
  have hg : growsF (inner + f) (A ++ fixX f :: B) = growsF inner (A ++ B) := by
    unfold growsF
    rw [decide_eq_decide]
    simp only [List.map_append, List.map_cons, List.sum_append, List.sum_cons]
    rw [fix_hyp hf]
    show _ + (f + 0 + _) < _ ↔ _
    omega
  unfold sizesF
  rw [hg]
  generalize growsF inner (A ++ B) = g
  have hs : startI g (fixX f) = ⟨fixX f, f, true⟩ := by
    unfold startI
    rw [fix_hyp hf]
    cases g <;> simp [fixX]
  have hm : (A ++ fixX f :: B).map (startI g) = A.map (startI g) ++ ⟨fixX f, f, true⟩ :: B.map (startI g) := by rw [List.map_append, List.map_cons, hs]
  have hl : (A ++ fixX f :: B).length = (A ++ B).length + 1 := by simp; omega
  have ho : openI (A.map (startI g) ++ ⟨fixX f, f, true⟩ :: B.map (startI g)) ≤ (A ++ B).length := by
    rw [openI_append, openI_cons, if_pos rfl]
    have h1 := open_le (A.map (startI g))
    have h2 := open_le (B.map (startI g))
    simp at h1 h2 ⊢
    omega
  rw [hm, hl, runI_stop _ _ _ _ ho, List.map_append]
  obtain ⟨A', B', e1, e2, e3⟩ := fix_run g inner f (A ++ B).length (A.map (startI g)) (B.map (startI g))
  rw [e1, e3]
  have e4 : (A'.map It.s).length = A.length := by rw [List.length_map, e2, List.length_map]
  rw [List.map_append, List.map_append, List.map_cons, ← e4, List.take_left, List.drop_left]
end Go.Proofs.Ytodnplllkpgfaaa
