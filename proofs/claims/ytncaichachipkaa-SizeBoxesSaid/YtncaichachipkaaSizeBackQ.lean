import Derived.Test.YtncaichachipkaaSizePartsQ
import Derived.Test.YtncaichachipkaaZQ
/- size.content. -/
namespace Go.Proofs.Ytncaichachipkaa
open Go Go.RowKit
set_option linter.unusedVariables false
set_option linter.unusedSimpArgs false
set_option maxRecDepth 20000
set_option maxHeartbeats 4000000

mutual
/-- Texts that are not too long, in a box and all in it. -/
def FineB (zs : List Int) : Bx → Prop
  | .mk k _ _ kids rs => (k = 2 → FineR zs rs) ∧ FinesB zs kids
def FinesB (zs : List Int) : List Bx → Prop
  | [] => True
  | b :: r => FineB zs b ∧ FinesB zs r
end
theorem FinesB.mem {zs : List Int} : ∀ {l : List Bx}, FinesB zs l → ∀ b ∈ l, FineB zs b
  | x :: l, h, b, hb => by
    rw [FinesB] at h
    rcases List.mem_cons.1 hb with rfl | hb
    · exact h.1
    · exact FinesB.mem h.2 b hb
theorem FineB.runs {zs : List Int} {b : Bx} (h : FineB zs b) : b.k = 2 → FineR zs b.runs := by
  cases b with
  | mk k nd st kids rs => rw [FineB] at h; exact h.1
theorem FineB.kds {zs : List Int} {b : Bx} (h : FineB zs b) : ∀ c ∈ b.kds, FineB zs c := by
  cases b with
  | mk k nd st kids rs =>
    rw [FineB] at h
    intro c hc
    have hc' : c ∈ kdsZ k kids := hc
    unfold kdsZ at hc'
    split at hc'
    · exact h.2.mem c hc'
    · simp at hc'
theorem Bfs.mem {b : Bx} {T : List Pt} (h : Bfs b (T.length + 1) T) (j : Nat) (hj : j < T.length) : T[j].bx ∈ (bxAt b T T[j].in_).kds := by
  have hu := h.up j hj
  rw [← h.kids T[j].in_ (by omega)]
  exact List.mem_map.2 ⟨T[j], List.mem_filter.2 ⟨List.getElem_mem hj, by simp⟩, rfl⟩
theorem Bfs.all {b : Bx} {T : List Pt} (h : Bfs b (T.length + 1) T) (Q : Bx → Prop) (h0 : Q b) (hk : ∀ x, Q x → ∀ c ∈ x.kds, Q c) : ∀ n k, k ≤ n → k ≤ T.length → Q (bxAt b T k)
  | 0, 0, _, _ => h0
  | 0, k + 1, hk0, _ => absurd hk0 (by omega)
  | n + 1, k, hkn, hkT => by
    cases k with
    | zero => exact h0
    | succ k =>
      rw [bxAt_succ b T k (by omega)]
      have hu := h.up k (by omega)
      exact hk _ (h.all Q h0 hk n T[k].in_ (by omega) (by omega)) _ (h.mem k (by omega))

/-- A part with what it has taken. -/
abbrev Tk := Pt × Int × Int
def tkC (x : Tk) : List Value := ptC x.1 x.2.1 x.2.2
theorem tkC_len (x : Tk) : (tkC x).length = 5 := rfl
def ptAt (b : Bx) (g q : Nat) (T : List Pt) (k : Nat) : Pt := (((⟨b, g, q, 0⟩ : Pt) :: T)[k]?).getD ⟨b, g, q, 0⟩
theorem ptAt_bx (b : Bx) (g q : Nat) (T : List Pt) (k : Nat) (h : k ≤ T.length) : (ptAt b g q T k).bx = bxAt b T k := by
  cases k with
  | zero => rfl
  | succ k => rw [bxAt_succ b T k h]; simp [ptAt, List.getElem?_eq_getElem (show k < T.length from h)]
theorem ptAt_succ (b : Bx) (g q : Nat) (T : List Pt) (k : Nat) (h : k < T.length) : ptAt b g q T (k + 1) = T[k] := by simp [ptAt, h]
section
variable (zs : List Int) (least : Bool) (b : Bx) (g q : Nat) (T : List Pt)
def tkAt (i k : Nat) : Tk := (ptAt b g q T k, (accP zs least T i k).sum, (accP zs least T i k).foldr max 0)
def tks (i : Nat) : List Tk := (List.range (T.length + 1)).map (tkAt zs least b g q T i)
theorem tks_length (i : Nat) : (tks zs least b g q T i).length = T.length + 1 := by simp [tks]
theorem tks_get (i k : Nat) (h : k < (tks zs least b g q T i).length) : (tks zs least b g q T i)[k] = tkAt zs least b g q T i k := by simp [tks]
theorem tks_end : (tks zs least b g q T T.length).flatMap tkC = ((⟨b, g, q, 0⟩ : Pt) :: T).flatMap ptC0 := by
  have h : ((⟨b, g, q, 0⟩ : Pt) :: T) = (List.range (T.length + 1)).map (ptAt b g q T) := by
    refine List.ext_getElem (by simp) fun i h1 h2 => ?_
    rw [List.getElem_map, List.getElem_range]
    simp only [ptAt, List.getElem?_eq_getElem h1, Option.getD_some]
  rw [h]
  unfold tks
  rw [List.flatMap_map, List.flatMap_map]
  refine congrArg (fun f => List.flatMap f _) (funext fun k => ?_)
  show ptC (ptAt b g q T k) (accP zs least T T.length k).sum ((accP zs least T T.length k).foldr max 0) = ptC (ptAt b g q T k) 0 0
  rw [accP_end]; rfl
theorem tks_step (i : Nat) (h : i < T.length) (hu : T[i].in_ < T.length + 1) :
    tks zs least b g q T i = (tks zs least b g q T (i + 1)).set T[i].in_ (ptAt b g q T T[i].in_, (accP zs least T (i + 1) T[i].in_).sum + ouP zs least T[i], max ((accP zs least T (i + 1) T[i].in_).foldr max 0) (ouP zs least T[i])) := by
  refine List.ext_getElem (by simp [tks]) fun k h1 h2 => ?_
  rw [tks_get, List.getElem_set]
  unfold tkAt
  rw [accP_step zs least T i k h]
  by_cases e : T[i].in_ = k
  · subst e
    rw [if_pos rfl, if_pos rfl]
    simp only [List.sum_cons, List.foldr_cons]
    rw [Int.add_comm, Int.max_comm]
  · rw [if_neg e, if_neg e, tks_get]; rfl
end
/-- Parts on the way back. -/
structure CoSt (W w : World) (zs : List Int) (least : Bool) (b : Bx) (g q : Nat) (T : List Pt) (gl c i : Nat) : Prop where
  own : w.ownsRow W.heap.size 67 5 (.slice (some ⟨gl, 0, none⟩) (T.length + 1) c) (T.length + 1) ((tks zs least b g q T i).flatMap tkC)
  low : Below W.heap.size W w
section
variable {W w w' : World} {zs : List Int} {least : Bool} {b : Bx} {g q : Nat} {T : List Pt} {gl c i : Nat}
theorem CoSt.behind (h : CoSt W w zs least b g q T gl c i) (hb : Below w.heap.size w w') : CoSt W w' zs least b g q T gl c i :=
  ⟨own_below h.own hb (Nat.le_refl _), h.low.trans (hb.mono h.low.size)⟩
theorem CoSt.range (h : CoSt W w zs least b g q T gl c i) (k : Nat) (hk : k < T.length + 1) : w.rangeAt gl (k * 5) (ptC (ptAt b g q T k) (accP zs least T i k).sum ((accP zs least T i k).foldr max 0)) := by
  have := own_range tkC_len h.own k (by rw [tks_length]; exact hk)
  rw [tks_get] at this
  exact this
theorem CoSt.far (h : CoSt W w zs least b g q T gl c i) : W.heap.size ≤ gl ∧ gl < w.heap.size := by
  have := h.own.lt gl rfl
  exact this
theorem CoSt.added (h : CoSt W w zs least b g q T gl c (i + 1)) (hi : i < T.length) (hu : T[i].in_ < T.length + 1) {e : Ending}
    (ha : AddPost w gl (T[i].in_ * 5) ((accP zs least T (i + 1) T[i].in_).sum + ouP zs least T[i]) (max ((accP zs least T (i + 1) T[i].in_).foldr max 0) (ouP zs least T[i])) e w') : CoSt W w' zs least b g q T gl c i := by
  obtain ⟨-, w1, hb, rfl⟩ := ha
  have h1 := h.behind hb
  have hf := h1.far.1
  have s0 := h1.own
  refine ⟨?_, ((h1.low.setCell (p := ⟨gl, T[i].in_ * 5 + 2, none⟩) hf _).setCell (p := ⟨gl, T[i].in_ * 5 + 3, none⟩) hf _).setCell (p := ⟨gl, T[i].in_ * 5 + 4, none⟩) hf _⟩
  rw [tks_step zs least b g q T i hi hu]
  have hk : T[i].in_ < (tks zs least b g q T (i + 1)).length := by rw [tks_length]; exact hu
  have hg := tks_get zs least b g q T (i + 1) T[i].in_ hk
  generalize tks zs least b g q T (i + 1) = L at *
  generalize (accP zs least T (i + 1) T[i].in_).sum + ouP zs least T[i] = s' at *
  generalize hm : max ((accP zs least T (i + 1) T[i].in_).foldr max 0) (ouP zs least T[i]) = m' at *
  clear hm
  have s1 := (s0.stored (T[i].in_ * 5 + 2) (.int .i64 (tH s'))).1
  have s2 := (s1.stored (T[i].in_ * 5 + 3) (.int .u64 (tL s'))).1
  have s3 := (s2.stored (T[i].in_ * 5 + 4) (.int .i64 m')).1
  have e : (((L.flatMap tkC).set (T[i].in_ * 5 + 2) (.int .i64 (tH s'))).set (T[i].in_ * 5 + 3) (.int .u64 (tL s'))).set (T[i].in_ * 5 + 4) (.int .i64 m') = (L.set T[i].in_ (ptAt b g q T T[i].in_, s', m')).flatMap tkC := by
    generalize T[i].in_ = k at *
    have rec_three : ∀ (L : List Tk) (k : Nat) (hk : k < L.length) (p : Pt) (s m s' m' : Int), L[k] = (p, s, m) →
        (((L.flatMap tkC).set (k * 5 + 2) (.int .i64 (tH s'))).set (k * 5 + 3) (.int .u64 (tL s'))).set (k * 5 + 4) (.int .i64 m') = (L.set k (p, s', m')).flatMap tkC := by
      intro L
      induction L with
      | nil => intro k hk; simp at hk
      | cons x L ih =>
        intro k hk p s m s' m' hx
        cases k with
        | zero =>
          simp only [List.getElem_cons_zero] at hx
          subst hx
          simp [List.flatMap_cons, tkC, ptC]
        | succ k =>
          simp only [List.getElem_cons_succ] at hx
          have := ih k (by simpa using hk) p s m s' m' hx
          simp only [List.flatMap_cons, List.set_cons_succ]
          rw [← this, List.set_append_right _ _ (by rw [tkC_len]; omega), List.set_append_right _ _ (by rw [tkC_len]; omega), List.set_append_right _ _ (by rw [tkC_len]; omega), tkC_len]
          rw [show (k + 1) * 5 + 2 - 5 = k * 5 + 2 by omega, show (k + 1) * 5 + 3 - 5 = k * 5 + 3 by omega, show (k + 1) * 5 + 4 - 5 = k * 5 + 4 by omega]
    exact rec_three L k hk _ _ _ s' m' hg
  rw [e] at s3
  exact s3
end
end Go.Proofs.Ytncaichachipkaa
