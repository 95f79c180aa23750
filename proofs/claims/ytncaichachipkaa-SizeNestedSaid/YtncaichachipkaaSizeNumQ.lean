import Derived.Test.YtncaichachipkaaTotalQ
import Derived.Test.YtncaichachipkaaSizeBndQ
import Derived.Test.YtncaichachipkaaWideNumQ
import Derived.Test.YtncaichachipkaaZQ
/- How wide boxes are: numbers. No program is named here. -/
namespace Go.Proofs.Ytncaichachipkaa
open Go Go.RowKit
set_option linter.unusedVariables false
set_option linter.unusedSimpArgs false

/-- A box: its Kind, its node, its style's 43 cells, its Kids, its Runs. -/
inductive Bx where
  | mk (k nd : Int) (st : List Int) (kids : List Bx) (runs : List Rn)
def Bx.k : Bx → Int | .mk k _ _ _ _ => k
def Bx.nd : Bx → Int | .mk _ n _ _ _ => n
def Bx.st : Bx → List Int | .mk _ _ s _ _ => s
def Bx.kids : Bx → List Bx | .mk _ _ _ l _ => l
def Bx.runs : Bx → List Rn | .mk _ _ _ _ r => r
/-- The kids that count. -/
def kdsZ (k : Int) (l : List Bx) : List Bx := if k = 1 ∨ k = 3 then l else []
def Bx.kds (b : Bx) : List Bx := kdsZ b.k b.kids
/-- What one side adds (1: right, 3: left). -/
def sideZ (st : List Int) (i : Nat) : Int := st.getD (31 + i) 0 + st.getD (35 + i) 0 + (if st.getD (23 + 2 * i) 0 = 1 then st.getD (24 + 2 * i) 0 else 0)
def innerZ (st : List Int) (n : Int) : Int := clampZ (if st.getD 9 0 = 1 then st.getD 10 0 else n) (minZ st false (-1)) (maxZ st false (-1))
def outerZ (st : List Int) (n : Int) : Int := heldT (innerZ st n + sideZ st 3 + sideZ st 1)
/-- Do all kids count side by side? -/
def rowZ (k : Int) (st : List Int) (least : Bool) : Bool := decide (k = 3 ∧ st.getD 1 0 ≠ 2 ∧ st.getD 1 0 ≠ 3 ∧ (least = false ∨ st.getD 2 0 = 0))
def linesZ (zs : List Int) (least : Bool) (rs : List Rn) : Int := widZ (if least then [2, 4] else [4]) (glyphsL zs rs)
def partZ (zs : List Int) (least : Bool) (k : Int) (st : List Int) (rs : List Rn) (sum great : Int) : Int :=
  if k = 2 then linesZ zs least rs else if rowZ k st least = true then heldT sum else great
mutual
def ctn (zs : List Int) (least : Bool) : Bx → Int
  | .mk k _ st kids rs => partZ zs least k st rs (if k = 1 ∨ k = 3 then outs zs least kids else []).sum ((if k = 1 ∨ k = 3 then outs zs least kids else []).foldr max 0)
def outs (zs : List Int) (least : Bool) : List Bx → List Int
  | [] => []
  | c :: r => outerZ c.st (ctn zs least c) :: outs zs least r
end
mutual
def Bx.cnt : Bx → Nat
  | .mk k _ _ kids _ => 1 + (if k = 1 ∨ k = 3 then cnts kids else 0)
def cnts : List Bx → Nat
  | [] => 0
  | c :: r => c.cnt + cnts r
end
def Bx.desc (b : Bx) : Nat := cnts b.kds
theorem cnt_desc (b : Bx) : b.cnt = 1 + b.desc := by
  cases b with
  | mk k nd st kids rs =>
    show Bx.cnt _ = 1 + cnts (kdsZ k kids)
    unfold kdsZ
    rw [Bx.cnt]
    split <;> simp [cnts]
theorem cnts_sum : ∀ l : List Bx, cnts l = l.length + (l.map Bx.desc).sum
  | [] => by simp [cnts]
  | c :: r => by rw [cnts, cnts_sum r, cnt_desc]; simp; omega
theorem ctn_kds (zs : List Int) (least : Bool) (b : Bx) : ctn zs least b = partZ zs least b.k b.st b.runs (outs zs least b.kds).sum ((outs zs least b.kds).foldr max 0) := by
  cases b with
  | mk k nd st kids rs =>
    rw [ctn]
    show _ = partZ zs least k st rs (outs zs least (kdsZ k kids)).sum ((outs zs least (kdsZ k kids)).foldr max 0)
    unfold kdsZ
    split <;> simp [outs]
theorem outs_map (zs : List Int) (least : Bool) : ∀ l : List Bx, outs zs least l = l.map (fun c => outerZ c.st (ctn zs least c))
  | [] => rfl
  | c :: r => by rw [outs, outs_map zs least r]; rfl
theorem heldT_bd (n : Int) : I64 (heldT n) := by unfold heldT I64; split <;> (try split) <;> omega
theorem outerZ_bd (st : List Int) (n : Int) : I64 (outerZ st n) := heldT_bd _

/- All parts of a box, each behind what it is in. -/
structure Pt where
  bx : Bx
  g : Nat
  q : Nat
  in_ : Nat
def bxAt (b : Bx) (T : List Pt) (k : Nat) : Bx := ((b :: T.map Pt.bx)[k]?).getD b
theorem bxAt_zero (b : Bx) (T : List Pt) : bxAt b T 0 = b := rfl
theorem bxAt_succ (b : Bx) (T : List Pt) (k : Nat) (h : k < T.length) : bxAt b T (k + 1) = T[k].bx := by simp [bxAt, h]
theorem bxAt_app (b : Bx) (T U : List Pt) (k : Nat) (h : k ≤ T.length) : bxAt b (T ++ U) k = bxAt b T k := by
  cases k with
  | zero => rfl
  | succ k => rw [bxAt_succ b T k h, bxAt_succ b (T ++ U) k (by simp; omega), List.getElem_append_left]
structure Bfs (b : Bx) (i : Nat) (T : List Pt) : Prop where
  le : i ≤ T.length + 1
  up : ∀ j (h : j < T.length), T[j].in_ ≤ j ∧ T[j].in_ < i
  kids : ∀ k, k < i → (T.filter (fun p => p.in_ == k)).map Pt.bx = (bxAt b T k).kds
  cnt : T.length + 1 + (((b :: T.map Pt.bx).drop i).map Bx.desc).sum = b.cnt
theorem Bfs.start (b : Bx) : Bfs b 0 [] := ⟨by simp, fun j h => absurd h (by simp), fun k h => by omega, by simp [cnt_desc]⟩
theorem Bfs.small {b : Bx} {i : Nat} {T : List Pt} (h : Bfs b i T) : T.length + 1 ≤ b.cnt := by have := h.cnt; omega
theorem Bfs.next {b : Bx} {i : Nat} {T U : List Pt} (h : Bfs b i T) (hi : i < T.length + 1) (hU : ∀ p ∈ U, p.in_ = i) (hk : U.map Pt.bx = (bxAt b T i).kds) : Bfs b (i + 1) (T ++ U) := by
  refine ⟨by simp; omega, fun j hj => ?_, fun k hk' => ?_, ?_⟩
  · by_cases hjl : j < T.length
    · rw [List.getElem_append_left hjl]; have := h.up j hjl; omega
    · rw [List.getElem_append_right (by omega)]
      rw [hU _ (List.getElem_mem _)]; omega
  · rw [List.filter_append, List.map_append, bxAt_app b T U k (by omega)]
    by_cases hki : k < i
    · have hn : U.filter (fun p => p.in_ == k) = [] := by
        rw [List.filter_eq_nil_iff]; intro p hp; rw [hU p hp]; simp; omega
      rw [hn, h.kids k hki]; simp
    · obtain rfl : k = i := by omega
      have hn : T.filter (fun p => p.in_ == k) = [] := by
        rw [List.filter_eq_nil_iff]; intro p hp
        obtain ⟨j, hj, rfl⟩ := List.getElem_of_mem hp
        have := (h.up j hj).2
        simp; omega
      have ha : U.filter (fun p => p.in_ == k) = U := by
        rw [List.filter_eq_self]; intro p hp; rw [hU p hp]; simp
      rw [hn, ha, hk]; simp
  · have hc := h.cnt
    have hl : i < (b :: T.map Pt.bx).length := by simp; omega
    have hx : (b :: T.map Pt.bx)[i] = bxAt b T i := by simp [bxAt, List.getElem?_eq_getElem hl]
    rw [List.drop_eq_getElem_cons hl, hx, List.map_cons, List.sum_cons] at hc
    have hd : (bxAt b T i).desc = U.length + ((U.map Pt.bx).map Bx.desc).sum := by
      show cnts (bxAt b T i).kds = _; rw [← hk, cnts_sum]; simp
    rw [List.map_append, ← List.cons_append, List.drop_append_of_le_length (by simp; omega), List.map_append, List.sum_append, List.length_append]
    omega
section
variable (zs : List Int) (least : Bool) (T : List Pt)
def ouP (p : Pt) : Int := outerZ p.bx.st (ctn zs least p.bx)
/-- What part k has taken once all behind part i are added. -/
def accP (i k : Nat) : List Int := ((T.drop i).filter (fun p => p.in_ == k)).map (ouP zs least)
theorem accP_end (k : Nat) : accP zs least T T.length k = [] := by simp [accP]
theorem accP_step (i k : Nat) (h : i < T.length) : accP zs least T i k = if T[i].in_ = k then ouP zs least T[i] :: accP zs least T (i + 1) k else accP zs least T (i + 1) k := by
  unfold accP
  rw [List.drop_eq_getElem_cons h, List.filter_cons]
  by_cases e : T[i].in_ = k
  · simp [e]
  · simp [e]
theorem accP_self {b : Bx} {T : List Pt} (h : Bfs b (T.length + 1) T) (i : Nat) (hi : i ≤ T.length) : accP zs least T i i = outs zs least (bxAt b T i).kds := by
  have hk := h.kids i (by omega)
  have hn : (T.take i).filter (fun p => p.in_ == i) = [] := by
    rw [List.filter_eq_nil_iff]; intro p hp
    obtain ⟨j, hj, rfl⟩ := List.getElem_of_mem hp
    have hj' : j < i := by simp at hj; omega
    have := (h.up j (by omega)).1
    simp; omega
  rw [outs_map, ← hk, List.map_map]
  unfold accP
  conv => rhs; rw [← List.take_append_drop i T, List.filter_append, hn, List.nil_append]
  rfl
theorem accP_ctn {b : Bx} {T : List Pt} (h : Bfs b (T.length + 1) T) (i : Nat) (hi : i ≤ T.length) :
    partZ zs least (bxAt b T i).k (bxAt b T i).st (bxAt b T i).runs (accP zs least T i i).sum ((accP zs least T i i).foldr max 0) = ctn zs least (bxAt b T i) := by
  rw [accP_self zs least h i hi, ctn_kds]
theorem sum_bd (l : List Int) (h : ∀ x ∈ l, I64 x) : -(9223372036854775808 * (l.length : Int)) ≤ l.sum ∧ l.sum ≤ 9223372036854775808 * (l.length : Int) := by
  induction l with
  | nil => simp
  | cons x l ih =>
    have h1 := ih fun y hy => h y (by simp [hy])
    have h2 := h x (by simp)
    obtain ⟨h3, h4⟩ := h2
    simp only [List.sum_cons, List.length_cons]
    omega
theorem accP_tot (i k : Nat) (hT : T.length ≤ 1073741824) : Tot (accP zs least T i k).sum := by
  have hl : (accP zs least T i k).length ≤ T.length := by
    unfold accP; rw [List.length_map]
    exact Nat.le_trans (List.length_filter_le _ _) (by simp)
  have h := sum_bd (accP zs least T i k) fun x hx => by
    unfold accP at hx
    obtain ⟨p, _, rfl⟩ := List.mem_map.1 hx
    exact outerZ_bd _ _
  unfold Tot
  omega
end
end Go.Proofs.Ytncaichachipkaa
