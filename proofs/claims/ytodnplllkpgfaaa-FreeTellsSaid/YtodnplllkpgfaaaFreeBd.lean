import Derived.Test.YtodnplllkpgfaaaFreeShrk
import Derived.Test.YtodnplllkpgfaaaFreeStep
/- Free space among items: what the sums of a round stay within. No program is named here. -/
namespace Go.Proofs.Ytodnplllkpgfaaa
open Go.RowKit
set_option linter.unusedVariables false
set_option linter.unusedSimpArgs false

/-- What a round keeps, whichever way. -/
structure RI (g : Bool) (inner : Int) (l : List It) : Prop where
  room : InRoom inner
  gi : g = true → GI inner l
  si : g = false → SI inner l
theorem RI.ok {g : Bool} {inner : Int} {l : List It} (h : RI g inner l) : ∀ i ∈ l, FxOk i.x := by
  cases g
  · exact (h.si rfl).ok
  · exact (h.gi rfl).ok
theorem RI.len {g : Bool} {inner : Int} {l : List It} (h : RI g inner l) : l.length ≤ 500 := by
  cases g
  · exact (h.si rfl).len
  · exact (h.gi rfl).len
theorem RI.facts {g : Bool} {inner : Int} {l : List It} (h : RI g inner l) : ShareFacts (leftI g inner l) (wtsI g l) := by
  cases g
  · exact (h.si rfl).facts h.room
  · exact (h.gi rfl).facts h.room
theorem RI.step {g : Bool} {inner : Int} {l : List It} (h : RI g inner l) (h0 : openI l ≠ 0) : RI g inner (roundI g inner l) := by
  cases g
  · exact ⟨h.room, fun e => (by cases e), fun _ => (h.si rfl).step h.room h0⟩
  · exact ⟨h.room, fun _ => (h.gi rfl).step h.room h0, fun e => (by cases e)⟩
theorem RI.start {inner : Int} {l : List Fx} (hr : InRoom inner) (hok : ∀ x ∈ l, FxOk x) (hlen : l.length ≤ 500) : RI (growsF inner l) inner (l.map (startI (growsF inner l))) := by
  cases hg : growsF inner l
  · exact ⟨hr, fun e => (by cases e), fun _ => SI.start hok hlen hg⟩
  · exact ⟨hr, fun _ => GI.start hok hlen hg, fun e => (by cases e)⟩

/-- What an item is without what is around it: frozen, or its base. -/
def nowI (i : It) : Int := if i.fz then i.s else i.x.base
theorem tkI_eq (i : It) : tkI i = i.x.around + nowI i := rfl
theorem sum_split {α : Type} (f : α → Int) (l : List α) (k : Nat) : (l.map f).sum = ((l.take k).map f).sum + ((l.drop k).map f).sum := by
  rw [← List.sum_append, ← List.map_append, List.take_append_drop]
theorem len_take (l : List It) (k : Nat) : ((l.take k).length : Int) ≤ l.length := by rw [List.length_take]; omega
theorem len_drop (l : List It) (k : Nat) : ((l.drop k).length : Int) ≤ l.length := by rw [List.length_drop]; omega
/-- The sums of what items are, as far as k. -/
theorem RI.now_bd {g : Bool} {inner : Int} {l : List It} (h : RI g inner l) (k : Nat) : 0 ≤ ((l.take k).map nowI).sum ∧ ((l.take k).map nowI).sum ≤ 54043195528445952 := by
  have hl := h.len
  have ht := len_take l k
  have hd := len_drop l k
  have r0 := h.room.lo
  have r1 := h.room.hi
  have lo : ∀ i ∈ l, 0 ≤ nowI i := fun i hi => by
    have := (h.ok i hi).b0
    unfold nowI
    split
    · cases g
      · have := ((h.si rfl).sz i hi).1.1; have := botF_nn i.x; omega
      · have := ((h.gi rfl).sz i hi).1; have := botF_nn i.x; omega
    · omega
  have l1 := sum_lo_by (f := nowI) (c := 0) (l.take k) fun i hi => by have := lo i (List.mem_of_mem_take hi); omega
  refine ⟨by omega, ?_⟩
  cases g with
  | false =>
    have := sum_hi_by (f := nowI) (c := 8796093022208) (l.take k) fun i hi => by
      have hi := List.mem_of_mem_take hi
      have := (h.ok i hi).b1
      have := ((h.si rfl).sz i hi).2
      unfold nowI; split <;> omega
    omega
  | true =>
    have hh := (h.gi rfl).room
    have e := sum_split (fun i : It => i.x.around + if i.fz then i.s else hypF i.x) l k
    have hy0 : ∀ i ∈ l, 0 ≤ (if i.fz then i.s else hypF i.x) := fun i hi => by
      split
      · have := ((h.gi rfl).sz i hi).1; have := botF_nn i.x; omega
      · have := hypF_bot i.x; have := botF_nn i.x; omega
    have d1 := sum_lo_by (f := fun i : It => i.x.around + if i.fz then i.s else hypF i.x) (c := 8796093022208) (l.drop k) fun i hi => by
      have hi := List.mem_of_mem_drop hi
      have := hy0 i hi
      have := (h.ok i hi).a0
      show _ ≤ i.x.around + _; omega
    have d2 := sum_le_by (f := fun i : It => -8796093022208 + nowI i) (g := fun i : It => i.x.around + if i.fz then i.s else hypF i.x) (l.take k) fun i hi => by
      have hi := List.mem_of_mem_take hi
      have := (h.ok i hi).a0
      show _ + nowI i ≤ _
      unfold nowI
      cases hf : i.fz with
      | true => simp; omega
      | false => have := ((h.gi rfl).un i hi hf).2; simp; omega
    have d3 := sum_add_by (fun i : It => (-8796093022208 : Int)) nowI (l.take k)
    have d4 := sum_lo_by (f := fun i : It => (-8796093022208 : Int)) (c := 8796093022208) (l.take k) fun i hi => by omega
    unfold hypS at hh
    omega
theorem RI.free_bd {g : Bool} {inner : Int} {l : List It} (h : RI g inner l) (k : Nat) : -1152921504606846976 ≤ freeI inner (l.take k) ∧ freeI inner (l.take k) ≤ 1152921504606846976 := by
  have hl := h.len
  have ht := len_take l k
  have r0 := h.room.lo
  have r1 := h.room.hi
  have hn := h.now_bd k
  have e := sum_add_by (fun i : It => i.x.around) nowI (l.take k)
  have l1 := sum_lo_by (f := fun i : It => i.x.around) (c := 8796093022208) (l.take k) fun i hi => (h.ok i (List.mem_of_mem_take hi)).a0
  have l2 := sum_hi_by (f := fun i : It => i.x.around) (c := 8796093022208) (l.take k) fun i hi => (h.ok i (List.mem_of_mem_take hi)).a1
  have e2 : ((l.take k).map tkI).sum = ((l.take k).map (fun i : It => i.x.around + nowI i)).sum := rfl
  unfold freeI
  omega
theorem RI.now1 {g : Bool} {inner : Int} {l : List It} (h : RI g inner l) {k : Nat} (hk : k < l.length) : 0 ≤ nowI l[k] ∧ nowI l[k] ≤ 54043195528445952 := by
  have h1 := h.now_bd (k + 1)
  have h0 := h.now_bd k
  have hi := List.getElem_mem hk
  rw [List.take_succ_eq_append_getElem hk, List.map_append, List.sum_append] at h1
  simp only [List.map_cons, List.map_nil, List.sum_cons, List.sum_nil] at h1
  refine ⟨?_, by omega⟩
  have := (h.ok _ hi).b0
  unfold nowI
  split
  · cases g
    · have := ((h.si rfl).sz _ hi).1.1; have := botF_nn l[k].x; omega
    · have := ((h.gi rfl).sz _ hi).1; have := botF_nn l[k].x; omega
  · omega
theorem putI_take : ∀ (l : List It) (ps : List Int) (k : Nat), (putI l ps).take k = putI (l.take k) (ps.take (openI (l.take k)))
  | [], ps, k => by simp [putI]
  | i :: r, ps, 0 => by simp [putI]
  | i :: r, ps, k + 1 => by
    by_cases hf : i.fz = true
    · have e : ∀ q, putI (i :: r) q = (i, i.s) :: putI r q := fun q => by rw [putI, if_pos hf]
      have e' : ∀ q, putI (i :: r.take k) q = (i, i.s) :: putI (r.take k) q := fun q => by rw [putI, if_pos hf]
      rw [e, List.take_succ_cons, List.take_succ_cons, openI_cons, if_pos hf, e', putI_take r ps k]
    · have e : ∀ r q, putI (i :: r) q = (⟨i.x, clF i.x (i.x.base + q.headD 0), false⟩, i.x.base + q.headD 0) :: putI r q.tail := fun r q => by rw [putI, if_neg hf]
      rw [e, List.take_succ_cons, List.take_succ_cons, openI_cons, if_neg hf, e, putI_take r ps.tail k]
      cases ps with
      | nil => simp
      | cons z zs => simp
/-- The parts of a round: each, and their sums. -/
theorem parts_take {n : Int} {ws : List Int} (F : ShareFacts n ws) (k : Nat) : -1152921504606846976 ≤ ((shareZ n ws).take k).sum ∧ ((shareZ n ws).take k).sum ≤ 1152921504606846976 := by
  by_cases hk : k ≤ ws.length
  · rw [shareZ_yes n ws F.shareOk', ← List.map_take, List.take_range, Nat.min_eq_left hk, share_total n ws k hk]
    exact ratZ_bd _ _ _
  · rw [List.take_of_length_le (by rw [F.length]; omega), share_sum F]
    have := F.n1
    have := F.n2
    split <;> omega
/-- What is over, as far as k; and each want. -/
theorem RI.over_bd {g : Bool} {inner : Int} {l : List It} (h : RI g inner l) (k : Nat) :
    -2305843009213693952 ≤ overI ((putI l (shareZ (leftI g inner l) (wtsI g l))).take k) ∧ overI ((putI l (shareZ (leftI g inner l) (wtsI g l))).take k) ≤ 2305843009213693952 := by
  have hl := h.len
  have ht := len_take l k
  have F := h.facts
  have hlen : (shareZ (leftI g inner l) (wtsI g l)).length = openI l := by rw [F.length, wtsI_len]
  have hpt := parts_take F (openI (l.take k))
  have hpos : g = true → ∀ z ∈ shareZ (leftI g inner l) (wtsI g l), 0 ≤ z := fun e z hz => by
    obtain ⟨j, hj, rfl⟩ := share_mem F hz
    subst e
    exact F.pos j hj (by unfold leftI; rw [if_pos rfl]; omega)
  have hneg : g = false → ∀ z ∈ shareZ (leftI g inner l) (wtsI g l), z ≤ 0 := fun e z hz => by
    obtain ⟨j, hj, rfl⟩ := share_mem F hz
    subst e
    exact F.neg j hj (by unfold leftI; rw [if_neg (by simp)]; omega)
  generalize shareZ (leftI g inner l) (wtsI g l) = ps at *
  rw [putI_take]
  have hle : openI (l.take k) ≤ openI l := by
    have h1 := openI_both (l.take k) (l.drop k)
    rw [List.take_append_drop] at h1
    omega
  have hw := put_wants (l.take k) (ps.take (openI (l.take k))) (by rw [List.length_take]; omega)
  -- what the unfrozen want
  have e1 : ((l.take k).map tkI).sum = ((l.take k).map (fun i : It => i.x.around + if i.fz then i.s else i.x.base)).sum := rfl
  have e2 : ∀ m (qs : List Int), ((putI m qs).map (fun p => p.1.x.around + (if p.1.fz then p.1.s else 0))).sum = (m.map (fun i : It => i.x.around + (if i.fz then i.s else 0))).sum := fun m qs => by
    have := congrArg List.sum (putI_plain (F := fun i : It => i.x.around + (if i.fz then i.s else 0)) (fun x s s' => rfl) m qs)
    exact this
  have e3 := sum_add_by (fun i : It => i.x.around + (if i.fz then i.s else 0)) (fun i : It => if i.fz then 0 else i.x.base) (l.take k)
  have e4 : ((l.take k).map tkI).sum = ((l.take k).map (fun i : It => (i.x.around + (if i.fz then i.s else 0)) + (if i.fz then 0 else i.x.base))).sum := sum_eq_by _ fun i _ => by unfold tkI; split <;> omega
  have e5 := sum_add_by (fun p : It × Int => p.1.x.around + (if p.1.fz then p.1.s else 0)) (fun p : It × Int => if p.1.fz then 0 else p.2) (putI (l.take k) (ps.take (openI (l.take k))))
  have hc := putI_cases (l.take k) (ps.take (openI (l.take k)))
  have e6 : ((putI (l.take k) (ps.take (openI (l.take k)))).map (fun p => p.1.x.around + p.2)).sum = ((putI (l.take k) (ps.take (openI (l.take k)))).map (fun p : It × Int => (p.1.x.around + (if p.1.fz then p.1.s else 0)) + (if p.1.fz then 0 else p.2))).sum := sum_eq_by _ fun p hp => by
    rcases hc p hp with ⟨a, -, b⟩ | ⟨a, -⟩
    · rw [a, b]; simp
    · rw [a]; simp
  have e7 := e2 (l.take k) (ps.take (openI (l.take k)))
  -- so the unfrozen's wants are their bases and their parts
  have b0 := sum_lo_by (f := fun i : It => if i.fz then (0 : Int) else i.x.base) (c := 0) (l.take k) fun i hi => by have := (h.ok i (List.mem_of_mem_take hi)).b0; show _ ≤ (if _ then _ else _); split <;> omega
  have b1 := sum_hi_by (f := fun i : It => if i.fz then (0 : Int) else i.x.base) (c := 8796093022208) (l.take k) fun i hi => by have := (h.ok i (List.mem_of_mem_take hi)).b1; show (if _ then _ else _) ≤ _; split <;> omega
  have hlp : (((putI (l.take k) (ps.take (openI (l.take k)))).length : Int)) ≤ 500 := by rw [putI_len]; omega
  have hpart := putI_part (l.take k) (ps.take (openI (l.take k)))
  have hx : ∀ p ∈ putI (l.take k) (ps.take (openI (l.take k))), p.1.fz = false → FxOk p.1.x := fun p hp hf => by
    rcases hc p hp with ⟨a, -⟩ | ⟨-, -, i, hi, -, e⟩
    · rw [hf] at a; cases a
    · rw [← e]; exact h.ok i (List.mem_of_mem_take hi)
  have cl : ∀ p ∈ putI (l.take k) (ps.take (openI (l.take k))), p.1.fz = false → p.1.s = clF p.1.x p.2 := fun p hp hf => by
    rcases hc p hp with ⟨a, -⟩ | ⟨-, e, -⟩
    · rw [hf] at a; cases a
    · exact e
  have fr : ∀ p ∈ putI (l.take k) (ps.take (openI (l.take k))), p.1.fz = true → p.2 = p.1.s := fun p hp hf => by
    rcases hc p hp with ⟨-, -, e⟩ | ⟨a, -⟩
    · exact e
    · rw [hf] at a; cases a
  unfold overI
  cases g with
  | true =>
    have want : ∀ p ∈ putI (l.take k) (ps.take (openI (l.take k))), p.1.fz = false → 0 ≤ p.2 := fun p hp hf => by
      obtain ⟨z, hz, e⟩ := hpart p hp hf
      have := (hx p hp hf).b0
      have : 0 ≤ z := by
        rcases hz with hz | hz
        · exact hpos rfl z (List.mem_of_mem_take hz)
        · omega
      omega
    have u1 := sum_hi_by (f := fun p : It × Int => p.1.s - p.2) (c := 8796093022208) (putI (l.take k) (ps.take (openI (l.take k)))) fun p hp => by
      cases hf : p.1.fz with
      | true => have := fr p hp hf; show p.1.s - p.2 ≤ _; omega
      | false =>
        have := cl p hp hf
        have := want p hp hf
        have := (hx p hp hf).m1
        show p.1.s - p.2 ≤ _
        rw [cl p hp hf]; unfold clF; split <;> omega
    have u2 := sum_le_by (f := fun p : It × Int => -1 * (if p.1.fz then 0 else p.2)) (g := fun p : It × Int => p.1.s - p.2) (putI (l.take k) (ps.take (openI (l.take k)))) fun p hp => by
      cases hf : p.1.fz with
      | true => have := fr p hp hf; simp; omega
      | false =>
        have := clF_bot p.1.x p.2
        have := botF_nn p.1.x
        show -1 * (if false = true then 0 else p.2) ≤ p.1.s - p.2
        rw [cl p hp hf, if_neg (by simp)]; omega
    have u3 : ((putI (l.take k) (ps.take (openI (l.take k)))).map (fun p : It × Int => -1 * (if p.1.fz then 0 else p.2))).sum = -((putI (l.take k) (ps.take (openI (l.take k)))).map (fun p : It × Int => if p.1.fz then 0 else p.2)).sum := by
      have := sum_add_by (fun p : It × Int => -1 * (if p.1.fz then 0 else p.2)) (fun p : It × Int => if p.1.fz then 0 else p.2) (putI (l.take k) (ps.take (openI (l.take k))))
      have z : ((putI (l.take k) (ps.take (openI (l.take k)))).map (fun p : It × Int => -1 * (if p.1.fz then 0 else p.2) + (if p.1.fz then 0 else p.2))).sum = ((putI (l.take k) (ps.take (openI (l.take k)))).map (fun p : It × Int => (0 : Int))).sum := sum_eq_by _ fun p _ => by omega
      have z2 := sum_lo_by (f := fun p : It × Int => (0 : Int)) (c := 0) (putI (l.take k) (ps.take (openI (l.take k)))) fun p _ => by omega
      have z3 := sum_hi_by (f := fun p : It × Int => (0 : Int)) (c := 0) (putI (l.take k) (ps.take (openI (l.take k)))) fun p _ => by omega
      omega
    omega
  | false =>
    have want : ∀ p ∈ putI (l.take k) (ps.take (openI (l.take k))), p.1.fz = false → p.2 ≤ 8796093022208 := fun p hp hf => by
      obtain ⟨z, hz, e⟩ := hpart p hp hf
      have := (hx p hp hf).b1
      have : z ≤ 0 := by
        rcases hz with hz | hz
        · exact hneg rfl z (List.mem_of_mem_take hz)
        · omega
      omega
    have u1 := sum_lo_by (f := fun p : It × Int => p.1.s - p.2) (c := 8796093022208) (putI (l.take k) (ps.take (openI (l.take k)))) fun p hp => by
      cases hf : p.1.fz with
      | true => have := fr p hp hf; show _ ≤ p.1.s - p.2; omega
      | false =>
        have := want p hp hf
        have := clF_bot p.1.x p.2
        have := botF_nn p.1.x
        show _ ≤ p.1.s - p.2
        rw [cl p hp hf]; omega
    have u2 := sum_le_by (f := fun p : It × Int => p.1.s - p.2) (g := fun p : It × Int => 8796093022208 + -1 * (if p.1.fz then 0 else p.2)) (putI (l.take k) (ps.take (openI (l.take k)))) fun p hp => by
      cases hf : p.1.fz with
      | true => have := fr p hp hf; simp; omega
      | false =>
        have := want p hp hf
        have := (hx p hp hf).m1
        show p.1.s - p.2 ≤ 8796093022208 + -1 * (if false = true then 0 else p.2)
        rw [cl p hp hf, if_neg (by simp)]; unfold clF; split <;> omega
    have u3 := sum_add_by (fun p : It × Int => (8796093022208 : Int)) (fun p : It × Int => -1 * (if p.1.fz then 0 else p.2)) (putI (l.take k) (ps.take (openI (l.take k))))
    have u4 := sum_hi_by (f := fun p : It × Int => (8796093022208 : Int)) (c := 8796093022208) (putI (l.take k) (ps.take (openI (l.take k)))) fun p _ => by omega
    have u5 : ((putI (l.take k) (ps.take (openI (l.take k)))).map (fun p : It × Int => -1 * (if p.1.fz then 0 else p.2))).sum = -((putI (l.take k) (ps.take (openI (l.take k)))).map (fun p : It × Int => if p.1.fz then 0 else p.2)).sum := by
      have := sum_add_by (fun p : It × Int => -1 * (if p.1.fz then 0 else p.2)) (fun p : It × Int => if p.1.fz then 0 else p.2) (putI (l.take k) (ps.take (openI (l.take k))))
      have z : ((putI (l.take k) (ps.take (openI (l.take k)))).map (fun p : It × Int => -1 * (if p.1.fz then 0 else p.2) + (if p.1.fz then 0 else p.2))).sum = ((putI (l.take k) (ps.take (openI (l.take k)))).map (fun p : It × Int => (0 : Int))).sum := sum_eq_by _ fun p _ => by omega
      have z2 := sum_lo_by (f := fun p : It × Int => (0 : Int)) (c := 0) (putI (l.take k) (ps.take (openI (l.take k)))) fun p _ => by omega
      have z3 := sum_hi_by (f := fun p : It × Int => (0 : Int)) (c := 0) (putI (l.take k) (ps.take (openI (l.take k)))) fun p _ => by omega
      omega
    omega
/-- The part that item k gets, and what it wants. -/
theorem RI.part_bd {g : Bool} {inner : Int} {l : List It} (h : RI g inner l) (j : Nat) : -2305843009213693952 ≤ (shareZ (leftI g inner l) (wtsI g l)).getD j 0 ∧ (shareZ (leftI g inner l) (wtsI g l)).getD j 0 ≤ 2305843009213693952 := by
  have F := h.facts
  by_cases hj : j < (shareZ (leftI g inner l) (wtsI g l)).length
  · rw [List.getD_eq_getElem?_getD, List.getElem?_eq_getElem hj, Option.getD_some, F.get j hj]
    exact share_bd _ _ _
  · rw [List.getD_eq_getElem?_getD, List.getElem?_eq_none (by omega), Option.getD_none]
    omega
theorem RI.parts_len {g : Bool} {inner : Int} {l : List It} (h : RI g inner l) : (shareZ (leftI g inner l) (wtsI g l)).length = openI l := by rw [h.facts.length, wtsI_len]
/-- Clamped: never far from what is wanted, or its bounds. -/
theorem clF_bd {x : Fx} (h : FxOk x) (n : Int) (h1 : n ≤ 4611686018427387904) : 0 ≤ clF x n ∧ clF x n ≤ 4611686018427387904 := by
  have := h.m1
  have := h.m0
  unfold clF
  split <;> omega
/-- Run to the end. -/
theorem runI_same {g : Bool} {inner : Int} : ∀ (k : Nat) (l : List It), openI l = 0 → runI g inner k l = l
  | 0, l, _ => rfl
  | k + 1, l, h => by rw [runI, if_pos h]
theorem runI_more {g : Bool} {inner : Int} {k : Nat} {l : List It} (h : openI l ≠ 0) (hk : openI l ≤ k) : ∃ k', k = k' + 1 ∧ runI g inner k l = runI g inner k' (roundI g inner l) ∧ openI (roundI g inner l) ≤ k' := by
  cases k with
  | zero => omega
  | succ k => exact ⟨k, rfl, by rw [runI, if_neg h], by have := round_open (g := g) (inner := inner) h; omega⟩
end Go.Proofs.Ytodnplllkpgfaaa
