import Derived.WalkKit
import Derived.Below
import Derived.Deep.Draws
import Derived.OwnWalk
import Derived.Laws.OwnMore
import Derived.Laws.AppendOwnNone
import Derived.Lib.Hide
import Derived.Laws.BitsAllLaws
import Derived.Laws.BitsLemmas
import Derived.ProofKit
import Derived.OpenShut
import Derived.ShutString
import Derived.ChangeOld
import Derived.Test.YtbhdpfacfgldiaaGreatDoorProg
import Derived.WalkLawsBesides
import Derived.WalkSpells
import Derived.Outline
import Derived.Laws.Rows
import Derived.Deep.Quiet
import Derived.StillTail
import Derived.Deep.QuietTactic
import Derived.BigQuiet
import Derived.Maps.OwnSet
import Derived.Deep.Cut
import Derived.Deep.CutBlock
import Derived.Deep.DeepCutAuto
import Derived.Deep.CutRange
import Derived.Laws.Tables
import Derived.Laws.ResultCell
/- Words for memory: a slice that reads as a list of cells, whatever its address; plain lemmas on lists of numbers. No program is named here. -/
namespace Go.Proofs.YtbhdpfacfgldiaaGreatDoor
set_option linter.unusedVariables false
set_option linter.unusedSimpArgs false
open Go.RowKit

theorem add_block (a : Addr) (n : Nat) : (a.add n).block = a.block := by unfold Addr.add; split <;> rfl
theorem add_zero (a : Addr) : a.add 0 = a := by simp [Addr.add]

/-- The cells from A on are xs, in a block below B; where xs is empty nothing is asked of A. -/
def Row (w : World) (B : Nat) (A : Option Addr) (xs : List Value) : Prop :=
  0 < xs.length → ∃ ad, A = some ad ∧ ad.block < B ∧ ∀ i (h : i < xs.length), w.cell? (ad.add i) = some xs[i]

section
variable {w w' : World} {B B' : Nat} {A : Option Addr} {xs : List Value}
theorem Row.nil (w : World) (B : Nat) (A : Option Addr) : Row w B A [] := fun h => absurd h (by simp)
theorem Row.get (h : Row w B A xs) {k : Nat} (hk : k < xs.length) : ∃ ad, A = some ad ∧ ad.block < B ∧ w.cell? (ad.add k) = some xs[k] := by
  obtain ⟨ad, e, hb, hc⟩ := h (by omega)
  exact ⟨ad, e, hb, hc k hk⟩
theorem Row.keep (h : Row w B A xs) (hk : ∀ p : Addr, p.block < B → w'.cell? p = w.cell? p) : Row w' B A xs := fun hn => by
  obtain ⟨ad, e, hb, hc⟩ := h hn
  exact ⟨ad, e, hb, fun i hi => (hk _ (by rw [add_block]; exact hb)).trans (hc i hi)⟩
theorem Row.more (h : Row w B A xs) (hB : B ≤ B') : Row w B' A xs := fun hn => by
  obtain ⟨ad, e, hb, hc⟩ := h hn
  exact ⟨ad, e, by omega, hc⟩
theorem Row.below (h : Row w B A xs) (hb : Below B w w') : Row w' B A xs := h.keep fun _ hp => hb.cell hp
theorem Row.drew (h : Row w B A xs) : Row w.drew B A xs := h
theorem Row.drewN (h : Row w B A xs) (k : Nat) : Row (w.drewN k) B A xs := h
theorem Row.alloc (h : Row w B A xs) (hB : B ≤ w.heap.size) (o : Obj) : Row (w.alloc o) B A xs := h.keep fun p hp => World.cell?_alloc_lt w o p (by omega)
theorem Row.setCell (h : Row w B A xs) {p : Addr} (hB : B ≤ p.block) (u : Value) : Row (w.setCell p u) B A xs :=
  h.keep fun q hq => World.cell?_setCell_other w p q u (fun e => by subst e; omega)
theorem Row.undrew {n : Nat} (h : Row (w.drewN n) B A xs) : Row w B A xs := h
end


theorem head_add (g i : Nat) : (⟨g, 0, none⟩ : Addr).add i = ⟨g, i, none⟩ := by unfold Addr.add; split <;> simp_all
theorem row_new (w : World) (cs : Array Value) (t : TypeId) : Row (w.alloc (.cells cs t)) (w.heap.size + 1) (some ⟨w.heap.size, 0, none⟩) cs.toList := fun _ =>
  ⟨_, rfl, by simp, fun i hi => by
    rw [head_add, World.cell?_alloc_at _ _ _ _ rfl]
    simp at hi
    simp [hi]⟩

theorem Below.drewN' {B : Nat} {a w : World} (h : Below B a w) (n : Nat) : Below B a (w.drewN n) := ⟨h.os, h.tape, h.output, h.size, h.block⟩
theorem row_at (w : World) (g : Nat) (cs : Array Value) (t : TypeId) (hg : g = w.heap.size) : Row (w.alloc (.cells cs t)) (g + 1) (some ⟨g, 0, none⟩) cs.toList := by
  subst hg; exact row_new w cs t

section
variable {P : Program} {w w' : World} {base e size n c : Nat} {A : Option Addr} {xs : List Value}
theorem own_shape {v : Value} (h : w.ownsRow base e size v n xs) : ∃ A c, v = .slice A n c := by
  rcases h.2 with ⟨rfl, rfl⟩ | ⟨g, cap, cur, rfl, _⟩
  · exact ⟨none, 0, rfl⟩
  · exact ⟨_, _, rfl⟩
theorem row_of_own (h : w.ownsRow base e size (.slice A n c) n xs) : Row w w.heap.size A xs := fun hn => by
  rcases h.2 with ⟨_, h0⟩ | ⟨g, cap, cur, hv, _, hg, _⟩
  · have := h.1; rw [h0, Nat.zero_mul] at this; omega
  · injection hv with hA _ _
    subst hA
    have hlt : g < w.heap.size := (Array.getElem?_eq_some_iff.1 hg).1
    exact ⟨_, rfl, hlt, fun i hi => h.cells (g := g) rfl i _ (List.getElem?_eq_getElem hi)⟩
theorem own_below (h : w.ownsRow base e size (.slice A n c) n xs) {B : Nat} (hb : Below B w w') (hB : w.heap.size ≤ B) : w'.ownsRow base e size (.slice A n c) n xs := by
  refine ⟨h.1, ?_⟩
  rcases h.2 with h0 | ⟨g, cap, cur, hv, h1, h2, h3⟩
  · exact .inl h0
  · have hlt : g < w.heap.size := (Array.getElem?_eq_some_iff.1 h2).1
    exact .inr ⟨g, cap, cur, hv, h1, (hb.block g (by omega)).trans h2, h3⟩
theorem wpList_wanted {ops : Array Oper} {rest : List Oper} {o : Oper} {a : Act} {Q : Exit → Act → World → Prop} (hw : Region.wanted o (yielded ops a.tmps) = true)
    (h : ∀ K : Act → World → Prop, (∀ a w, wpList P ops Q rest a w → K a w) → o.wp P a w K Q) : wpList P ops Q (o :: rest) a w :=
  wpList_step fun K hK => by rw [if_pos hw]; exact h K hK
/-- 'xs = append(xs, ys...)' onto a slice of the call's own, the source a row wherever it lies; nil too. -/
theorem wp_push_all {o : Oper} {a : Act} {K : Act → World → Prop} {Q : Exit → Act → World → Prop} (s x : Operand) (t : TypeId)
    (ho : o.op = .call { callee := .builtin .append, args := #[s, x], argTypes := #[t, t] })
    (base e size bytes : Nat) (z : Value) (ht : P.underlying t = some (.slice e)) (hinfo : (P.info? e).map (fun i => (i.zero, i.size, i.bytes)) = some (some z, size, bytes))
    (hzs : z.cells.size = size) (hsz : 0 < size) (n c : Nat) (A : Option Addr) (xs : List Value) (hs : a.eval s = .slice A n c) (hown : w.ownsRow base e size (.slice A n c) n xs)
    (B m c' : Nat) (A' : Option Addr) (news : List Value) (hx : a.eval x = .slice A' m c') (hnil : A' = none → c' = 0) (hl : news.length = m * size) (hr : Row w B A' news) (h1 : ∀ u ∈ news, u.oneCell' = true)
    (h63 : n + m ≤ maxLen) (hbytes : (n + m) * bytes ≤ 140737488355328) (hbase : base ≤ w.heap.size)
    (h : ∀ A' c' w', w'.ownsRow base e size (.slice A' (n + m) c') (n + m) (xs ++ news) → Below base w w' → K (a.put o.dst (.slice A' (n + m) c')) w') : o.wp P a w K Q := by
  obtain ⟨i, hi, hz, hsize, hby⟩ := info_parts hinfo
  rcases A' with _ | ad
  · have hn : news = [] := by
      rcases Nat.eq_zero_or_pos news.length with h0 | h0
      · exact List.eq_nil_of_length_eq_zero h0
      · obtain ⟨ad, e, _⟩ := hr h0; cases e
    subst hn
    have hm : m = 0 := by
      have : 0 = m * size := hl
      rcases Nat.eq_zero_or_pos m with h0 | h0
      · exact h0
      · have := Nat.mul_pos h0 hsz; omega
    subst hm
    rw [hnil rfl] at hx
    have hrun := run_append_owned_none (P := P) (w := w) base t o.type e i size ht hi (.slice A n c) n xs hown
    have hK := h A c w (by simpa using hown) (Below.refl _ _)
    unfold Oper.wp execOp
    simp only [ho, resolve, invoke, builtin, Sem.run_bind, Sem.run_pure, Result.andThen_ok, List.map_toArray, List.map_cons, List.map_nil, hs, hx, hrun]
    exact hK
  · refine wp_append_own w s x t ho base e i z size bytes ht hi hz hsize hby hzs hsz (.slice A n c) n xs hs hown ad m c' news hx hl (fun j u hu => ?_) h1 h63 hbytes hbase ?_
    · obtain ⟨hj, rfl⟩ := List.getElem?_eq_some_iff.1 hu
      obtain ⟨ad', e', _, hc⟩ := hr (by omega)
      injection e' with e'
      subst e'
      exact hc j hj
    · intro v' w1 h2 h3 _
      obtain ⟨A', c1, rfl⟩ := own_shape h2
      refine h A' c1 w1 h2 ?_
      refine (Below.refl base w).grown h3 hbase fun k hk => ?_
      exact (hown.lt k hk).1
theorem wpList_push_all {ops : Array Oper} {rest : List Oper} {o : Oper} {a : Act} {Q : Exit → Act → World → Prop} (hw : Region.wanted o (yielded ops a.tmps) = true) (s x : Operand) (t : TypeId)
    (ho : o.op = .call { callee := .builtin .append, args := #[s, x], argTypes := #[t, t] })
    (base e size bytes : Nat) (z : Value) (ht : P.underlying t = some (.slice e)) (hinfo : (P.info? e).map (fun i => (i.zero, i.size, i.bytes)) = some (some z, size, bytes))
    (hzs : z.cells.size = size) (hsz : 0 < size) (n c : Nat) (A : Option Addr) (xs : List Value) (hs : a.eval s = .slice A n c) (hown : w.ownsRow base e size (.slice A n c) n xs)
    (B m c' : Nat) (A' : Option Addr) (news : List Value) (hx : a.eval x = .slice A' m c') (hnil : A' = none → c' = 0) (hl : news.length = m * size) (hr : Row w B A' news) (h1 : ∀ u ∈ news, u.oneCell' = true)
    (h63 : n + m ≤ maxLen) (hbytes : (n + m) * bytes ≤ 140737488355328) (hbase : base ≤ w.heap.size)
    (h : ∀ A' c' w', w'.ownsRow base e size (.slice A' (n + m) c') (n + m) (xs ++ news) → Below base w w' → wpList P ops Q rest (a.put o.dst (.slice A' (n + m) c')) w') : wpList P ops Q (o :: rest) a w :=
  wpList_wanted hw fun _ hK => wp_push_all s x t ho base e size bytes z ht hinfo hzs hsz n c A xs hs hown B m c' A' news hx hnil hl hr h1 h63 hbytes hbase fun A' c' w' h2 h3 => hK _ _ (h A' c' w' h2 h3)
/-- .. the element just laid in a block of its own. -/
theorem wpList_new {ops : Array Oper} {rest : List Oper} {o : Oper} {a : Act} {Q : Exit → Act → World → Prop} {cs : Array Value} (hw : Region.wanted o (yielded ops a.tmps) = true) (s x : Operand) (t : TypeId)
    (ho : o.op = .call { callee := .builtin .append, args := #[s, x], argTypes := #[t, t] })
    (base e size bytes : Nat) (z : Value) (ht : P.underlying t = some (.slice e)) (hinfo : (P.info? e).map (fun i => (i.zero, i.size, i.bytes)) = some (some z, size, bytes))
    (hzs : z.cells.size = size) (hsz : 0 < size) (n c : Nat) (A : Option Addr) (xs : List Value) (hs : a.eval s = .slice A n c) (hown : w.ownsRow base e size (.slice A n c) n xs)
    (hx : a.eval x = .slice (some ⟨w.heap.size, 0, none⟩) 1 1) (hb : (n + 1) * bytes ≤ 140737488355328 ∧ n + 1 ≤ maxLen ∧ base ≤ w.heap.size) (hl : cs.toList.length = size) (h1 : ∀ u ∈ cs.toList, u.oneCell' = true)
    (h : ∀ A' c' w', w'.ownsRow base e size (.slice A' (n + 1) c') (n + 1) (xs ++ cs.toList) → Below base w w' → wpList P ops Q rest (a.put o.dst (.slice A' (n + 1) c')) w') :
    wpList P ops Q (o :: rest) a (w.alloc (.cells cs e)) := by
  obtain ⟨hbytes, h63, hbase⟩ := hb
  have hbase' : base ≤ (w.alloc (.cells cs e)).heap.size := by simp; omega
  refine wpList_push_all hw s x t ho base e size bytes z ht hinfo hzs hsz n c A xs hs (hown.alloc _) (w.heap.size + 1) 1 1 (some ⟨w.heap.size, 0, none⟩) cs.toList hx (fun h => by cases h) (by omega) (row_new w cs e) h1 h63 hbytes hbase' (fun A' c' w' h2 h3 => h A' c' w' h2 (((Below.refl base w).alloc hbase _).trans h3))
/-- .. as a step of a region that draws its order. -/
theorem step_new {ops : Array Oper} {o : Oper} {a : Act} {K : Act → World → Prop} {Q : Exit → Act → World → Prop} {E : Prop} {cs : Array Value} (hw : Region.wanted o (yielded ops a.tmps) = true) (s x : Operand) (t : TypeId)
    (ho : o.op = .call { callee := .builtin .append, args := #[s, x], argTypes := #[t, t] })
    (base e size bytes : Nat) (z : Value) (ht : P.underlying t = some (.slice e)) (hinfo : (P.info? e).map (fun i => (i.zero, i.size, i.bytes)) = some (some z, size, bytes))
    (hzs : z.cells.size = size) (hsz : 0 < size) (n c : Nat) (A : Option Addr) (xs : List Value) (hs : a.eval s = .slice A n c) (hown : w.ownsRow base e size (.slice A n c) n xs)
    (hx : a.eval x = .slice (some ⟨w.heap.size, 0, none⟩) 1 1) (hb : (n + 1) * bytes ≤ 140737488355328 ∧ n + 1 ≤ maxLen ∧ base ≤ w.heap.size) (hl : cs.toList.length = size) (h1 : ∀ u ∈ cs.toList, u.oneCell' = true)
    (W : World) (hW : ∃ q, W = (w.alloc (.cells cs e)).drewN q)
    (h : ∀ A' c' w', w'.ownsRow base e size (.slice A' (n + 1) c') (n + 1) (xs ++ cs.toList) → Below base w w' → K (a.put o.dst (.slice A' (n + 1) c')) w') :
    if Region.wanted o (yielded ops a.tmps) = true then Oper.wp P o a W K Q else E := by
  obtain ⟨hbytes, h63, hbase⟩ := hb
  obtain ⟨q, rfl⟩ := hW
  have hbase' : base ≤ ((w.alloc (.cells cs e)).drewN q).heap.size := by show base ≤ (w.alloc (.cells cs e)).heap.size; simp; omega
  rw [if_pos hw]
  refine wp_push_all (w := (w.alloc (.cells cs e)).drewN q) s x t ho base e size bytes z ht hinfo hzs hsz n c A xs hs (show ((w.alloc (.cells cs e)).drewN q).ownsRow base e size _ n xs from hown.alloc _) (w.heap.size + 1) 1 1 (some ⟨w.heap.size, 0, none⟩) cs.toList hx (fun h => by cases h) (by omega) (Row.drewN (row_new w cs e) q) h1 h63 hbytes hbase' (fun A' c' w' h2 h3 => h A' c' w' h2 ((Below.drewN' ((Below.refl base w).alloc hbase _) q).trans h3))
theorem add_of_add (a : Addr) (i j : Nat) : (a.add i).add j = a.add (i + j) := by
  unfold Addr.add
  by_cases hi : i = 0 <;> by_cases hj : j = 0 <;> simp [hi, hj, Nat.add_assoc]
theorem Row.take {B : Nat} (h : Row w B A xs) (k : Nat) : Row w B A (xs.take k) := fun hn => by
  obtain ⟨ad, e, hb, hc⟩ := h (by simp at hn; omega)
  exact ⟨ad, e, hb, fun i hi => by rw [hc i (by simp at hi; omega)]; simp⟩
theorem Row.drop {B : Nat} {ad : Addr} (h : Row w B (some ad) xs) (k : Nat) : Row w B (some (ad.add k)) (xs.drop k) := fun hn => by
  obtain ⟨ad', e, hb, hc⟩ := h (by simp at hn; omega)
  injection e with e
  subst e
  refine ⟨_, rfl, by rw [add_block]; exact hb, fun i hi => ?_⟩
  rw [add_of_add, hc (k + i) (by simp at hi; omega)]
  simp
theorem Row.none_nil {B : Nat} (h : Row w B none xs) : xs = [] := by
  rcases Nat.eq_zero_or_pos xs.length with h0 | h0
  · exact List.eq_nil_of_length_eq_zero h0
  · obtain ⟨ad, e, _⟩ := h h0; cases e
theorem Row.dropMap {B : Nat} (h : Row w B A xs) (k : Nat) : Row w B (A.map (fun x => x.add k)) (xs.drop k) := by
  rcases A with _ | ad
  · rw [h.none_nil]; exact fun hn => absurd hn (by simp)
  · exact h.drop k
/-- 'xs[k:]' as the model writes it. -/
theorem Row.cut {B : Nat} (h : Row w B A xs) (k c : Nat) (hc : xs.length ≤ c) : Row w B (if c = k then A else A.map (fun x => x.add k)) (xs.drop k) := by
  by_cases e : c = k
  · rw [List.drop_of_length_le (by omega)]; exact fun hn => absurd hn (by simp)
  · rw [if_neg e]; exact h.dropMap k
theorem cut_nil {k c : Nat} (hnil : A = none → c = 0) : (if c = k then A else A.map (fun x => x.add k)) = none → c - k = 0 := by
  intro h
  by_cases e : c = k
  · omega
  · rw [if_neg e] at h
    have := hnil (by simpa using h)
    omega
end

theorem below_undrew {w w' : World} {n : Nat} (h : Below (w.drewN n).heap.size (w.drewN n) w') : Below w.heap.size w w' := ⟨h.os, h.tape, h.output, h.size, h.block⟩
theorem below_next {a w : World} (h : Below a.heap.size a w) (o : Obj) : Below a.heap.size a (w.alloc o) := h.alloc h.size o

/-- Numbers as cells. -/
def i64s (zs : List Int) : List Value := zs.map (Value.int .i64)
theorem i64s_length (zs : List Int) : (i64s zs).length = zs.length := by simp [i64s]
theorem Row.int {w : World} {B : Nat} {A : Option Addr} {zs : List Int} (h : Row w B A (i64s zs)) {k : Nat} (hk : k < zs.length) :
    ∃ ad, A = some ad ∧ ad.block < B ∧ w.cell? (ad.add k) = some (.int .i64 (zs[k])) := by
  obtain ⟨ad, e, hb, hc⟩ := h.get (k := k) (by rw [i64s_length]; exact hk)
  exact ⟨ad, e, hb, by rw [hc]; simp [i64s]⟩

theorem take_succ' {α : Type} (l : List α) (k : Nat) (h : k < l.length) : l.take (k + 1) = l.take k ++ [l[k]] := List.take_succ_eq_append_getElem h
theorem i64s_append (a b : List Int) : i64s (a ++ b) = i64s a ++ i64s b := by simp [i64s]
theorem i64s_drop (a : List Int) (k : Nat) : (i64s a).drop k = i64s (a.drop k) := by simp [i64s]
theorem i64s_take (a : List Int) (k : Nat) : (i64s a).take k = i64s (a.take k) := by simp [i64s]
theorem i64s_one (a : List Int) : ∀ u ∈ i64s a, u.oneCell' = true := by
  intro u hu; obtain ⟨z, _, rfl⟩ := List.mem_map.1 hu; rfl
theorem sum_take_succ (l : List Int) (k : Nat) (h : k < l.length) : (l.take (k + 1)).sum = (l.take k).sum + l[k] := by
  rw [take_succ' l k h, List.sum_append]; simp
theorem and_mask_i64 (n : Int) (k : Nat) (hk : k ≤ 62) : bits .and .i64 n ((2 ^ k - 1 : Nat) : Int) = n % (2 ^ k : Nat) := by
  have hp : 2 ^ k ≤ 2 ^ 62 := Nat.pow_le_pow_right (by decide) hk
  have hpos : 0 < 2 ^ k := Nat.two_pow_pos k
  show IntKind.i64.wrap ((BitVec.ofInt 64 n &&& BitVec.ofInt 64 ((2 ^ k - 1 : Nat) : Int)).toNat : Int) = _
  rw [BitVec.toNat_and, BitVec.toNat_ofInt, BitVec.toNat_ofInt]
  have e1 : (((2 ^ k - 1 : Nat) : Int) % ((2 ^ 64 : Nat) : Int)).toNat = 2 ^ k - 1 := by
    rw [Int.emod_eq_of_lt (by omega) (by omega)]; omega
  rw [e1, Nat.and_two_pow_sub_one_eq_mod]
  have hlt : (n % ((2 ^ 64 : Nat) : Int)).toNat % 2 ^ k < 2 ^ k := Nat.mod_lt _ hpos
  rw [IntKind.wrap_i64]
  have e2 : (((n % ((2 ^ 64 : Nat) : Int)).toNat % 2 ^ k : Nat) : Int) = n % ((2 ^ k : Nat) : Int) := by
    rw [Int.natCast_emod, Int.toNat_of_nonneg (Int.emod_nonneg _ (by decide))]
    apply Int.emod_emod_of_dvd
    exact Int.natCast_dvd_natCast.2 (Nat.pow_dvd_pow 2 (by omega))
  rw [← e2]
  omega
end Go.Proofs.YtbhdpfacfgldiaaGreatDoor
/- Arguments opened into what the walks are told of them. No program is named here. -/
namespace Go.Proofs.YtbhdpfacfgldiaaGreatDoor
open Go.ChangeShapes Go.WideShapes Go.ChangeAt Go.RowKit
set_option linter.unusedVariables false

theorem cell_lt {w : World} {a : Addr} {v : Value} (h : w.cell? a = some v) : a.block < w.heap.size := by
  rcases Nat.lt_or_ge a.block w.heap.size with hlt | hge
  · exact hlt
  · have hn : w.heap[a.block]? = none := Array.getElem?_eq_none hge
    simp [World.cell?, hn] at h

section
variable {H : Type} {enc : TypeId × Value → H} {P : Program} {w : World} {base : Nat} {spare : Nat → Bool} {held : Bool}
theorem row_of_cells {A : Addr} {xs : List Value} (h : ∀ i (hi : i < xs.length), w.cell? (A.add i) = some xs[i]) : Row w w.heap.size (some A) xs := fun hn => by
  have h0 := cell_lt (h 0 hn)
  rw [add_block] at h0
  exact ⟨A, rfl, h0, h⟩
/-- A slice of integers of one kind: its numbers, whatever the address. -/
theorem open_int_row {t e : TypeId} {k : IntKind} {fuel : Nat} {A : Option Addr} {n c : Nat} {x : DataW H × List MemPlace} (ht : P.underlying t = some (.slice e)) (he : P.underlying e = some (.int k)) (hc : P.cellsOf e = 1)
    (h : DataW.trod enc P w base spare held fuel t (Value.slice A n c).cells.toList = some x) :
    ∃ zs : List Int, n = zs.length ∧ Row w w.heap.size A (zs.map (Value.int k)) ∧ (∀ z ∈ zs, (Lit.int k z).wf = true) ∧ zs.length ≤ c ∧ c ≤ maxLen ∧ (A = none → c = 0) := by
  rcases open_ints ht he hc h with ⟨hcs, _⟩ | ⟨a, l, cap, zs, hcs, _, hl, hm, hz, _, hcell, hwz⟩
  · simp [Value.cells] at hcs
    obtain ⟨rfl, rfl, rfl⟩ := hcs
    exact ⟨[], rfl, Row.nil _ _ _, by simp, by simp, by simp [maxLen], fun _ => rfl⟩
  · simp [Value.cells] at hcs
    obtain ⟨rfl, rfl, rfl⟩ := hcs
    have hlen : n ≤ zs.length := by rw [hz]; split <;> omega
    refine ⟨zs.take n, by simp; omega, row_of_cells (fun i hi => ?_), fun z hz => hwz z (List.mem_of_mem_take hz), by simp; omega, hm, fun h => by cases h⟩
    have hi' : i < n ∧ i < zs.length := by simp at hi; omega
    rw [hcell i hi'.2]
    simp [hi'.2]
end
theorem i64_bounds {zs : List Int} (h : ∀ z ∈ zs, (Lit.int .i64 z).wf = true) : ∀ k (hk : k < zs.length), -9223372036854775808 ≤ zs[k] ∧ zs[k] ≤ 9223372036854775807 :=
  fun k hk => bounds_i64 (h _ (List.getElem_mem hk))
end Go.Proofs.YtbhdpfacfgldiaaGreatDoor
/- Go's quotient and the floor. No program is named here. -/
namespace Go.Proofs.YtbhdpfacfgldiaaGreatDoor
open Go Go.RowKit
set_option linter.unusedVariables false
set_option linter.unusedSimpArgs false
set_option maxRecDepth 20000
set_option maxHeartbeats 4000000

theorem tdiv_floor (a m : Int) (hm : 0 < m) : (a.tmod m < 0 → a.tdiv m - 1 = a / m) ∧ (0 ≤ a.tmod m → a.tdiv m = a / m) := by
  have h1 := @Int.tdiv_eq_ediv a m
  have h2 := @Int.tmod_eq_emod a m
  have h3 := Int.emod_nonneg a (Int.ne_of_gt hm)
  have h4 := Int.emod_lt_of_pos a hm
  have h5 : m.sign = 1 := Int.sign_eq_one_of_pos hm
  have h6 : (m.natAbs : Int) = m := by omega
  by_cases h : 0 ≤ a ∨ m ∣ a
  · rw [if_pos h] at h1 h2
    constructor <;> intro h' <;> omega
  · rw [if_neg h, h5] at h1
    rw [if_neg h] at h2
    constructor <;> intro h' <;> omega
theorem tdiv_bd (a m : Int) (hm : 0 < m) (h0 : -6917529027641081856 ≤ a) (h1 : a ≤ 6917529027641081856) : -6917529027641081856 ≤ a / m ∧ a / m ≤ 6917529027641081856 := by
  have h := Int.mul_ediv_add_emod a m
  have h3 := Int.emod_nonneg a (Int.ne_of_gt hm)
  have h4 := Int.emod_lt_of_pos a hm
  constructor
  · by_cases ha : 0 ≤ a
    · have := Int.ediv_nonneg ha (Int.le_of_lt hm); omega
    · have : a ≤ a / m := by
        rw [Int.le_ediv_iff_mul_le hm]
        have : a * m ≤ a * 1 := Int.mul_le_mul_of_nonpos_left (by omega) (by omega)
        omega
      omega
  · by_cases ha : 0 ≤ a
    · have := Int.ediv_le_self m ha; omega
    · have : a / m < 0 := Int.ediv_neg_of_neg_of_pos (by omega) hm
      omega
end Go.Proofs.YtbhdpfacfgldiaaGreatDoor
/- Answers that are numbers and truth values. -/
namespace Go.Proofs.YtbhdpfacfgldiaaGreatDoor
open Go.RowKit

theorem ret_int {k : IntKind} {a b : Int} (h : a = b) : Ending.returned (.int k a) = .returned (.int k b) := by rw [h]
theorem ret_bool {a b : Bool} (h : a = b) : Ending.returned (.bool a) = .returned (.bool b) := by rw [h]
end Go.Proofs.YtbhdpfacfgldiaaGreatDoor
/- unit.Hold. -/
namespace Go.Proofs.YtbhdpfacfgldiaaGreatDoor
open Go.RowKit

def holdZ (n : Int) : Int := max (-1073741824) (min n 1073741824)
theorem hold_bd (n : Int) : -1073741824 ≤ holdZ n ∧ holdZ n ≤ 1073741824 := by unfold holdZ; omega
theorem within_any (n m : Int) (w : World) (h0 : 0 ≤ m) (h1 : m ≤ 4611686018427387904) (hn : -9223372036854775808 ≤ n) (hn' : n ≤ 9223372036854775807) :
    Calls Tryz.prog 148 #[.int .i64 n, .int .i64 m] w fun e w' => e = .returned (.int .i64 (max (-m) (min n m))) ∧ w = w' := by
  rcases (show n < -m ∨ (-m ≤ n ∧ n ≤ m) ∨ m < n by omega) with h | ⟨h, h'⟩ | h
  all_goals
    go_enter Tryz.func148, Tryz.ntmps148
    go_wp2
    all_goals (go_ret; exact ⟨ret_int (by omega), rfl⟩)
theorem hold_any (n : Int) (w : World) (hn : -9223372036854775808 ≤ n) (hn' : n ≤ 9223372036854775807) :
    Calls Tryz.prog 146 #[.int .i64 n] w fun e w' => e = .returned (.int .i64 (holdZ n)) ∧ w = w' := by
  go_enter Tryz.func146, Tryz.ntmps146
  go_wp2_with (go_at_call 148; refine (within_any _ _ _ (by omega) (by omega) (by omega) (by omega)).mono ?_; rintro e w' ⟨rfl, rfl⟩)
  go_ret
  exact ⟨rfl, rfl⟩
end Go.Proofs.YtbhdpfacfgldiaaGreatDoor
/- unit: lengths in pixels. -/
namespace Go.Proofs.YtbhdpfacfgldiaaGreatDoor
open Go.RowKit


def nearZ (n m : Int) : Int := (n + m / 2) / m
def pxZ (t : Int) : Int := holdZ (nearZ (64 * max (-1000000000000) (min t 1000000000000)) 1000)
def pctZ (b h : Int) : Int := holdZ (nearZ (holdZ b * max (-1000000000) (min h 1000000000)) 10000)
def In64 (n : Int) : Prop := -9223372036854775808 ≤ n ∧ n ≤ 9223372036854775807

theorem nearest_any (n m : Int) (w : World) (h0 : 1 ≤ m) (h1 : m ≤ 4611686018427387904) (hn : -4611686018427387904 ≤ n) (hn' : n ≤ 4611686018427387904) :
    Calls Tryz.prog 147 #[.int .i64 n, .int .i64 m] w fun e w' => e = .returned (.int .i64 (nearZ n m)) ∧ w = w' := by
  have hd := tdiv_floor (n + m / 2) m (by omega)
  have hb := tdiv_bd (n + m / 2) m (by omega) (by omega) (by omega)
  have hq : -9223372036854775807 ≤ (n + m / 2).tdiv m ∧ (n + m / 2).tdiv m ≤ 9223372036854775807 := by
    by_cases hs : (n + m / 2).tmod m < 0
    · have := hd.1 hs; omega
    · have := hd.2 (by omega); omega
  obtain ⟨hq1, hq2⟩ := hq
  by_cases hs : (n + m / 2).tmod m < 0
  · have h := Lib.hid (hd.1 hs)
    clear hd hb
    go_enter Tryz.func147, Tryz.ntmps147
    go_wp2
    go_ret
    exact ⟨ret_int h.out, rfl⟩
  · have h := Lib.hid (hd.2 (by omega))
    clear hd hb
    go_enter Tryz.func147, Tryz.ntmps147
    go_wp2
    go_ret
    exact ⟨ret_int h.out, rfl⟩
theorem near_bd (n m : Int) (h0 : 1 ≤ m) (hn : -4611686018427387904 ≤ n) (hn' : n ≤ 4611686018427387904) (hm : m ≤ 4611686018427387904) : -9223372036854775808 ≤ nearZ n m ∧ nearZ n m ≤ 9223372036854775807 := by
  have hd := tdiv_floor (n + m / 2) m (by omega)
  have hb := tdiv_bd (n + m / 2) m (by omega) (by omega) (by omega)
  unfold nearZ
  by_cases hs : (n + m / 2).tmod m < 0
  · have := hd.1 hs; omega
  · have := hd.2 (by omega); omega
end Go.Proofs.YtbhdpfacfgldiaaGreatDoor
/- Declarations and styles as plain numbers. No program is named here. -/
set_option linter.unusedSimpArgs false
namespace Go.Proofs.YtbhdpfacfgldiaaGreatDoor
open Go.RowKit
set_option linter.unusedVariables false

/-- How many words a Prop has. -/
def wordsN (p : Int) : Int :=
  if p = 1 ∨ p = 20 ∨ p = 27 then 4 else if p = 21 ∨ p = 29 ∨ p = 30 then 3 else if p = 26 ∨ p = 28 then 5 else if p = 32 then 2 else 0
/-- Could a text tell a declaration of Prop p, Word w, Len (k, n)? -/
def mayP (p w k n : Int) : Prop :=
  if p < 1 ∨ 32 < p then False
  else if 0 < wordsN p then 0 ≤ w ∧ w < wordsN p ∧ k = 0 ∧ n = 0
  else if p = 23 ∨ p = 24 then 0 ≤ w ∧ w ≤ 100 ∧ k = 0 ∧ n = 0
  else if p = 25 then -1000 ≤ w ∧ w ≤ 1000 ∧ k = 0 ∧ n = 0
  else if (12 ≤ p ∧ p ≤ 19) ∨ p = 31 then w = 0 ∧ k = 1 ∧ 0 ≤ n ∧ n ≤ 6400000
  else if 8 ≤ p ∧ p ≤ 11 then w = 0 ∧ ((k = 1 ∧ -6400000 ≤ n ∧ n ≤ 6400000) ∨ (k = 2 ∧ -999999 ≤ n ∧ n ≤ 999999) ∨ (k = 0 ∧ n = 0))
  else if p = 4 ∨ p = 5 then w = 0 ∧ ((k = 1 ∧ 0 ≤ n ∧ n ≤ 6400000) ∨ (k = 2 ∧ 0 ≤ n ∧ n ≤ 999999))
  else w = 0 ∧ ((k = 1 ∧ 0 ≤ n ∧ n ≤ 6400000) ∨ (k = 2 ∧ 0 ≤ n ∧ n ≤ 999999) ∨ (k = 0 ∧ n = 0))
instance (p w k n : Int) : Decidable (mayP p w k n) := by unfold mayP; infer_instance
def mayZ (p w k n : Int) : Bool := decide (mayP p w k n)
/-- Where a Prop's cells begin, of a style's 43. -/
def offZ (p : Int) : Nat :=
  if p = 1 then 0 else if p = 20 then 1 else if p = 21 then 2 else if p = 26 then 3 else if p = 27 then 4 else if p = 28 then 5 else if p = 29 then 6 else if p = 30 then 7 else if p = 32 then 8
  else if p = 22 then 21 else if p < 8 then (2 * p + 5).toNat else if p < 12 then (2 * p + 7).toNat else if p < 20 then (p + 19).toNat else if p = 31 then 42 else (p + 16).toNat
/-- A style's cells with a declaration laid over. -/
def laidZ (zs : List Int) (p w k n : Int) : List Int :=
  if p < 1 ∨ 32 < p then zs
  else if 0 < wordsN p ∨ (23 ≤ p ∧ p ≤ 25) then zs.set (offZ p) w
  else if (12 ≤ p ∧ p ≤ 19) ∨ p = 31 then zs.set (offZ p) n
  else (zs.set (offZ p) k).set (offZ p + 1) n
theorem laidZ_length (zs : List Int) (p w k n : Int) : (laidZ zs p w k n).length = zs.length := by
  unfold laidZ; split <;> try split <;> try split
  all_goals simp
/-- What is initial. -/
def initZ : List Int := [1, 0, 0, 0, 3, 0, 0, 0, 0,  0, 0, 0, 0, 1, 0, 1, 0, 0, 0, 0, 0, 0, 0,  1, 0, 1, 0, 1, 0, 1, 0,  0, 0, 0, 0,  0, 0, 0, 0,  0, 1, 0,  1280]
structure Dc where
  p : Int
  w : Int
  k : Int
  n : Int
def dCells : List Dc → List Int
  | [] => []
  | d :: r => d.p :: d.w :: d.k :: d.n :: dCells r
/-- A style with each of a row laid over. -/
def styleZ (zs : List Int) : List Dc → List Int
  | [] => zs
  | d :: r => styleZ (if mayZ d.p d.w d.k d.n = true then laidZ zs d.p d.w d.k d.n else zs) r
theorem dCells_length (l : List Dc) : (dCells l).length = l.length * 4 := by
  induction l with
  | nil => rfl
  | cons d r ih => simp [dCells, ih]; omega
theorem dCells_append (a b : List Dc) : dCells (a ++ b) = dCells a ++ dCells b := by
  induction a with
  | nil => rfl
  | cons d r ih => simp [dCells, ih]
theorem dCells_get (l : List Dc) : ∀ k (h : k < l.length), (dCells l)[k * 4]? = some l[k].p ∧ (dCells l)[k * 4 + 1]? = some l[k].w ∧ (dCells l)[k * 4 + 2]? = some l[k].k ∧ (dCells l)[k * 4 + 3]? = some l[k].n := by
  induction l with
  | nil => intro k h; simp at h
  | cons d r ih =>
    intro k h
    cases k with
    | zero => exact ⟨rfl, rfl, rfl, rfl⟩
    | succ k =>
      have := ih k (by simpa using h)
      rw [show (k + 1) * 4 = k * 4 + 1 + 1 + 1 + 1 by omega]
      simpa [dCells] using this
theorem styleZ_append (a b : List Dc) : ∀ zs, styleZ zs (a ++ b) = styleZ (styleZ zs a) b := by
  induction a with
  | nil => intro zs; rfl
  | cons d r ih => intro zs; simp [styleZ, ih]
theorem styleZ_length (l : List Dc) : ∀ zs, (styleZ zs l).length = zs.length := by
  induction l with
  | nil => intro zs; rfl
  | cons d r ih => intro zs; rw [styleZ, ih]; split <;> simp [laidZ_length]
theorem styleZ_take (zs : List Int) (l : List Dc) (k : Nat) (h : k < l.length) :
    styleZ zs (l.take (k + 1)) = if mayZ l[k].p l[k].w l[k].k l[k].n = true then laidZ (styleZ zs (l.take k)) l[k].p l[k].w l[k].k l[k].n else styleZ zs (l.take k) := by
  rw [List.take_succ_eq_append_getElem h, styleZ_append]; rfl

def pxB (w k n : Int) : Bool := decide (w = 0 ∧ k = 1 ∧ -6400000 ≤ n ∧ n ≤ 6400000)
def pctB (w k n : Int) : Bool := decide (w = 0 ∧ k = 2 ∧ -999999 ≤ n ∧ n ≤ 999999)
def autoB (w k n : Int) : Bool := decide (w = 0 ∧ k = 0 ∧ n = 0)
section
variable {p w k n : Int}
theorem wordsN_none (h : ¬ (p = 1 ∨ p = 20 ∨ p = 21 ∨ p = 26 ∨ p = 27 ∨ p = 28 ∨ p = 29 ∨ p = 30 ∨ p = 32)) : wordsN p = 0 := by
  unfold wordsN
  rw [if_neg (by omega), if_neg (by omega), if_neg (by omega), if_neg (by omega)]
theorem wordsN_pos (h : p = 1 ∨ p = 20 ∨ p = 21 ∨ p = 26 ∨ p = 27 ∨ p = 28 ∨ p = 29 ∨ p = 30 ∨ p = 32) : 0 < wordsN p ∧ wordsN p ≤ 5 := by
  rcases h with rfl | rfl | rfl | rfl | rfl | rfl | rfl | rfl | rfl <;> decide
theorem wordsN_le (p : Int) : 0 ≤ wordsN p ∧ wordsN p ≤ 5 := by
  by_cases h : p = 1 ∨ p = 20 ∨ p = 21 ∨ p = 26 ∨ p = 27 ∨ p = 28 ∨ p = 29 ∨ p = 30 ∨ p = 32
  · have := wordsN_pos h; omega
  · rw [wordsN_none h]; decide
theorem may_iff : (mayZ p w k n = true) ↔ mayP p w k n := by unfold mayZ; exact decide_eq_true_iff
theorem may_out (h : p < 1 ∨ 32 < p) : mayZ p w k n = false := by
  rw [Bool.eq_false_iff]; intro h1; rw [may_iff] at h1; unfold mayP at h1; rw [if_pos h] at h1; exact h1
theorem may_words (h : p = 1 ∨ p = 20 ∨ p = 21 ∨ p = 26 ∨ p = 27 ∨ p = 28 ∨ p = 29 ∨ p = 30 ∨ p = 32) : mayZ p w k n = decide (0 ≤ w ∧ w < wordsN p ∧ k = 0 ∧ n = 0) := by
  have h1 := wordsN_pos h
  rw [Bool.eq_iff_iff, may_iff, decide_eq_true_iff]; unfold mayP
  rw [if_neg (by omega), if_pos h1.1]
theorem may_whole (h : p = 23 ∨ p = 24) : mayZ p w k n = decide (0 ≤ w ∧ w ≤ 100 ∧ k = 0 ∧ n = 0) := by
  have h1 := wordsN_none (p := p) (by omega)
  rw [Bool.eq_iff_iff, may_iff, decide_eq_true_iff]; unfold mayP
  rw [if_neg (by omega), if_neg (by omega), if_pos h]
theorem may_order (h : p = 25) : mayZ p w k n = decide (-1000 ≤ w ∧ w ≤ 1000 ∧ k = 0 ∧ n = 0) := by
  have h1 := wordsN_none (p := p) (by omega)
  rw [Bool.eq_iff_iff, may_iff, decide_eq_true_iff]; unfold mayP
  rw [if_neg (by omega), if_neg (by omega), if_neg (by omega), if_pos h]
theorem may_px (h : (12 ≤ p ∧ p ≤ 19) ∨ p = 31) : mayZ p w k n = (pxB w k n && decide (0 ≤ n)) := by
  have h1 := wordsN_none (p := p) (by omega)
  rw [Bool.eq_iff_iff, may_iff]; unfold mayP pxB
  rw [if_neg (by omega), if_neg (by omega), if_neg (by omega), if_neg (by omega), if_pos h]
  simp only [Bool.and_eq_true, Bool.or_eq_true, decide_eq_true_iff]
  omega
theorem may_margin (h : 8 ≤ p ∧ p ≤ 11) : mayZ p w k n = (pxB w k n || pctB w k n || autoB w k n) := by
  have h1 := wordsN_none (p := p) (by omega)
  rw [Bool.eq_iff_iff, may_iff]; unfold mayP pxB pctB autoB
  rw [if_neg (by omega), if_neg (by omega), if_neg (by omega), if_neg (by omega), if_neg (by omega), if_pos h]
  simp only [Bool.and_eq_true, Bool.or_eq_true, decide_eq_true_iff]
  omega
theorem may_min (h : p = 4 ∨ p = 5) : mayZ p w k n = ((pxB w k n || pctB w k n) && decide (0 ≤ n)) := by
  have h1 := wordsN_none (p := p) (by omega)
  rw [Bool.eq_iff_iff, may_iff]; unfold mayP pxB pctB
  rw [if_neg (by omega), if_neg (by omega), if_neg (by omega), if_neg (by omega), if_neg (by omega), if_neg (by omega), if_pos h]
  simp only [Bool.and_eq_true, Bool.or_eq_true, decide_eq_true_iff]
  omega
theorem may_rest (h : p = 2 ∨ p = 3 ∨ p = 6 ∨ p = 7 ∨ p = 22) : mayZ p w k n = (((pxB w k n || pctB w k n) && decide (0 ≤ n)) || autoB w k n) := by
  have h1 := wordsN_none (p := p) (by omega)
  rw [Bool.eq_iff_iff, may_iff]; unfold mayP pxB pctB autoB
  rw [if_neg (by omega), if_neg (by omega), if_neg (by omega), if_neg (by omega), if_neg (by omega), if_neg (by omega), if_neg (by omega)]
  simp only [Bool.and_eq_true, Bool.or_eq_true, decide_eq_true_iff]
  omega
end
end Go.Proofs.YtbhdpfacfgldiaaGreatDoor
/- Nodes as a list: each behind its parent. No program is named here. -/
namespace Go.Proofs.YtbhdpfacfgldiaaGreatDoor
open Go Go.RowKit
set_option linter.unusedVariables false
set_option linter.unusedSimpArgs false

structure Nd where
  id : Int
  par : Int
  tx : Bool
  dat : ByteArray
  sty : List Dc
def atZ (L : List Nd) (id : Int) : Option Nd := L.find? (fun n => n.id == id)
def hasZ (L : List Nd) (id : Int) : Bool := (atZ L id).isSome
def parZ (L : List Nd) (id : Int) : Int := match atZ L id with | some n => n.par | none => -1
def txZ (L : List Nd) (id : Int) : Bool := match atZ L id with | some n => n.tx | none => false
/-- The kids of a node, in their order: the root, which is first, is nobody's. -/
def kidsZ (L : List Nd) (id : Int) : List Int := (L.tail.filter (fun n => n.par == id)).map Nd.id
def deepF (L : List Nd) : Nat → Int → Int
  | 0, _ => -1
  | f + 1, id => if hasZ L id = true then 1 + deepF L f (parZ L id) else -1
def deepZ (L : List Nd) (id : Int) : Int := deepF L (L.length + 1) id
def belowF (L : List Nd) : Nat → Int → Int → Bool
  | 0, id, of_ => id == of_
  | f + 1, id, of_ => if id = of_ then true else if hasZ L id = true then belowF L f (parZ L id) of_ else false
def belowZ (L : List Nd) (id of_ : Int) : Bool := hasZ L of_ && belowF L (L.length + 1) id of_
def rkZ (L : List Nd) (id : Int) : Nat := L.findIdx (fun n => n.id == id)
structure TreeOk (L : List Nd) : Prop where
  nd : (L.map Nd.id).Nodup
  rng : ∀ n ∈ L, 0 ≤ n.id ∧ n.id ≤ 1000
  root : ∃ r R, L = r :: R ∧ r.id = 0 ∧ r.par = -1 ∧ r.tx = false
  up : ∀ i (h : i < L.length), 0 < i → ∃ j, ∃ hj : j < i, (L[j]'(by omega)).id = L[i].par
theorem at_some {L : List Nd} {id : Int} {n : Nd} (h : atZ L id = some n) : n ∈ L ∧ n.id = id := by
  unfold atZ at h
  exact ⟨List.mem_of_find?_eq_some h, by simpa using List.find?_some h⟩
theorem at_none {L : List Nd} {id : Int} : atZ L id = none ↔ ∀ n ∈ L, n.id ≠ id := by
  unfold atZ; simp
theorem has_iff {L : List Nd} {id : Int} : hasZ L id = true ↔ ∃ n ∈ L, n.id = id := by
  unfold hasZ
  constructor
  · intro h
    obtain ⟨n, hn⟩ := Option.isSome_iff_exists.1 h
    exact ⟨n, at_some hn⟩
  · rintro ⟨n, hn, e⟩
    cases h : atZ L id with
    | some m => rfl
    | none => exact absurd e (at_none.1 h n hn)
theorem has_no {L : List Nd} {id : Int} (h : hasZ L id = false) : atZ L id = none := by
  unfold hasZ at h
  cases e : atZ L id with
  | none => rfl
  | some n => rw [e] at h; cases h
theorem par_no {L : List Nd} {id : Int} (h : hasZ L id = false) : parZ L id = -1 := by unfold parZ; rw [has_no h]
theorem TreeOk.at_mem {L : List Nd} (h : TreeOk L) {n : Nd} (hn : n ∈ L) : atZ L n.id = some n := by
  cases e : atZ L n.id with
  | none => exact absurd rfl (at_none.1 e n hn)
  | some m =>
    obtain ⟨hm, hid⟩ := at_some e
    obtain ⟨i, hi, ei⟩ := List.mem_iff_getElem.1 hn
    obtain ⟨j, hj, ej⟩ := List.mem_iff_getElem.1 hm
    have h1 : (L.map Nd.id)[i]'(by simpa using hi) = (L.map Nd.id)[j]'(by simpa using hj) := by simp [ei, ej, hid]
    have h2 := (List.getElem_inj h.nd).1 h1
    subst h2
    rw [← ei, ← ej]
theorem TreeOk.not_nobody {L : List Nd} (h : TreeOk L) {id : Int} (hi : id < 0) : hasZ L id = false := by
  rw [Bool.eq_false_iff]; intro hc
  obtain ⟨n, hn, e⟩ := has_iff.1 hc
  have := h.rng n hn
  omega
/-- Where a node stands. -/
theorem TreeOk.rank {L : List Nd} (h : TreeOk L) {i : Nat} (hi : i < L.length) : rkZ L L[i].id = i := by
  unfold rkZ
  refine (List.findIdx_eq hi).2 ⟨by simp, fun j hj => ?_⟩
  have hne : (L.map Nd.id)[j]'(by simp; omega) ≠ (L.map Nd.id)[i]'(by simpa using hi) := fun e => by
    have := (List.getElem_inj h.nd).1 e
    omega
  simp only [List.getElem_map] at hne
  simp [hne]
theorem TreeOk.step {L : List Nd} (h : TreeOk L) {id : Int} (hh : hasZ L id = true) :
    rkZ L id < L.length ∧ ((id = 0 ∧ parZ L id = -1) ∨ (hasZ L (parZ L id) = true ∧ rkZ L (parZ L id) < rkZ L id)) := by
  obtain ⟨n, hn, rfl⟩ := has_iff.1 hh
  obtain ⟨i, hi, rfl⟩ := List.mem_iff_getElem.1 hn
  have e : parZ L L[i].id = L[i].par := by unfold parZ; rw [h.at_mem hn]
  rw [e, h.rank hi]
  refine ⟨hi, ?_⟩
  by_cases h0 : i = 0
  · subst h0
    obtain ⟨r, R, rfl, e1, e2, e3⟩ := h.root
    exact .inl ⟨e1, e2⟩
  · obtain ⟨j, hj, ej⟩ := h.up i hi (by omega)
    rw [← ej, h.rank (show j < L.length by omega)]
    exact .inr ⟨has_iff.2 ⟨_, List.getElem_mem _, rfl⟩, hj⟩
theorem TreeOk.deepF_more {L : List Nd} (h : TreeOk L) : ∀ (f : Nat) (id : Int), (hasZ L id = true → rkZ L id + 1 < f) → 0 < f → deepF L f id = deepF L (f + 1) id
  | 0, _, _, h0 => absurd h0 (by omega)
  | f + 1, id, hr, _ => by
    rw [deepF, deepF]
    by_cases hh : hasZ L id = true
    · rw [if_pos hh, if_pos hh]
      have := hr hh
      rcases (h.step hh).2 with ⟨e1, e2⟩ | ⟨e1, e2⟩
      · rw [e2, h.deepF_more f (-1) (fun hc => by rw [h.not_nobody (by omega)] at hc; cases hc) (by omega)]
      · rw [h.deepF_more f (parZ L id) (fun _ => by omega) (by omega)]
    · rw [if_neg hh, if_neg hh]
theorem TreeOk.deep_has {L : List Nd} (h : TreeOk L) {id : Int} (hh : hasZ L id = true) : deepZ L id = 1 + deepZ L (parZ L id) := by
  unfold deepZ
  rw [deepF, if_pos hh]
  have hs := h.step hh
  have hL : 0 < L.length := by omega
  congr 1
  rcases hs.2 with ⟨e1, e2⟩ | ⟨e1, e2⟩
  · rw [e2, h.deepF_more L.length (-1) (fun hc => by rw [h.not_nobody (by omega)] at hc; cases hc) hL]
  · exact h.deepF_more L.length _ (fun _ => by omega) hL
theorem deep_no {L : List Nd} {id : Int} (hh : hasZ L id = false) : deepZ L id = -1 := by
  unfold deepZ; rw [deepF, if_neg (by rw [hh]; decide)]
theorem TreeOk.belowF_more {L : List Nd} (h : TreeOk L) (of_ : Int) (ho : 0 ≤ of_) : ∀ (f : Nat) (id : Int), (hasZ L id = true → rkZ L id + 1 < f) → 0 < f → belowF L f id of_ = belowF L (f + 1) id of_
  | 0, _, _, h0 => absurd h0 (by omega)
  | f + 1, id, hr, _ => by
    rw [belowF, belowF]
    by_cases he : id = of_
    · rw [if_pos he, if_pos he]
    rw [if_neg he, if_neg he]
    by_cases hh : hasZ L id = true
    · rw [if_pos hh, if_pos hh]
      have := hr hh
      rcases (h.step hh).2 with ⟨e1, e2⟩ | ⟨e1, e2⟩
      · rw [e2, h.belowF_more of_ ho f (-1) (fun hc => by rw [h.not_nobody (by omega)] at hc; cases hc) (by omega)]
      · rw [h.belowF_more of_ ho f (parZ L id) (fun _ => by omega) (by omega)]
    · rw [if_neg hh, if_neg hh]
/-- One step up. -/
theorem TreeOk.below_step {L : List Nd} (h : TreeOk L) {id of_ : Int} (ho : hasZ L of_ = true) (hne : id ≠ of_) : belowZ L id of_ = belowZ L (parZ L id) of_ := by
  have h0 : 0 ≤ of_ := by
    obtain ⟨n, hn, rfl⟩ := has_iff.1 ho
    exact (h.rng n hn).1
  unfold belowZ
  rw [ho, Bool.true_and, Bool.true_and]
  rw [belowF, if_neg hne]
  have hL : 0 < L.length := by
    obtain ⟨r, R, rfl, -⟩ := h.root
    simp
  by_cases hh : hasZ L id = true
  · rw [if_pos hh]
    have hs := h.step hh
    rcases hs.2 with ⟨e1, e2⟩ | ⟨e1, e2⟩
    · rw [e2, h.belowF_more of_ h0 L.length (-1) (fun hc => by rw [h.not_nobody (by omega)] at hc; cases hc) hL]
    · exact h.belowF_more of_ h0 L.length _ (fun _ => by omega) hL
  · rw [if_neg hh]
    have hp : parZ L id = -1 := par_no (by simpa using hh)
    rw [hp, belowF, if_neg (by omega), if_neg (by rw [h.not_nobody (by omega)]; decide)]
theorem below_self {L : List Nd} {id : Int} (ho : hasZ L id = true) : belowZ L id id = true := by
  unfold belowZ; rw [ho, belowF, if_pos rfl]; rfl
theorem TreeOk.below_nobody {L : List Nd} (h : TreeOk L) {of_ : Int} (ho : hasZ L of_ = true) : belowZ L (-1) of_ = false := by
  have h0 : 0 ≤ of_ := by
    obtain ⟨n, hn, rfl⟩ := has_iff.1 ho
    exact (h.rng n hn).1
  unfold belowZ
  rw [ho, belowF, if_neg (by omega), if_neg (by rw [h.not_nobody (by omega)]; decide)]; rfl
end Go.Proofs.YtbhdpfacfgldiaaGreatDoor
/- A tree of a list: node by node. No program is named here. -/
namespace Go.Proofs.YtbhdpfacfgldiaaGreatDoor
open Go Go.RowKit
set_option linter.unusedVariables false
set_option linter.unusedSimpArgs false

def fitB (n : Nd) : Bool := if n.tx = true then decide (n.dat.size ≤ 1000) && decide (n.sty.length = 0) else decide (n.dat.size = 0) && n.sty.all fun d => mayZ d.p d.w d.k d.n
def takesB (L : List Nd) (last : Int) (n : Nd) : Bool :=
  decide (0 ≤ n.id ∧ n.id ≤ 1000) && !hasZ L n.id && fitB n && belowZ L last n.par && !txZ L n.par && decide (deepZ L n.par < 20)
def growB (most : Nat) : List Nd → Int → List Nd → Bool
  | _, _, [] => true
  | L, last, n :: r => decide (L.length < most) && takesB L last n && growB most (L ++ [n]) n.id r
def mostZ (most : Int) : Nat := (min (max most 1) 500).toNat
def rootB (n : Nd) : Bool := decide (n.id = 0) && decide (n.par = -1) && !n.tx && fitB n
def ofB (most : Int) : List Nd → Bool
  | [] => false
  | r :: R => rootB r && growB (mostZ most) [r] 0 R
theorem mostZ_bd (most : Int) : 1 ≤ mostZ most ∧ mostZ most ≤ 500 := by unfold mostZ; omega
theorem at_append (L : List Nd) (n : Nd) (id : Int) (hn : hasZ L n.id = false) : atZ (L ++ [n]) id = if id = n.id then some n else atZ L id := by
  unfold atZ
  rw [List.find?_append]
  by_cases h : id = n.id
  · subst h
    have : List.find? (fun m => m.id == n.id) L = none := has_no hn
    rw [this]; simp
  · rw [if_neg h]
    cases e : List.find? (fun m => m.id == id) L with
    | some m => simp
    | none => simp; exact fun e => h e.symm
theorem has_append (L : List Nd) (n : Nd) (id : Int) (hn : hasZ L n.id = false) : hasZ (L ++ [n]) id = (decide (id = n.id) || hasZ L id) := by
  unfold hasZ
  rw [at_append L n id hn]
  by_cases h : id = n.id <;> simp [h]
theorem par_append (L : List Nd) (n : Nd) (id : Int) (hn : hasZ L n.id = false) : parZ (L ++ [n]) id = if id = n.id then n.par else parZ L id := by
  unfold parZ
  rw [at_append L n id hn]
  by_cases h : id = n.id <;> simp [h]
theorem tx_append (L : List Nd) (n : Nd) (id : Int) (hn : hasZ L n.id = false) : txZ (L ++ [n]) id = if id = n.id then n.tx else txZ L id := by
  unfold txZ
  rw [at_append L n id hn]
  by_cases h : id = n.id <;> simp [h]
theorem kids_append (L : List Nd) (n : Nd) (id : Int) (h0 : L ≠ []) : kidsZ (L ++ [n]) id = if id = n.par then kidsZ L id ++ [n.id] else kidsZ L id := by
  unfold kidsZ
  cases L with
  | nil => exact absurd rfl h0
  | cons r R =>
    simp only [List.cons_append, List.tail_cons, List.filter_append, List.map_append]
    by_cases h : id = n.par
    · subst h; simp
    · have : ¬ n.par = id := fun e => h e.symm
      simp [h, this]
theorem TreeOk.one {r : Nd} (h : rootB r = true) : TreeOk [r] := by
  unfold rootB at h
  simp only [Bool.and_eq_true, decide_eq_true_eq, Bool.not_eq_true'] at h
  obtain ⟨⟨⟨h1, h2⟩, h3⟩, h4⟩ := h
  refine ⟨by simp, fun n hn => ?_, ⟨r, [], rfl, h1, h2, h3⟩, fun i hi h0 => ?_⟩
  · have : n = r := by simpa using hn
    subst this; omega
  · simp at hi; omega
theorem TreeOk.add {L : List Nd} (h : TreeOk L) {n : Nd} (h1 : 0 ≤ n.id ∧ n.id ≤ 1000) (h2 : hasZ L n.id = false) (h3 : hasZ L n.par = true) : TreeOk (L ++ [n]) := by
  refine ⟨?_, ?_, ?_, ?_⟩
  · rw [List.map_append, List.nodup_append]
    refine ⟨h.nd, by simp, ?_⟩
    intro a ha b hb e
    obtain ⟨m, hm, rfl⟩ := List.mem_map.1 ha
    have : b = n.id := by simpa using hb
    subst this
    exact at_none.1 (has_no h2) m hm e
  · intro m hm
    rcases List.mem_append.1 hm with hm | hm
    · exact h.rng m hm
    · have : m = n := by simpa using hm
      subst this; exact h1
  · obtain ⟨r, R, rfl, e⟩ := h.root
    exact ⟨r, R ++ [n], rfl, e⟩
  · intro i hi h0
    by_cases hl : i < L.length
    · obtain ⟨j, hj, e⟩ := h.up i hl h0
      refine ⟨j, hj, ?_⟩
      rw [List.getElem_append_left (by omega), List.getElem_append_left hl]
      exact e
    · have hi' : i = L.length := by simp at hi; omega
      subst hi'
      obtain ⟨m, hm, em⟩ := has_iff.1 h3
      obtain ⟨j, hj, ej⟩ := List.mem_iff_getElem.1 hm
      refine ⟨j, hj, ?_⟩
      rw [List.getElem_append_left hj, List.getElem_append_right (Nat.le_refl _)]
      simp [ej, em]
theorem takes_facts {L : List Nd} {last : Int} {n : Nd} (h : takesB L last n = true) : (0 ≤ n.id ∧ n.id ≤ 1000) ∧ hasZ L n.id = false ∧ fitB n = true ∧ belowZ L last n.par = true ∧ txZ L n.par = false ∧ deepZ L n.par < 20 ∧ hasZ L n.par = true := by
  unfold takesB at h
  simp only [Bool.and_eq_true, decide_eq_true_eq, Bool.not_eq_true'] at h
  obtain ⟨⟨⟨⟨⟨h1, h2⟩, h3⟩, h4⟩, h5⟩, h6⟩ := h
  refine ⟨h1, h2, h3, h4, h5, h6, ?_⟩
  unfold belowZ at h4
  exact (Bool.and_eq_true _ _ ▸ h4).1
theorem TreeOk.takes {L : List Nd} (h : TreeOk L) {last : Int} {n : Nd} (ht : takesB L last n = true) : TreeOk (L ++ [n]) :=
  h.add (takes_facts ht).1 (takes_facts ht).2.1 (takes_facts ht).2.2.2.2.2.2
/-- What a list's tree is, when all are taken. -/
theorem grow_ok (most : Nat) : ∀ (R : List Nd) (L : List Nd) (last : Int), TreeOk L → growB most L last R = true → TreeOk (L ++ R)
  | [], L, _, h, _ => by rw [List.append_nil]; exact h
  | n :: r, L, last, h, hg => by
    rw [growB, Bool.and_eq_true, Bool.and_eq_true] at hg
    have := grow_ok most r (L ++ [n]) n.id (h.takes hg.1.2) hg.2
    rwa [List.append_assoc] at this
theorem of_ok (most : Int) (l : List Nd) (h : ofB most l = true) : TreeOk l := by
  cases l with
  | nil => cases h
  | cons r R =>
    rw [ofB, Bool.and_eq_true] at h
    exact grow_ok _ R [r] 0 (TreeOk.one h.1) h.2
theorem grow_most (most : Nat) : ∀ (R : List Nd) (L : List Nd) (last : Int), growB most L last R = true → L.length ≤ most → (L ++ R).length ≤ most
  | [], L, _, _, h => by simpa using h
  | n :: r, L, last, hg, h => by
    rw [growB, Bool.and_eq_true, Bool.and_eq_true, decide_eq_true_eq] at hg
    have := grow_most most r (L ++ [n]) n.id hg.2 (by simp; omega)
    rwa [List.append_assoc] at this
theorem of_most (most : Int) (l : List Nd) (h : ofB most l = true) : l.length ≤ mostZ most := by
  cases l with
  | nil => cases h
  | cons r R =>
    rw [ofB, Bool.and_eq_true] at h
    exact grow_most _ R [r] 0 h.2 (by have := mostZ_bd most; simp; omega)
end Go.Proofs.YtbhdpfacfgldiaaGreatDoor
/- A node put into a list that is a tree's: it is a tree's again. No program is named here. -/
namespace Go.Proofs.YtbhdpfacfgldiaaGreatDoor
open Go Go.RowKit
set_option linter.unusedVariables false
set_option linter.unusedSimpArgs false

theorem below_out {L : List Nd} (h : TreeOk L) {id of_ : Int} (hn : hasZ L id = false) : belowZ L id of_ = false := by
  cases ho : hasZ L of_
  · unfold belowZ; rw [ho]; rfl
  · have hne : id ≠ of_ := fun e => by subst e; rw [hn] at ho; cases ho
    rw [h.below_step ho hne, par_no hn]
    exact h.below_nobody ho
theorem below_none {L : List Nd} {id of_ : Int} (hn : hasZ L of_ = false) : belowZ L id of_ = false := by unfold belowZ; rw [hn]; rfl
/-- L' has all that L has. -/
structure Agree (L L' : List Nd) : Prop where
  ok : TreeOk L
  ok' : TreeOk L'
  at_ : ∀ id, hasZ L id = true → atZ L' id = atZ L id
section
variable {L L' : List Nd}
theorem Agree.has (h : Agree L L') {id : Int} (hi : hasZ L id = true) : hasZ L' id = true := by
  unfold hasZ; rw [h.at_ id hi]; exact hi
theorem Agree.par (h : Agree L L') {id : Int} (hi : hasZ L id = true) : parZ L' id = parZ L id := by unfold parZ; rw [h.at_ id hi]
theorem Agree.tx (h : Agree L L') {id : Int} (hi : hasZ L id = true) : txZ L' id = txZ L id := by unfold txZ; rw [h.at_ id hi]
theorem Agree.deep (h : Agree L L') : ∀ (k : Nat) (id : Int), rkZ L id < k → hasZ L id = true → deepZ L' id = deepZ L id
  | 0, _, hk, _ => absurd hk (by omega)
  | k + 1, id, hk, hi => by
    rw [h.ok.deep_has hi, h.ok'.deep_has (h.has hi), h.par hi]
    congr 1
    rcases (h.ok.step hi).2 with ⟨e1, e2⟩ | ⟨e1, e2⟩
    · rw [e2, deep_no (h.ok.not_nobody (by omega)), deep_no (h.ok'.not_nobody (by omega))]
    · exact h.deep k _ (by omega) e1
theorem Agree.below (h : Agree L L') (of_ : Int) : ∀ (k : Nat) (id : Int), rkZ L id < k → hasZ L id = true → belowZ L' id of_ = belowZ L id of_
  | 0, _, hk, _ => absurd hk (by omega)
  | k + 1, id, hk, hi => by
    by_cases he : id = of_
    · subst he
      rw [below_self hi, below_self (h.has hi)]
    · cases ho' : hasZ L' of_
      · have ho : hasZ L of_ = false := by
          cases hc : hasZ L of_
          · rfl
          · rw [h.has hc] at ho'; cases ho'
        rw [below_none ho, below_none ho']
      · have e1 : belowZ L' id of_ = belowZ L' (parZ L id) of_ := by rw [h.ok'.below_step ho' he, h.par hi]
        have e2 : belowZ L' (parZ L id) of_ = belowZ L (parZ L id) of_ := by
          rcases (h.ok.step hi).2 with ⟨e3, e4⟩ | ⟨e3, e4⟩
          · rw [e4, below_out h.ok (h.ok.not_nobody (by omega)), below_out h.ok' (h.ok'.not_nobody (by omega))]
          · exact h.below of_ k _ (by omega) e3
        rw [e1, e2]
        cases ho : hasZ L of_
        · rw [below_none ho, below_none ho]
        · rw [h.ok.below_step ho he]
theorem Agree.deep_eq (h : Agree L L') {id : Int} (hi : hasZ L id = true) : deepZ L' id = deepZ L id := h.deep _ id (Nat.lt_succ_self _) hi
theorem Agree.below_eq (h : Agree L L') {id : Int} (of_ : Int) (hi : hasZ L id = true) : belowZ L' id of_ = belowZ L id of_ := h.below of_ _ id (Nat.lt_succ_self _) hi
end
theorem below_has {L : List Nd} (h : TreeOk L) {id of_ : Int} (hb : belowZ L id of_ = true) : hasZ L id = true := by
  cases hc : hasZ L id
  · rw [below_out h hc] at hb; cases hb
  · rfl
theorem takes_mk {L : List Nd} {last : Int} {x : Nd} (h1 : 0 ≤ x.id ∧ x.id ≤ 1000) (h2 : hasZ L x.id = false) (h3 : fitB x = true) (h4 : belowZ L last x.par = true) (h5 : txZ L x.par = false) (h6 : deepZ L x.par < 20) : takesB L last x = true := by
  unfold takesB
  have e1 : decide (0 ≤ x.id ∧ x.id ≤ 1000) = true := by rw [decide_eq_true_eq]; exact h1
  have e6 : decide (deepZ L x.par < 20) = true := by rw [decide_eq_true_eq]; exact h6
  rw [e1, h2, h3, h4, h5, e6]; rfl
/-- .. and one more, which no other one is. -/
theorem Agree.takes {L L' : List Nd} (h : Agree L L') {n : Nd} (hm : ∀ id, id ≠ n.id → hasZ L' id = true → hasZ L id = true) {last : Int} {x : Nd} (hx : x.id ≠ n.id) (ht : takesB L last x = true) : takesB L' last x = true := by
  obtain ⟨h1, h2, h3, h4, h5, h6, h7⟩ := takes_facts ht
  refine takes_mk h1 ?_ h3 ?_ ?_ ?_
  · cases hc : hasZ L' x.id
    · rfl
    · rw [hm _ hx hc] at h2; cases h2
  · rw [h.below_eq _ (below_has h.ok h4)]; exact h4
  · rw [h.tx h7]; exact h5
  · rw [h.deep_eq h7]; exact h6
theorem Agree.add {L L' : List Nd} (h : Agree L L') {n : Nd} (hm : ∀ id, id ≠ n.id → hasZ L' id = true → hasZ L id = true) {last : Int} {x : Nd} (hx : x.id ≠ n.id) (ht : takesB L last x = true) :
    Agree (L ++ [x]) (L' ++ [x]) ∧ ∀ id, id ≠ n.id → hasZ (L' ++ [x]) id = true → hasZ (L ++ [x]) id = true := by
  have ht' := h.takes hm hx ht
  have n1 := (takes_facts ht).2.1
  have n2 := (takes_facts ht').2.1
  refine ⟨⟨h.ok.takes ht, h.ok'.takes ht', fun id hi => ?_⟩, fun id hne hi => ?_⟩
  · rw [at_append L x id n1, at_append L' x id n2]
    by_cases e : id = x.id
    · rw [if_pos e, if_pos e]
    · rw [if_neg e, if_neg e]
      refine h.at_ id ?_
      rw [has_append L x id n1] at hi
      simpa [e] using hi
  · rw [has_append L' x id n2] at hi
    rw [has_append L x id n1]
    by_cases e : id = x.id
    · simp [e]
    · simp only [e, decide_false, Bool.false_or] at hi ⊢
      exact hm id hne hi
theorem grow_more (most : Nat) (n : Nd) : ∀ (R L L' : List Nd) (last : Int), Agree L L' → (∀ id, id ≠ n.id → hasZ L' id = true → hasZ L id = true) → (∀ x ∈ R, x.id ≠ n.id) → L'.length + R.length ≤ most → growB most L last R = true → growB most L' last R = true
  | [], _, _, _, _, _, _, _, _ => rfl
  | x :: R, L, L', last, h, hm, hx, hl, hg => by
    rw [growB, Bool.and_eq_true, Bool.and_eq_true, decide_eq_true_eq] at hg
    obtain ⟨⟨g1, g2⟩, g3⟩ := hg
    have hx0 := hx x List.mem_cons_self
    obtain ⟨a1, a2⟩ := h.add hm hx0 g2
    rw [growB, h.takes hm hx0 g2, grow_more most n R (L ++ [x]) (L' ++ [x]) x.id a1 a2 (fun y hy => hx y (List.mem_cons_of_mem _ hy)) (by simp at hl ⊢; omega) g3]
    simp at hl ⊢; omega
/-- One node put ahead of the rest. -/
theorem put_grow (most : Nat) (P : List Nd) (last : Int) (n : Nd) (S : List Nd) (hP : TreeOk P) (hn : takesB P last n = true) (hg : growB most P last S = true) (hs : ∀ s S', S = s :: S' → belowZ P n.par s.par = true) (hid : ∀ x ∈ S, x.id ≠ n.id)
    (hl : P.length + 1 + S.length ≤ most) : growB most P last (n :: S) = true := by
  have hPn := hP.takes hn
  obtain ⟨h1, h2, h3, h4, h5, h6, h7⟩ := takes_facts hn
  have hA : Agree P (P ++ [n]) := ⟨hP, hPn, fun id hi => by
    rw [at_append P n id h2, if_neg (fun e => by subst e; rw [h2] at hi; cases hi)]⟩
  have hm : ∀ id, id ≠ n.id → hasZ (P ++ [n]) id = true → hasZ P id = true := fun id hne hi => by
    rw [has_append P n id h2] at hi
    simpa [hne] using hi
  have e0 : growB most (P ++ [n]) n.id S = true := by
    cases S with
    | nil => rfl
    | cons s S' =>
      rw [growB, Bool.and_eq_true, Bool.and_eq_true, decide_eq_true_eq] at hg
      obtain ⟨⟨g1, g2⟩, g3⟩ := hg
      have hs0 := hid s List.mem_cons_self
      obtain ⟨k1, k2, k3, k4, k5, k6, k7⟩ := takes_facts g2
      have hsp : s.par ≠ n.id := fun e => by rw [e, h2] at k7; cases k7
      have hnp : hasZ (P ++ [n]) s.par = true := hA.has k7
      have ht : takesB (P ++ [n]) n.id s = true := by
        have hq := hA.takes hm hs0 g2
        obtain ⟨q1, q2, q3, q4, q5, q6, q7⟩ := takes_facts hq
        refine takes_mk q1 q2 q3 ?_ q5 q6
        rw [hPn.below_step hnp (fun e => hsp e.symm), par_append P n n.id h2, if_pos rfl, hA.below_eq _ h7]
        exact hs s S' rfl
      obtain ⟨a1, a2⟩ := hA.add hm hs0 g2
      rw [growB, ht, grow_more most n S' (P ++ [s]) (P ++ [n] ++ [s]) s.id a1 a2 (fun y hy => hid y (List.mem_cons_of_mem _ hy)) (by simp at hl ⊢; omega) g3]
      simp at hl ⊢; omega
  rw [growB, hn, e0]
  simp; omega
/-- The last one's number, of a list behind 'last'. -/
def lastZ (last : Int) : List Nd → Int
  | [] => last
  | x :: r => lastZ x.id r
theorem grow_append (most : Nat) : ∀ (A L : List Nd) (last : Int) (B : List Nd), growB most L last (A ++ B) = (growB most L last A && growB most (L ++ A) (lastZ last A) B)
  | [], L, last, B => by rw [List.nil_append, List.append_nil, growB, Bool.true_and]; rfl
  | x :: A, L, last, B => by
    rw [List.cons_append, growB, growB, grow_append most A (L ++ [x]) x.id B, lastZ, List.append_assoc, List.singleton_append]
    simp only [Bool.and_assoc]
theorem ofB_more (m m' : Int) (l : List Nd) (h : ofB m l = true) (hl : l.length ≤ mostZ m') : ofB m' l = true := by
  have key : ∀ (a b : Nat) (R L : List Nd) (last : Int), growB a L last R = true → L.length + R.length ≤ b → growB b L last R = true := by
    intro a b R
    induction R with
    | nil => intros; rfl
    | cons x R ih =>
      intro L last hg hb
      rw [growB, Bool.and_eq_true, Bool.and_eq_true] at hg
      rw [growB, hg.1.2, ih (L ++ [x]) x.id hg.2 (by simp at hb ⊢; omega)]
      simp at hb ⊢; omega
  cases l with
  | nil => cases h
  | cons r R =>
    rw [ofB, Bool.and_eq_true] at h ⊢
    exact ⟨h.1, key _ _ R [r] 0 h.2 (by simp at hl ⊢; omega)⟩
theorem agree_prefix {A B : List Nd} (h : TreeOk A) (h' : TreeOk (A ++ B)) : Agree A (A ++ B) := ⟨h, h', fun id hi => by
  obtain ⟨n, hn⟩ := Option.isSome_iff_exists.1 hi
  unfold atZ at hn ⊢
  rw [List.find?_append, hn]; rfl⟩
/-- A node put into a tree's list, behind A: what is asked of it speaks of the whole list. -/
theorem put_of (most : Int) (r : Nd) (A S : List Nd) (n : Nd) (h : ofB most (r :: (A ++ S)) = true) (h1 : 0 ≤ n.id ∧ n.id ≤ 1000) (h2 : hasZ (r :: (A ++ S)) n.id = false) (h3 : fitB n = true) (hp : hasZ (r :: A) n.par = true)
    (h5 : txZ (r :: (A ++ S)) n.par = false) (h6 : deepZ (r :: (A ++ S)) n.par < 20) (hb : belowZ (r :: (A ++ S)) (lastZ r.id A) n.par = true) (hs : ∀ s S', S = s :: S' → belowZ (r :: (A ++ S)) n.par s.par = true)
    (hl : (r :: (A ++ S)).length + 1 ≤ mostZ most) : ofB most (r :: (A ++ n :: S)) = true := by
  have hok := of_ok most _ h
  rw [ofB, Bool.and_eq_true, grow_append, Bool.and_eq_true] at h
  obtain ⟨g0, g1, g2⟩ := h
  have hr0 : r.id = 0 := by
    unfold rootB at g0
    simp only [Bool.and_eq_true, decide_eq_true_eq] at g0
    exact g0.1.1.1
  have hP : TreeOk (r :: A) := grow_ok _ A [r] 0 (TreeOk.one g0) g1
  have hA : Agree (r :: A) (r :: (A ++ S)) := by
    have := agree_prefix (B := S) hP (by rw [List.cons_append]; exact hok)
    rwa [List.cons_append] at this
  have hlast : lastZ 0 A = lastZ r.id A := by cases A <;> simp [lastZ, hr0]
  have hlh : hasZ (r :: A) (lastZ r.id A) = true := by
    have : ∀ (A : List Nd) (x : Nd) (L : List Nd), x ∈ L → ∃ m ∈ L ++ A, m.id = lastZ x.id A := fun A => by
      induction A with
      | nil => exact fun x L hx => ⟨x, by simpa using hx, rfl⟩
      | cons y A ih =>
        intro x L hx
        obtain ⟨m, hm, e⟩ := ih y (L ++ [y]) (by simp)
        exact ⟨m, by simpa using hm, e⟩
    obtain ⟨m, hm, e⟩ := this A r [r] (by simp)
    exact has_iff.2 ⟨m, by simpa using hm, e⟩
  have hnd : ∀ x ∈ S, x.id ≠ n.id := fun x hx e => by
    have := has_no h2
    exact at_none.1 this x (by simp [hx]) e
  have hn2 : hasZ (r :: A) n.id = false := by
    cases hc : hasZ (r :: A) n.id
    · rfl
    · rw [hA.has hc] at h2; cases h2
  have ht : takesB (r :: A) (lastZ r.id A) n = true := by
    refine takes_mk h1 hn2 h3 ?_ ?_ ?_
    · rw [← hA.below_eq _ hlh]; exact hb
    · rw [← hA.tx hp]; exact h5
    · rw [← hA.deep_eq hp]; exact h6
  have := put_grow (mostZ most) (r :: A) (lastZ r.id A) n S hP ht (by have := g2; rw [hlast] at this; simpa using this) (fun s S' e => by rw [← hA.below_eq _ hp]; exact hs s S' e) hnd (by simp at hl ⊢; omega)
  rw [ofB, g0, grow_append, g1, hlast]
  simpa using this
end Go.Proofs.YtbhdpfacfgldiaaGreatDoor
/- Where a node goes: as the last one of its parent, or ahead of a kid. No program is named here. -/
namespace Go.Proofs.YtbhdpfacfgldiaaGreatDoor
open Go Go.RowKit
set_option linter.unusedVariables false
set_option linter.unusedSimpArgs false

/-- Where a node's part of the list ends. -/
def endZ (L : List Nd) (p : Int) : Nat := rkZ L p + 1 + ((L.drop (rkZ L p + 1)).takeWhile fun x => belowZ L x.id p).length
theorem rk_get {L : List Nd} {id : Int} (hr : rkZ L id < L.length) : (L[rkZ L id]'hr).id = id := by
  have h1 : (L[rkZ L id].id == id) = true := List.findIdx_getElem (xs := L) (p := fun (n : Nd) => n.id == id) (w := hr)
  simpa using h1
theorem below_trans {L : List Nd} (h : TreeOk L) {a b : Int} (hab : belowZ L a b = true) : ∀ (k : Nat) (x : Int), rkZ L x < k → belowZ L x a = true → belowZ L x b = true
  | 0, _, hk, _ => absurd hk (by omega)
  | k + 1, x, hk, hx => by
    have hxh := below_has h hx
    by_cases e : x = a
    · subst e; exact hab
    · have hah : hasZ L a = true := below_has h hab
      rw [h.below_step hah e] at hx
      by_cases eb : x = b
      · subst eb; exact below_self hxh
      · have hbh : hasZ L b = true := by cases hc : hasZ L b; (rw [below_none hc] at hab; cases hab); rfl
        rw [h.below_step hbh eb]
        rcases (h.step hxh).2 with ⟨e3, e4⟩ | ⟨e3, e4⟩
        · rw [e4, below_out h (h.not_nobody (by omega))] at hx; cases hx
        · exact below_trans h hab k _ (by omega) hx
/-- Two that are above one are above each other. -/
theorem below_chain {L : List Nd} (h : TreeOk L) {a b : Int} : ∀ (k : Nat) (x : Int), rkZ L x < k → belowZ L x a = true → belowZ L x b = true → belowZ L a b = true ∨ belowZ L b a = true
  | 0, _, hk, _, _ => absurd hk (by omega)
  | k + 1, x, hk, ha, hb => by
    have hxh := below_has h ha
    by_cases e : x = a
    · subst e; exact .inl hb
    by_cases e' : x = b
    · subst e'; exact .inr ha
    have hah : hasZ L a = true := by cases hc : hasZ L a; (rw [below_none hc] at ha; cases ha); rfl
    have hbh : hasZ L b = true := by cases hc : hasZ L b; (rw [below_none hc] at hb; cases hb); rfl
    rw [h.below_step hah e] at ha
    rw [h.below_step hbh e'] at hb
    rcases (h.step hxh).2 with ⟨e3, e4⟩ | ⟨e3, e4⟩
    · rw [e4, below_out h (h.not_nobody (by omega))] at ha; cases ha
    · exact below_chain h k _ (by omega) ha hb
theorem next_takes (most : Int) (r s : Nd) (A S : List Nd) (h : ofB most (r :: (A ++ s :: S)) = true) : takesB (r :: A) (lastZ r.id A) s = true ∧ Agree (r :: A) (r :: (A ++ s :: S)) := by
  have hok := of_ok most _ h
  rw [ofB, Bool.and_eq_true, grow_append, Bool.and_eq_true] at h
  obtain ⟨g0, g1, g2⟩ := h
  have hr0 : r.id = 0 := by
    unfold rootB at g0
    simp only [Bool.and_eq_true, decide_eq_true_eq] at g0
    exact g0.1.1.1
  have hlast : lastZ 0 A = lastZ r.id A := by cases A <;> simp [lastZ, hr0]
  rw [hlast, growB, Bool.and_eq_true, Bool.and_eq_true] at g2
  have hP : TreeOk (r :: A) := grow_ok _ A [r] 0 (TreeOk.one g0) g1
  refine ⟨by simpa using g2.1.2, ?_⟩
  have := agree_prefix (B := s :: S) hP (by rw [List.cons_append]; exact hok)
  rwa [List.cons_append] at this
theorem lastZ_get (r : Nd) : ∀ (A : List Nd), lastZ r.id A = ((r :: A)[A.length]'(by simp)).id := by
  have : ∀ (A : List Nd) (x : Nd), lastZ x.id A = ((x :: A)[A.length]'(by simp)).id := fun A => by
    induction A with
    | nil => exact fun x => rfl
    | cons y A ih => exact fun x => by rw [lastZ, ih y]; rfl
  exact fun A => this A r
/-- A list, parted behind k ≥ 1 nodes. -/
theorem part_at {L : List Nd} {k : Nat} (h0 : 0 < k) (hk : k ≤ L.length) : ∃ r A S, L = r :: (A ++ S) ∧ L.take k = r :: A ∧ L.drop k = S ∧ A.length + 1 = k := by
  cases L with
  | nil => simp at hk; omega
  | cons r R =>
    obtain ⟨j, rfl⟩ : ∃ j, k = j + 1 := ⟨k - 1, by omega⟩
    refine ⟨r, R.take j, R.drop j, by rw [List.take_append_drop], rfl, rfl, ?_⟩
    rw [List.length_take]; simp at hk; omega
theorem put_at (most : Int) (L : List Nd) (k : Nat) (n : Nd) (h0 : 0 < k) (hk : k ≤ L.length) (h : ofB most L = true) (h1 : 0 ≤ n.id ∧ n.id ≤ 1000) (h2 : hasZ L n.id = false) (h3 : fitB n = true) (hp : rkZ L n.par < k) (hph : hasZ L n.par = true)
    (h5 : txZ L n.par = false) (h6 : deepZ L n.par < 20) (hb : belowZ L ((L[k - 1]'(by omega)).id) n.par = true) (hs : ∀ (hk' : k < L.length), belowZ L n.par L[k].par = true) (hl : L.length + 1 ≤ mostZ most) : ofB most (L.take k ++ n :: L.drop k) = true := by
  obtain ⟨r, A, S, rfl, e1, e2, e3⟩ := part_at h0 hk
  rw [e1, e2, List.cons_append]
  have hok := of_ok most _ h
  have hpA : hasZ (r :: A) n.par = true := by
    have hr := (hok.step hph).1
    have hx := rk_get hr
    refine has_iff.2 ⟨(r :: (A ++ S))[rkZ (r :: (A ++ S)) n.par]'hr, ?_, hx⟩
    generalize rkZ (r :: (A ++ S)) n.par = i at *
    have : (r :: (A ++ S))[i]'hr = (r :: A)[i]'(by simp; omega) := by
      have e : r :: (A ++ S) = (r :: A) ++ S := rfl
      simp only [e]
      rw [List.getElem_append_left]
    rw [this]
    exact List.getElem_mem _
  refine put_of most r A S n h h1 h2 h3 hpA h5 h6 ?_ (fun s S' e => ?_) hl
  · rw [lastZ_get]
    have : (r :: (A ++ S))[k - 1]'(by omega) = (r :: A)[A.length]'(by simp) := by
      have e : r :: (A ++ S) = (r :: A) ++ S := rfl
      simp only [e]
      rw [List.getElem_append_left (by simp; omega)]
      congr 1; omega
    rw [← this]; exact hb
  · subst e
    have hk' : k < (r :: (A ++ s :: S')).length := by simp; omega
    have := hs hk'
    have e : (r :: (A ++ s :: S'))[k]'hk' = s := by
      have e : r :: (A ++ s :: S') = (r :: A) ++ s :: S' := rfl
      simp only [e]
      rw [List.getElem_append_right (by simp; omega)]
      simp [show k - (A.length + 1) = 0 by omega]
    rwa [e] at this
/-- Ahead of a kid. -/
theorem before_of (most : Int) (L : List Nd) (b : Int) (n : Nd) (h : ofB most L = true) (hb : hasZ L b = true) (hbp : parZ L b = n.par) (h1 : 0 ≤ n.id ∧ n.id ≤ 1000) (h2 : hasZ L n.id = false) (h3 : fitB n = true) (hph : hasZ L n.par = true)
    (h5 : txZ L n.par = false) (h6 : deepZ L n.par < 20) (hl : L.length + 1 ≤ mostZ most) : ofB most (L.take (rkZ L b) ++ n :: L.drop (rkZ L b)) = true := by
  have hok := of_ok most _ h
  have hp0 : 0 ≤ n.par := by
    obtain ⟨m, hm, e⟩ := has_iff.1 hph
    have := hok.rng m hm
    omega
  obtain ⟨k, hkk, hr, hrk, hx, hxp⟩ : ∃ k, rkZ L b = k ∧ ∃ (hk : k < L.length), rkZ L n.par < k ∧ L[k].id = b ∧ L[k].par = n.par := by
    have hr := hok.step hb
    have hx := rk_get hr.1
    refine ⟨rkZ L b, rfl, hr.1, ?_, hx, ?_⟩
    · rcases hr.2 with ⟨e1, e2⟩ | ⟨e1, e2⟩
      · omega
      · rw [hbp] at e2; exact e2
    · have h3 := hok.at_mem (List.getElem_mem hr.1)
      rw [hx] at h3
      have h4 : parZ L b = L[rkZ L b].par := by unfold parZ; rw [h3]
      rw [← h4, hbp]
  rw [hkk]
  refine put_at most L _ n (by omega) (by omega) h h1 h2 h3 hrk hph h5 h6 ?_ (fun hk' => ?_) hl
  · obtain ⟨r, A, S, hL, e1, e2, e3⟩ := part_at (L := L) (k := k) (by omega) (by omega)
    subst hL
    cases S with
    | nil => simp at hr; omega
    | cons s S' =>
      obtain ⟨t1, t2⟩ := next_takes most r s A S' h
      obtain ⟨q1, q2, q3, q4, q5, q6, q7⟩ := takes_facts t1
      have es : (r :: (A ++ s :: S'))[k]'hr = s := by
        have e : r :: (A ++ s :: S') = (r :: A) ++ s :: S' := rfl
        simp only [e]
        rw [List.getElem_append_right (by simp; omega)]
        simp [show k - (A.length + 1) = 0 by omega]
      have el : (r :: (A ++ s :: S'))[k - 1]'(by omega) = (r :: A)[A.length]'(by simp) := by
        have e : r :: (A ++ s :: S') = (r :: A) ++ s :: S' := rfl
        simp only [e]
        rw [List.getElem_append_left (by simp; omega)]
        congr 1; omega
      rw [es] at hxp
      rw [el, ← lastZ_get, ← hxp, t2.below_eq _ (below_has t2.ok q4)]
      exact q4
  · rw [hxp]; exact below_self hph
/-- As the last one. -/
theorem end_of (most : Int) (L : List Nd) (n : Nd) (h : ofB most L = true) (h1 : 0 ≤ n.id ∧ n.id ≤ 1000) (h2 : hasZ L n.id = false) (h3 : fitB n = true) (hph : hasZ L n.par = true)
    (h5 : txZ L n.par = false) (h6 : deepZ L n.par < 20) (hl : L.length + 1 ≤ mostZ most) : ofB most (L.take (endZ L n.par) ++ n :: L.drop (endZ L n.par)) = true ∧ endZ L n.par ≤ L.length := by
  have hok := of_ok most _ h
  have hr := (hok.step hph).1
  have hx := rk_get hr
  generalize hp : n.par = p at *
  obtain ⟨tw, htw⟩ : ∃ tw, ((L.drop (rkZ L p + 1)).takeWhile fun x => belowZ L x.id p) = tw := ⟨_, rfl⟩
  have hE : endZ L p = rkZ L p + 1 + tw.length := by unfold endZ; rw [htw]
  obtain ⟨k, hkk⟩ : ∃ k, endZ L p = k := ⟨_, rfl⟩
  rw [hkk] at hE ⊢
  have hle : tw.length ≤ (L.drop (rkZ L p + 1)).length := by rw [← htw]; exact (List.takeWhile_sublist _).length_le
  rw [List.length_drop] at hle
  have hk : k ≤ L.length := by omega
  have hin : ∀ j, rkZ L p < j → (hj : j < k) → belowZ L (L[j]'(by omega)).id p = true := fun j hj1 hj2 => by
    have hj3 : j - (rkZ L p + 1) < tw.length := by omega
    have : tw[j - (rkZ L p + 1)]'hj3 = L[j]'(by omega) := by
      have e := List.takeWhile_prefix (l := L.drop (rkZ L p + 1)) (fun x => belowZ L x.id p)
      rw [htw] at e
      have e2 := e.getElem hj3
      rw [e2, List.getElem_drop]
      congr 1; omega
    rw [← this]
    have hm : ∀ (l : List Nd) (q : Nd → Bool), ∀ x ∈ l.takeWhile q, q x = true := fun l q => by
      induction l with
      | nil => intro x hx; cases hx
      | cons y l ih =>
        intro x hx
        cases hq : q y
        · rw [List.takeWhile_cons_of_neg (by rw [hq]; decide)] at hx; cases hx
        · rw [List.takeWhile_cons_of_pos hq] at hx
          rcases List.mem_cons.1 hx with rfl | hx
          · exact hq
          · exact ih x hx
    exact hm _ (fun x => belowZ L x.id p) _ (by rw [htw]; exact List.getElem_mem hj3)
  have hlast : belowZ L (L[k - 1]'(by omega)).id p = true := by
    by_cases e : k = rkZ L p + 1
    · have : L[k - 1]'(by omega) = L[rkZ L p]'hr := by congr 1; omega
      rw [this, hx]; exact below_self hph
    · exact hin _ (by omega) (by omega)
  refine ⟨put_at most L _ n (by omega) hk h h1 h2 h3 (by rw [hp]; omega) (by rw [hp]; exact hph) (by rw [hp]; exact h5) (by rw [hp]; exact h6) (by rw [hp]; exact hlast) (fun hk' => ?_) hl, hk⟩
  rw [hp]
  have hno : belowZ L (L[k]'hk').id p = false := by
    have hlt : tw.length < (L.drop (rkZ L p + 1)).length := by rw [List.length_drop]; omega
    have e : (L.drop (rkZ L p + 1))[tw.length]'hlt = L[k]'hk' := by rw [List.getElem_drop]; congr 1; omega
    rw [← e]
    have key : ∀ (l : List Nd) (q : Nd → Bool) (i : Nat) (hi : i < l.length), (l.takeWhile q).length = i → q (l[i]'hi) = false := fun l q => by
      induction l with
      | nil => intro i hi; simp at hi
      | cons x l ih =>
        intro i hi hl
        cases hq : q x
        · rw [List.takeWhile_cons_of_neg (by rw [hq]; decide)] at hl
          subst hl; exact hq
        · rw [List.takeWhile_cons_of_pos hq, List.length_cons] at hl
          subst hl
          exact ih _ (by simpa using hi) rfl
    exact key _ (fun x => belowZ L x.id p) _ hlt (by rw [htw])
  obtain ⟨r, A, S, hL, e1, e2, e3⟩ := part_at (L := L) (k := k) (by omega) hk
  subst hL
  cases S with
  | nil => simp at hk'; omega
  | cons s S' =>
    obtain ⟨t1, t2⟩ := next_takes most r s A S' h
    obtain ⟨q1, q2, q3, q4, q5, q6, q7⟩ := takes_facts t1
    have es : (r :: (A ++ s :: S'))[k]'hk' = s := by
      have e : r :: (A ++ s :: S') = (r :: A) ++ s :: S' := rfl
      simp only [e]
      rw [List.getElem_append_right (by simp; omega)]
      simp [show k - (A.length + 1) = 0 by omega]
    have el : (r :: (A ++ s :: S'))[k - 1]'(by omega) = (r :: A)[A.length]'(by simp) := by
      have e : r :: (A ++ s :: S') = (r :: A) ++ s :: S' := rfl
      simp only [e]
      rw [List.getElem_append_left (by simp; omega)]
      congr 1; omega
    rw [el, ← lastZ_get] at hlast
    rw [es] at hno ⊢
    have hls : belowZ (r :: (A ++ s :: S')) (lastZ r.id A) s.par = true := by rw [t2.below_eq _ (below_has t2.ok q4)]; exact q4
    rcases below_chain hok _ (lastZ r.id A) (Nat.lt_succ_self _) hlast hls with hc | hc
    · exact hc
    · exfalso
      have hsm : s ∈ r :: (A ++ s :: S') := by simp
      have hsp : parZ (r :: (A ++ s :: S')) s.id = s.par := by unfold parZ; rw [hok.at_mem hsm]
      by_cases e : s.id = p
      · rw [e, below_self hph] at hno; cases hno
      · rw [hok.below_step hph e, hsp, hc] at hno; cases hno
end Go.Proofs.YtbhdpfacfgldiaaGreatDoor
/- What holds of kids, parents and depths in a tree of nodes. No program is named here. -/
namespace Go.Proofs.YtbhdpfacfgldiaaGreatDoor
open Go Go.RowKit
set_option linter.unusedVariables false
set_option linter.unusedSimpArgs false

theorem TreeOk.kid {L : List Nd} (h : TreeOk L) {id k : Int} (hk : k ∈ kidsZ L id) : hasZ L k = true ∧ parZ L k = id ∧ hasZ L id = true ∧ k ≠ id ∧ rkZ L id < rkZ L k := by
  unfold kidsZ at hk
  obtain ⟨n, hn, rfl⟩ := List.mem_map.1 hk
  obtain ⟨hn, hp⟩ := List.mem_filter.1 hn
  have hp : n.par = id := by simpa using hp
  have hm : n ∈ L := List.mem_of_mem_tail hn
  have hh : hasZ L n.id = true := has_iff.2 ⟨n, hm, rfl⟩
  have hpar : parZ L n.id = id := by unfold parZ; rw [h.at_mem hm]; exact hp
  have hs := h.step hh
  rcases hs.2 with ⟨e1, e2⟩ | ⟨e1, e2⟩
  · exfalso
    obtain ⟨r, R, rfl, r0, -⟩ := h.root
    have hnd := h.nd
    rw [List.map_cons, List.nodup_cons] at hnd
    exact hnd.1 (List.mem_map.2 ⟨n, hn, by rw [e1, r0]⟩)
  · rw [hpar] at e1 e2
    exact ⟨hh, hpar, e1, fun e => by rw [e] at e2; omega, e2⟩
theorem TreeOk.kids_nodup {L : List Nd} (h : TreeOk L) (id : Int) : (kidsZ L id).Nodup := by
  unfold kidsZ
  have h1 : (L.tail.map Nd.id).Nodup := by
    have := h.nd
    obtain ⟨r, R, rfl, -⟩ := h.root
    rw [List.map_cons, List.nodup_cons] at this
    exact this.2
  exact h1.sublist (List.filter_sublist.map _)
theorem TreeOk.below_rank {L : List Nd} (h : TreeOk L) {b : Int} (hb : hasZ L b = true) : ∀ (k : Nat) (a : Int), rkZ L a < k → hasZ L a = true → belowZ L a b = true → rkZ L b ≤ rkZ L a
  | 0, _, hk, _, _ => absurd hk (by omega)
  | k + 1, a, hk, ha, hab => by
    by_cases e : a = b
    · rw [e]; exact Nat.le_refl _
    · rw [h.below_step hb e] at hab
      rcases (h.step ha).2 with ⟨e1, e2⟩ | ⟨e1, e2⟩
      · rw [e2, below_out h (h.not_nobody (by decide))] at hab; cases hab
      · have := h.below_rank hb k _ (by omega) e1 hab
        omega
theorem TreeOk.below_root {L : List Nd} (h : TreeOk L) : ∀ (k : Nat) (a : Int), rkZ L a < k → hasZ L a = true → belowZ L a 0 = true
  | 0, _, hk, _ => absurd hk (by omega)
  | k + 1, a, hk, ha => by
    have h0 : hasZ L 0 = true := by
      obtain ⟨r, R, rfl, r0, -⟩ := h.root
      exact has_iff.2 ⟨r, List.mem_cons_self .., r0⟩
    by_cases e : a = 0
    · rw [e]; exact below_self h0
    · rw [h.below_step h0 e]
      rcases (h.step ha).2 with ⟨e1, e2⟩ | ⟨e1, e2⟩
      · exact absurd e1 e
      · exact h.below_root k _ (by omega) e1
/-- What TreeOrder asks of a node and its kid. -/
theorem TreeOk.kid_facts {L : List Nd} (h : TreeOk L) {id k : Int} (hk : k ∈ kidsZ L id) : parZ L k = id ∧ deepZ L k = deepZ L id + 1 ∧ belowZ L k id = true ∧ belowZ L id k = false := by
  obtain ⟨h1, h2, h3, h4, h5⟩ := h.kid hk
  refine ⟨h2, by rw [h.deep_has h1, h2]; omega, by rw [h.below_step h3 h4, h2]; exact below_self h3, ?_⟩
  cases e : belowZ L id k with
  | false => rfl
  | true => have := h.below_rank h1 _ id (Nat.lt_succ_self _) h3 e; omega
theorem of_tx (most : Int) (L : List Nd) (h : ofB most L = true) : ∀ n ∈ L.tail, txZ L n.par = false := fun n hn => by
  cases L with
  | nil => simp at hn
  | cons r R =>
    obtain ⟨A, S, rfl⟩ := List.append_of_mem (show n ∈ R from hn)
    obtain ⟨h1, h2⟩ := next_takes most r n A S h
    have hf := takes_facts h1
    rw [h2.tx hf.2.2.2.2.2.2]
    exact hf.2.2.2.2.1
theorem text_kids (most : Int) (L : List Nd) (h : ofB most L = true) {id : Int} (ht : txZ L id = true) : kidsZ L id = [] := by
  unfold kidsZ
  rw [List.map_eq_nil_iff, List.filter_eq_nil_iff]
  intro n hn hc
  have hp : n.par = id := by simpa using hc
  have := of_tx most L h n hn
  rw [hp, ht] at this
  cases this
/-- How many kids the first i have. -/
def cntK (L : List Nd) (i : Nat) : Nat := ((L.take i).map fun n => (kidsZ L n.id).length).sum
theorem cntK_zero (L : List Nd) : cntK L 0 = 0 := by simp [cntK]
theorem cntK_succ (L : List Nd) {i : Nat} (h : i < L.length) : cntK L (i + 1) = cntK L i + (kidsZ L L[i].id).length := by
  unfold cntK; rw [List.take_succ_eq_append_getElem h, List.map_append, List.sum_append]; simp
theorem sum_nil0 {α : Type} : ∀ (l : List α), (l.map fun _ => (0 : Nat)).sum = 0
  | [] => rfl
  | a :: l => by rw [List.map_cons, List.sum_cons, sum_nil0 l]
theorem sum_one : ∀ (ids : List Int) (p : Int), ids.Nodup → p ∈ ids → (ids.map fun i => if p = i then 1 else 0).sum = 1
  | [], _, _, h => by simp at h
  | i :: ids, p, hn, h => by
    rw [List.nodup_cons] at hn
    rw [List.map_cons, List.sum_cons]
    by_cases e : p = i
    · have : (ids.map fun j => if p = j then 1 else 0).sum = 0 := by
        have : (ids.map fun j => if p = j then 1 else 0) = ids.map fun _ => 0 := List.map_congr_left fun j hj => by
          rw [if_neg]; intro e2; exact hn.1 (by rw [← e, e2]; exact hj)
        rw [this]; exact sum_nil0 ids
      rw [if_pos e, this]
    · rw [if_neg e, sum_one ids p hn.2 (by rcases List.mem_cons.1 h with h | h; exact absurd h e; exact h)]
theorem sum_kids : ∀ (T : List Nd) (ids : List Int), ids.Nodup → (∀ n ∈ T, n.par ∈ ids) → (ids.map fun i => (T.filter fun n => n.par == i).length).sum = T.length
  | [], ids, _, _ => by
    have : (ids.map fun i => (([] : List Nd).filter fun n => n.par == i).length) = ids.map fun _ => 0 := List.map_congr_left fun _ _ => rfl
    rw [this]; exact sum_nil0 ids
  | x :: T, ids, hn, h => by
    have ih := sum_kids T ids hn fun n hm => h n (List.mem_cons_of_mem _ hm)
    have e : (ids.map fun i => ((x :: T).filter fun n => n.par == i).length) = ids.map fun i => (if x.par = i then 1 else 0) + (T.filter fun n => n.par == i).length := List.map_congr_left fun i _ => by
      rw [List.filter_cons]
      by_cases e : x.par = i
      · have e2 : (x.par == i) = true := by rw [beq_iff_eq]; exact e
        rw [if_pos e2, if_pos e, List.length_cons]; omega
      · have e2 : ¬ (x.par == i) = true := by rw [beq_iff_eq]; exact e
        rw [if_neg e2, if_neg e, Nat.zero_add]
    have add : ∀ (l : List Int) (f g : Int → Nat), (l.map fun i => f i + g i).sum = (l.map f).sum + (l.map g).sum := fun l f g => by
      induction l with
      | nil => rfl
      | cons a l ih => simp only [List.map_cons, List.sum_cons, ih]; omega
    rw [e, add, sum_one ids x.par hn (h x (List.mem_cons_self ..)), ih, List.length_cons]; omega
theorem TreeOk.count {L : List Nd} (h : TreeOk L) : cntK L L.length + 1 = L.length := by
  unfold cntK
  rw [List.take_length]
  have hp : ∀ n ∈ L.tail, n.par ∈ L.map Nd.id := fun n hn => by
    obtain ⟨i, hi, rfl⟩ := List.mem_iff_getElem.1 hn
    rw [List.getElem_tail]
    obtain ⟨j, hj, ej⟩ := h.up (i + 1) (by simp at hi; omega) (by omega)
    exact List.mem_map.2 ⟨_, List.getElem_mem _, ej⟩
  have := sum_kids L.tail (L.map Nd.id) h.nd hp
  rw [List.map_map] at this
  have e : (L.map fun n => (kidsZ L n.id).length) = L.map ((fun i => (L.tail.filter fun n => n.par == i).length) ∘ Nd.id) := List.map_congr_left fun n _ => by
    simp [kidsZ]
  rw [e, this]
  obtain ⟨r, R, rfl, -⟩ := h.root
  simp
end Go.Proofs.YtbhdpfacfgldiaaGreatDoor
/- A list of nodes, told from the root on, is a tree's. No program is named here. -/
namespace Go.Proofs.YtbhdpfacfgldiaaGreatDoor
open Go Go.RowKit
set_option linter.unusedVariables false
set_option linter.unusedSimpArgs false

inductive Tr where
  | mk (n : Nd) (ks : List Tr)
def Tr.n : Tr → Nd | .mk n _ => n
def Tr.ks : Tr → List Tr | .mk _ k => k
mutual
def Tr.flat : Tr → List Nd
  | .mk n ks => n :: flats ks
def flats : List Tr → List Nd
  | [] => []
  | k :: r => k.flat ++ flats r
end
mutual
/-- A part of the tree of L: each node is there, its kids are L's. -/
def Fits (L : List Nd) : Tr → Prop
  | .mk n ks => atZ L n.id = some n ∧ kidsZ L n.id = ks.map (·.n.id) ∧ Fitss L n.id ks
def Fitss (L : List Nd) (p : Int) : List Tr → Prop
  | [] => True
  | k :: r => k.n.par = p ∧ Fits L k ∧ Fitss L p r
end
theorem flats_append (a b : List Tr) : flats (a ++ b) = flats a ++ flats b := by
  induction a with
  | nil => rfl
  | cons k r ih => rw [List.cons_append, flats, flats, ih, List.append_assoc]
theorem fitss_append (L : List Nd) (p : Int) (a b : List Tr) : Fitss L p (a ++ b) ↔ Fitss L p a ∧ Fitss L p b := by
  induction a with
  | nil => rw [List.nil_append, Fitss]; simp
  | cons k r ih => rw [List.cons_append, Fitss, Fitss, ih]; simp [and_assoc]
theorem root_mem (T : Tr) : T.n ∈ T.flat := by
  cases T with
  | mk n ks => rw [Tr.flat]; exact List.mem_cons_self
mutual
theorem Fits.mem (L : List Nd) : ∀ T : Tr, Fits L T → ∀ x ∈ T.flat, atZ L x.id = some x
  | .mk n ks, h, x, hx => by
    rw [Fits] at h
    rw [Tr.flat] at hx
    rcases List.mem_cons.1 hx with rfl | hx
    · exact h.1
    · exact Fitss.mem L n.id ks h.2.2 x hx
theorem Fitss.mem (L : List Nd) (p : Int) : ∀ ks : List Tr, Fitss L p ks → ∀ x ∈ flats ks, atZ L x.id = some x
  | [], _, x, hx => by rw [flats] at hx; cases hx
  | k :: r, h, x, hx => by
    rw [Fitss] at h
    rw [flats] at hx
    rcases List.mem_append.1 hx with hx | hx
    · exact Fits.mem L k h.2.1 x hx
    · exact Fitss.mem L p r h.2.2 x hx
end
mutual
theorem Fits.keep (L : List Nd) (n : Nd) (h0 : L ≠ []) (hn : hasZ L n.id = false) : ∀ T : Tr, Fits L T → (∀ x ∈ T.flat, x.id ≠ n.par) → Fits (L ++ [n]) T
  | .mk m ks, h, hp => by
    rw [Fits] at h
    have hm : m.id ≠ n.id := fun e => by
      have := h.1
      rw [e, has_no hn] at this
      cases this
    have h1 : m.id ≠ n.par := hp m (by rw [Tr.flat]; exact List.mem_cons_self)
    rw [Fits]
    refine ⟨?_, ?_, Fitss.keep L n h0 hn m.id ks h.2.2 fun x hx => hp x (by rw [Tr.flat]; exact List.mem_cons_of_mem _ hx)⟩
    · rw [at_append L n _ hn, if_neg hm]; exact h.1
    · rw [kids_append L n _ h0, if_neg h1]; exact h.2.1
theorem Fitss.keep (L : List Nd) (n : Nd) (h0 : L ≠ []) (hn : hasZ L n.id = false) (p : Int) : ∀ ks : List Tr, Fitss L p ks → (∀ x ∈ flats ks, x.id ≠ n.par) → Fitss (L ++ [n]) p ks
  | [], _, _ => by rw [Fitss]; trivial
  | k :: r, h, hp => by
    rw [Fitss] at h ⊢
    exact ⟨h.1, Fits.keep L n h0 hn k h.2.1 fun x hx => hp x (by rw [flats]; exact List.mem_append_left _ hx), Fitss.keep L n h0 hn p r h.2.2 fun x hx => hp x (by rw [flats]; exact List.mem_append_right _ hx)⟩
end
/-- The way from the top to the node that was told last. -/
inductive Spine : Tr → List Int → Prop
  | tip (n : Nd) : Spine (.mk n []) [n.id]
  | step (n : Nd) (ks : List Tr) (k : Tr) (s : List Int) : Spine k s → Spine (.mk n (ks ++ [k])) (n.id :: s)
theorem Spine.root {T : Tr} {s : List Int} (h : Spine T s) : T.n.id ∈ s := by
  cases h <;> exact List.mem_cons_self
theorem Spine.mem {T : Tr} {s : List Int} (h : Spine T s) : ∀ x ∈ s, ∃ m ∈ T.flat, m.id = x := by
  induction h with
  | tip n =>
    intro x hx
    have : x = n.id := by simpa using hx
    exact ⟨n, by rw [Tr.flat]; exact List.mem_cons_self, this.symm⟩
  | step n ks k s hk ih =>
    intro x hx
    rcases List.mem_cons.1 hx with rfl | hx
    · exact ⟨n, by rw [Tr.flat]; exact List.mem_cons_self, rfl⟩
    · obtain ⟨m, hm, e⟩ := ih x hx
      refine ⟨m, ?_, e⟩
      rw [Tr.flat, flats_append]
      refine List.mem_cons_of_mem _ (List.mem_append_right _ ?_)
      rw [flats, flats, List.append_nil]
      exact hm
/-- Up along the spine. -/
theorem Spine.up {L : List Nd} {T : Tr} {s : List Int} (h : Spine T s) (hF : Fits L T) : ∀ x ∈ s, x = T.n.id ∨ parZ L x ∈ s := by
  induction h with
  | tip n =>
    intro x hx
    have h1 : x = n.id := by simpa using hx
    exact .inl h1
  | step n ks k s hk ih =>
    intro x hx
    rw [Fits, fitss_append] at hF
    obtain ⟨-, -, -, hF⟩ := hF
    rw [Fitss] at hF
    obtain ⟨hp, hFk, -⟩ := hF
    rcases List.mem_cons.1 hx with rfl | hx
    · exact .inl rfl
    · rcases ih hFk x hx with rfl | h1
      · refine .inr ?_
        have : parZ L k.n.id = n.id := by
          unfold parZ
          rw [Fits.mem L k hFk _ (root_mem k)]
          exact hp
        rw [this]
        exact List.mem_cons_self
      · exact .inr (List.mem_cons_of_mem _ h1)
theorem nodup_left {a b : List Nd} {x y : Nd} (h : ((a ++ b).map Nd.id).Nodup) (hx : x ∈ a) (hy : y ∈ b) : x.id ≠ y.id := by
  rw [List.map_append, List.nodup_append] at h
  exact h.2.2 _ (List.mem_map_of_mem hx) _ (List.mem_map_of_mem hy)
/-- One more node, behind the one that was told last, as the last kid of one on the spine. -/
theorem Spine.add {L : List Nd} (n : Nd) (h0 : L ≠ []) (hn : hasZ L n.id = false) (hk0 : kidsZ L n.id = []) (hne : n.id ≠ n.par) {T : Tr} {s : List Int} (h : Spine T s) :
    Fits L T → (T.flat.map Nd.id).Nodup → n.par ∈ s → ∃ T' s', T'.n = T.n ∧ T'.flat = T.flat ++ [n] ∧ Fits (L ++ [n]) T' ∧ Spine T' s' ∧ n.id ∈ s' := by
  have leaf : Fits (L ++ [n]) (.mk n []) := by
    rw [Fits, Fitss]
    exact ⟨by rw [at_append L n _ hn, if_pos rfl], by rw [kids_append L n _ h0, if_neg hne, hk0]; rfl, trivial⟩
  have hm : ∀ m : Nd, atZ L m.id = some m → m.id ≠ n.id := fun m h e => by
    rw [e, has_no hn] at h
    cases h
  induction h with
  | tip m =>
    intro hF hd hp
    have hp' : n.par = m.id := by simpa using hp
    rw [Fits] at hF
    refine ⟨.mk m [.mk n []], [m.id, n.id], rfl, ?_, ?_, Spine.step m [] (.mk n []) [n.id] (Spine.tip n), by simp⟩
    · simp [Tr.flat, flats]
    · rw [Fits, Fitss, Fitss]
      refine ⟨by rw [at_append L n _ hn, if_neg (hm m hF.1)]; exact hF.1, ?_, hp', leaf, trivial⟩
      rw [kids_append L n _ h0, if_pos hp'.symm, hF.2.1]; rfl
  | step m ks k s hk ih =>
    intro hF hd hp
    rw [Fits, fitss_append, Fitss] at hF
    obtain ⟨hF1, hF2, hF3, hF4, hF5, -⟩ := hF
    have hfl : (Tr.mk m (ks ++ [k])).flat = m :: (flats ks ++ k.flat) := by rw [Tr.flat, flats_append, flats, flats, List.append_nil]
    rw [hfl] at hd ⊢
    by_cases hq : n.par = m.id
    · refine ⟨.mk m ((ks ++ [k]) ++ [.mk n []]), m.id :: [n.id], rfl, ?_, ?_, Spine.step m (ks ++ [k]) (.mk n []) [n.id] (Spine.tip n), by simp⟩
      · rw [Tr.flat, flats_append, flats_append, flats, flats, flats, flats, Tr.flat, flats]; simp
      · have far : ∀ x ∈ flats ks ++ k.flat, x.id ≠ n.par := fun x hx e => by
          rw [List.map_cons, List.nodup_cons] at hd
          exact hd.1 (by rw [← hq, ← e]; exact List.mem_map_of_mem hx)
        rw [Fits, fitss_append, fitss_append, Fitss, Fitss, Fitss, Fitss]
        refine ⟨by rw [at_append L n _ hn, if_neg (hm m hF1)]; exact hF1, ?_, ⟨Fitss.keep L n h0 hn m.id ks hF3 fun x hx => far x (List.mem_append_left _ hx), hF4, Fits.keep L n h0 hn k hF5 fun x hx => far x (List.mem_append_right _ hx), trivial⟩, hq, leaf, trivial⟩
        rw [kids_append L n _ h0, if_pos hq.symm, hF2, List.map_append (l₂ := [Tr.mk n []])]; rfl
    · have hps : n.par ∈ s := by
        rcases List.mem_cons.1 hp with e | e
        · exact absurd e hq
        · exact e
      rw [List.map_cons, List.nodup_cons] at hd
      have hdk : (k.flat.map Nd.id).Nodup := by
        have := hd.2
        rw [List.map_append, List.nodup_append] at this
        exact this.2.1
      obtain ⟨k', s', e1, e2, e3, e4, e5⟩ := ih hF5 hdk hps
      obtain ⟨q, hq1, hq2⟩ := Spine.mem hk n.par hps
      refine ⟨.mk m (ks ++ [k']), m.id :: s', rfl, ?_, ?_, Spine.step m ks k' s' e4, List.mem_cons_of_mem _ e5⟩
      · rw [Tr.flat, flats_append, flats, flats, List.append_nil, e2]; simp
      · rw [Fits, fitss_append, Fitss, Fitss]
        refine ⟨by rw [at_append L n _ hn, if_neg (hm m hF1)]; exact hF1, ?_, Fitss.keep L n h0 hn m.id ks hF3 fun x hx => ?_, by rw [e1]; exact hF4, e3, trivial⟩
        · rw [kids_append L n _ h0, if_neg (fun e => hq e.symm), hF2, List.map_append, List.map_append]
          simp [e1]
        · rw [← hq2]
          exact nodup_left hd.2 hx hq1
/-- What is a tree told from the root on. -/
def PreZ (L : List Nd) (last : Int) : Prop := ∃ T s, T.flat = L ∧ Fits L T ∧ Spine T s ∧ last ∈ s
theorem kids_none {L : List Nd} (h : TreeOk L) {id : Int} (hn : hasZ L id = false) : kidsZ L id = [] := by
  unfold kidsZ
  rw [List.map_eq_nil_iff, List.filter_eq_nil_iff]
  intro m hm e
  obtain ⟨r, R, rfl, -⟩ := h.root
  obtain ⟨i, hi, rfl⟩ := List.mem_iff_getElem.1 (show m ∈ R from hm)
  obtain ⟨j, hj, ej⟩ := h.up (i + 1) (by simp; omega) (by omega)
  have : hasZ (r :: R) id = true := has_iff.2 ⟨_, List.getElem_mem (show j < (r :: R).length by simp; omega), by rw [ej]; simpa using e⟩
  rw [this] at hn
  cases hn
theorem below_spine {L : List Nd} (h : TreeOk L) {T : Tr} {s : List Int} (hs : Spine T s) (hF : Fits L T) (hr : parZ L T.n.id = -1) {of_ : Int} (ho : 0 ≤ of_) :
    ∀ (f : Nat) (x : Int), x ∈ s → belowF L f x of_ = true → of_ ∈ s
  | 0, x, hx, hb => by
    rw [belowF] at hb
    have : x = of_ := by simpa using hb
    exact this ▸ hx
  | f + 1, x, hx, hb => by
    rw [belowF] at hb
    by_cases he : x = of_
    · exact he ▸ hx
    rw [if_neg he] at hb
    split at hb
    · rcases hs.up hF x hx with rfl | h1
      · rw [hr] at hb
        cases f with
        | zero => rw [belowF] at hb; have : (-1 : Int) = of_ := by simpa using hb
                  omega
        | succ f => rw [belowF, if_neg (by omega), if_neg (by rw [h.not_nobody (by omega)]; decide)] at hb; cases hb
      · exact below_spine h hs hF hr ho f _ h1 hb
    · cases hb
theorem PreZ.one {r : Nd} (h : rootB r = true) : PreZ [r] 0 := by
  have ht := TreeOk.one h
  have h0 : r.id = 0 := by
    unfold rootB at h
    simp only [Bool.and_eq_true, decide_eq_true_eq] at h
    exact h.1.1.1
  refine ⟨.mk r [], [r.id], by simp [Tr.flat, flats], ?_, Spine.tip r, by simp [h0]⟩
  rw [Fits, Fitss]
  exact ⟨ht.at_mem (by simp), by simp [kidsZ], trivial⟩
theorem PreZ.takes {L : List Nd} (h : TreeOk L) {last : Int} (hp : PreZ L last) {n : Nd} (ht : takesB L last n = true) : PreZ (L ++ [n]) n.id := by
  obtain ⟨h1, h2, h3, h4, h5, h6, h7⟩ := takes_facts ht
  obtain ⟨T, s, rfl, hF, hS, hl⟩ := hp
  have hroot : T.n.id = 0 ∧ T.n.par = -1 := by
    obtain ⟨r, R, e, e1, e2, -⟩ := h.root
    cases T with
    | mk m ks =>
      rw [Tr.flat] at e
      injection e with e e'
      subst e
      exact ⟨e1, e2⟩
  have hr : parZ T.flat T.n.id = -1 := by
    unfold parZ
    rw [Fits.mem _ T hF _ (root_mem T)]
    exact hroot.2
  have ho : 0 ≤ n.par := by
    obtain ⟨m, hm, e⟩ := has_iff.1 h7
    have := h.rng m hm
    omega
  have hsp : n.par ∈ s := by
    unfold belowZ at h4
    rw [Bool.and_eq_true] at h4
    exact below_spine h hS hF hr ho _ _ hl h4.2
  have hne : n.id ≠ n.par := fun e => by rw [e, h7] at h2; cases h2
  obtain ⟨T', s', e1, e2, e3, e4, e5⟩ := hS.add n (by intro e; have := root_mem T; rw [e] at this; cases this) h2 (kids_none h h2) hne hF h.nd hsp
  exact ⟨T', s', e2, e3, e4, e5⟩
theorem grow_pre (most : Nat) : ∀ (R : List Nd) (L : List Nd) (last : Int), TreeOk L → PreZ L last → growB most L last R = true → ∃ last', PreZ (L ++ R) last'
  | [], L, last, _, hp, _ => ⟨last, by rw [List.append_nil]; exact hp⟩
  | n :: r, L, last, h, hp, hg => by
    rw [growB, Bool.and_eq_true, Bool.and_eq_true] at hg
    have := grow_pre most r (L ++ [n]) n.id (h.takes hg.1.2) (hp.takes h hg.1.2) hg.2
    rwa [List.append_assoc] at this
/-- The tree that a list tells. -/
theorem of_tree (most : Int) (l : List Nd) (h : ofB most l = true) : ∃ T, T.flat = l ∧ Fits l T ∧ T.n.id = 0 := by
  cases l with
  | nil => cases h
  | cons r R =>
    rw [ofB, Bool.and_eq_true] at h
    obtain ⟨last, T, s, e, hF, -, -⟩ := grow_pre _ R [r] 0 (TreeOk.one h.1) (PreZ.one h.1) h.2
    refine ⟨T, e, hF, ?_⟩
    cases T with
    | mk m ks =>
      rw [Tr.flat] at e
      injection e with e _
      subst e
      have h1 := h.1
      unfold rootB at h1
      simp only [Bool.and_eq_true, decide_eq_true_eq] at h1
      exact h1.1.1.1
end Go.Proofs.YtbhdpfacfgldiaaGreatDoor
/- One block of the call's own, its cells all told, none frozen: kept over draws, stores, new blocks. No program is named here. -/
namespace Go.Proofs.YtbhdpfacfgldiaaGreatDoor
set_option linter.unusedVariables false
set_option linter.unusedSimpArgs false
open Go.RowKit

/-- Block g holds just the cells cs (of element type t), and may be written. -/
def Whole (w : World) (g : Nat) (t : TypeId) (cs : List Value) : Prop := w.heap[g]? = some (.cells cs.toArray t (0, 0))

section
variable {w w' : World} {g : Nat} {t : TypeId} {cs : List Value}
theorem Whole.size (h : Whole w g t cs) : g < w.heap.size := (Array.getElem?_eq_some_iff.1 h).1
theorem Whole.cell (h : Whole w g t cs) (i : Nat) : w.cell? ⟨g, i, none⟩ = cs[i]? := by
  rw [cell_of_row w g i cs.toArray t (0, 0) h]; simp
theorem Whole.free (h : Whole w g t cs) (i : Nat) : w.frozen? ⟨g, i, none⟩ = false := by
  have h' : w.heap[g]? = some (.cells cs.toArray t (0, 0)) := h
  simp [World.frozen?, h']
theorem Whole.mk (w : World) (t : TypeId) (cs : Array Value) : Whole (w.alloc (.cells cs t)) w.heap.size t cs.toList := by
  have h := heap_alloc_new w (.cells cs t)
  simpa [Whole] using h
theorem Whole.made (h : Whole w g t cs) (o : Obj) : Whole (w.alloc o) g t cs := (Below.heap_alloc w o g h.size).trans h
theorem Whole.drawn (h : Whole w g t cs) (n : Nat) : Whole (w.drewN n) g t cs := h
theorem Whole.undrawn {n : Nat} (h : Whole (w.drewN n) g t cs) : Whole w g t cs := h
theorem Whole.put (h : Whole w g t cs) (i : Nat) (u : Value) : Whole (w.setCell ⟨g, i, none⟩ u) g t (cs.set i u) := by
  have h' : w.heap[g]? = some (.cells cs.toArray t (0, 0)) := h
  unfold Whole
  simp [World.setCell, Array.getElem?_modify, h']
theorem Whole.other (h : Whole w g t cs) {p : Addr} (hp : g ≠ p.block) (u : Value) : Whole (w.setCell p u) g t cs := (Below.heap_setCell w p u g hp).trans h
theorem Whole.under {B : Nat} (h : Whole w g t cs) (hb : Below B w w') (hg : g < B) : Whole w' g t cs := (hb.block g hg).trans h
/-- Four cells, as the walk asks for them. -/
theorem Whole.four {a b c d : Value} (h : Whole w g t [a, b, c, d]) : w.cell? ⟨g, 0, none⟩ = some a ∧ w.cell? ⟨g, 1, none⟩ = some b ∧ w.cell? ⟨g, 2, none⟩ = some c ∧ w.cell? ⟨g, 3, none⟩ = some d :=
  ⟨h.cell 0, h.cell 1, h.cell 2, h.cell 3⟩
theorem Whole.fourFree {a b c d : Value} (h : Whole w g t [a, b, c, d]) : w.frozen? ⟨g, 0, none⟩ = false ∧ w.frozen? ⟨g, 1, none⟩ = false ∧ w.frozen? ⟨g, 2, none⟩ = false ∧ w.frozen? ⟨g, 3, none⟩ = false :=
  ⟨h.free 0, h.free 1, h.free 2, h.free 3⟩
theorem Whole.putFour {a b c d : Value} (h : Whole w g t [a, b, c, d]) (a' b' c' d' : Value) :
    Whole ((((w.setCell ⟨g, 0, none⟩ a').setCell ⟨g, 1, none⟩ b').setCell ⟨g, 2, none⟩ c').setCell ⟨g, 3, none⟩ d') g t [a', b', c', d'] := (((h.put 0 a').put 1 b').put 2 c').put 3 d'
end
end Go.Proofs.YtbhdpfacfgldiaaGreatDoor
/- A region that draws its order: its head reads, and calls what keeps a class of worlds; its tail (stores, assignments) goes in one forced order. And a class told by a parameter, so that the walk rewrites with what all its worlds have in common. No program is named here. -/
namespace Go.Proofs.YtbhdpfacfgldiaaGreatDoor
set_option linter.unusedVariables false
set_option linter.unusedSimpArgs false
open Go Go.RowKit

section
variable {P : Program} {ops : Array Oper} {md : Region.Mode} {C : World → Prop}

/-- The head's operations in whatever order they come up, each before the n-th; L behind them. -/
def headAny (P : Program) (md : Region.Mode) (ops : Array Oper) (C : World → Prop) (n : Nat) (L : Array Bool → Act → Prop) : Nat → Array Bool → Act → Prop
  | 0, listed, a => L listed a
  | f + 1, listed, a => Region.ready md ops listed ≠ [] ∧ ∀ i ∈ Region.ready md ops listed, i < n ∧ qOp P ops C i (headAny P md ops C n L f (listed.setIfInBounds i true)) a

theorem any_of_headAny {n g : Nat} {L : Array Bool → Act → Prop} {Q' : Exit → Act → World → Prop} (hL : ∀ listed a w, C w → L listed a → wpAny P md ops Q' g listed a w) :
    ∀ (f : Nat) (listed : Array Bool) (a : Act) (w : World), C w → headAny P md ops C n L f listed a → wpAny P md ops Q' (f + g) listed a w := by
  intro f
  induction f with
  | zero => intro listed a w hw h; rw [Nat.zero_add]; exact hL _ _ _ hw h
  | succ f ih =>
    intro listed a w hw h
    rw [show f + 1 + g = (f + g) + 1 by omega]
    exact ⟨fun h0 => absurd h0 h.1, fun i hi => wpOp_of_qOp hw (fun a' w' hw' h' => ih _ a' w' hw' h') (h.2 i hi).2⟩

theorem headAny_first {n i : Nat} {oi : Oper} {v : Value} {L : Array Bool → Act → Prop} (hi : ops[i]? = some oi) (hsel : ∀ (j : Nat) (o : Oper) cs b, ops[j]? = some o → o.op ≠ .select cs b)
    (hs : Region.sinkB md ops n = true) (hc : Region.chainB md ops n = true) (hn : n < ops.size) (hin : i < n) (hdone : ∀ listed a, L listed a → ∀ j ∈ Region.ready md ops listed, n ≤ j) (f : Nat) :
    ∀ (listed : Array Bool) (a : Act), HeadInv md ops n listed →
      (∀ j oj, ops[j]? = some oj → j ≠ i → listed.getD j true = false → (∀ e ∈ oj.after, Region.binds md e = true → e.on ≠ i) → oi.apart ops oj = true) →
      i ∈ Region.ready md ops listed → YieldsIn P ops C oi v a →
      headAny P md ops C n L f (listed.setIfInBounds i true) (a.put oi.dst v) → headAny P md ops C n L (f + 1) listed a := by
  induction f with
  | zero =>
    intro listed a inv _ hr hy H
    have hun := (mem_ready.1 hr).1
    refine ⟨fun h => (by rw [h] at hr; cases hr), fun j hj => ?_⟩
    have hjn : j < n := Nat.lt_of_not_le fun h => tail_waits hs hc hn inv _ i rfl hin hun j h hj
    by_cases e : j = i
    · subst e; exact ⟨hjn, hy.qOp hi H⟩
    · have := hdone _ _ H j (ready_mono hj e); omega
  | succ f ih =>
    intro listed a inv hfree hr hy H
    have hun := (mem_ready.1 hr).1
    refine ⟨fun h => (by rw [h] at hr; cases hr), fun j hj => ?_⟩
    have hjn : j < n := Nat.lt_of_not_le fun h => tail_waits hs hc hn inv _ i rfl hin hun j h hj
    by_cases e : j = i
    · subst e; exact ⟨hjn, hy.qOp hi H⟩
    · obtain ⟨hjun, oj, hoj, hall⟩ := mem_ready.1 hj
      have hnot : ∀ e ∈ oj.after, Region.binds md e = true → e.on ≠ i := fun e he hb heq => by
        have h1 := hall e he hb
        rw [heq, getD_both hun] at h1
        cases h1
      refine ⟨hjn, qOp_mono (fun a' h3 => ih (listed.setIfInBounds j true) a' (inv.set hj hjn) (fun k ok hk hki hk1 hno => hfree k ok hk hki ?_ hno) (ready_mono hr (Ne.symm e)) h3.1 ?_)
        (qOp_put hoj (hfree j oj hoj e hjun hnot) (fun cs b => hsel i oi cs b hi) (fun cs b => hsel j oj cs b hoj) hy (H.2 j (ready_mono hj e)).2)⟩
      · by_cases hjk : j = k
        · subst hjk; exact hjun
        · rw [getD_set_ne true hjk] at hk1; exact hk1
      · rw [Array.setIfInBounds_comm _ _ e]; exact h3.2

theorem headAny_lex {n g : Nat} {Lq : Act → Prop} (hsel : Region.noSelect ops = true) (hs : Region.sinkB md ops n = true) (hc : Region.chainB md ops n = true) (hn : n < ops.size) (l : List Oper) :
    ∀ (k : Nat) (listed : Array Bool) (a : Act), (∀ j, j < l.length → l[j]? = ops[k + j]?) → k + l.length = n → HeadInv md ops n listed →
    Region.lexHead md ops g l.length k listed = true → wpQuiet P ops C Lq l a → headAny P md ops C n (fun listed' a' => Region.seqB md ops g n listed' = true ∧ Lq a') l.length listed a := by
  induction l with
  | nil =>
    intro k listed a _ hk _ hB h
    obtain rfl : k = n := by simpa using hk
    exact ⟨by simpa [Region.lexHead] using hB, h⟩
  | cons o l ih =>
    intro k listed a hl hk inv hB h
    have h0 : ops[k]? = some o := by simpa using (hl 0 (by simp)).symm
    simp only [List.length_cons, Region.lexHead, Bool.and_eq_true] at hB
    obtain ⟨⟨hr, hf⟩, hB'⟩ := hB
    simp only [List.length_cons] at hk
    have hr' : k ∈ Region.ready md ops listed := by simpa using hr
    have hst : qOp P ops C k (wpQuiet P ops C Lq l) a := by unfold qOp; simp only [h0]; exact h
    obtain ⟨v, hy, hK⟩ := yieldsIn_of_qOp h0 hst
    refine headAny_first h0 (Region.noSelect_spec hsel) hs hc hn (by omega) (fun listed' a' hL => seqB_ready hL.1) l.length listed a inv (Region.free_spec h0 hf) hr' hy
      (ih (k + 1) _ _ (fun j hj => ?_) (by omega) (inv.set hr' (by omega)) hB' hK)
    have := hl (j + 1) (by simp; omega)
    simpa [Nat.add_assoc, Nat.add_comm 1 j] using this

/-- The head in the text's order, once, over the class; then the tail as a list. -/
theorem region_class_tail {id : Nat} {Q : Exit → Act → World → Prop} {a : Act} {w : World} {l : List Oper} (n : Nat) (hm : P.follows .mixedOrders = true) (hB : Region.lexTailB .any l.toArray n = true) (hC : C { w with drawn := w.drawn + 1 })
    (h : wpQuiet P l.toArray C (fun a' => ∀ w', C w' → wpList P l.toArray Q (l.drop n) a' w') (l.take n) a) : (Code.region id l.toArray true).wp P Q a w := by
  simp only [Region.lexTailB, Bool.and_eq_true, decide_eq_true_eq] at hB
  obtain ⟨⟨⟨⟨hsel, hn⟩, hs⟩, hc⟩, hlex⟩ := hB
  have hn' : n < l.length := by simpa using hn
  have htl : (l.take n).length = n := by simp; omega
  have hdl : (l.drop n).length = l.toArray.size - n := by simp
  have inv0 : HeadInv .any l.toArray n (Array.replicate l.toArray.size false) :=
    ⟨by simp, fun j oj _ hl => (by rw [getD_replicate_false] at hl; cases hl), fun t _ ht => getD_in (by simpa using ht) (getD_replicate_false _ _)⟩
  have H := headAny_lex (md := .any) (g := l.toArray.size - n) hsel hs hc hn (l.take n) 0 _ a (fun j hj => by
    have hj' : j < n := by rw [htl] at hj; exact hj
    simp [hj']) (by simpa using htl) inv0 (by rw [htl]; exact hlex) h
  refine wp_region_any hm ?_
  have := any_of_headAny (Q' := Q) (g := l.toArray.size - n) (fun listed a' w' hw' hL => by
    have := wpAny_of_seq (md := .any) (Q' := Q) (l.drop n) n listed a' w' (fun j => by simp [List.getElem?_drop]) (by rw [hdl]; exact hL.1) (hL.2 w' hw')
    rwa [hdl] at this) _ _ _ _ hC H
  rw [htl, show n + (l.toArray.size - n) = l.toArray.size by omega] at this
  exact this
end

/-- A world that differs from w0 in blocks from B on alone. -/
structure Later (B : Nat) (w0 : World) where
  w : World
  h : Below B w0 w
instance laterSome {B : Nat} {w0 : World} : Nonempty (Later B w0) := ⟨⟨w0, Below.refl _ _⟩⟩
theorem Later.drawn {B : Nat} {w0 : World} (hb : Below B w0 w0) : ∃ s : Later B w0, ({ w0 with drawn := w0.drawn + 1 } : World) = s.w := ⟨⟨{ w0 with drawn := w0.drawn + 1 }, ⟨hb.os, hb.tape, hb.output, hb.size, hb.block⟩⟩, rfl⟩
theorem later_call {P : Program} {f : FuncId} {args : Array Value} {B : Nat} {w0 : World} {v : Value} (s : Later B w0) (hB : B ≤ w0.heap.size) (h : Calls P f args s.w fun e w' => e = .returned v ∧ Below s.w.heap.size s.w w') :
    Calls P f args s.w fun e w'' => e = .returned v ∧ ∃ s' : Later B w0, w'' = s'.w :=
  h.mono fun _ w' ⟨he, hb⟩ => ⟨he, ⟨w', s.h.trans (hb.mono (Nat.le_trans hB s.h.size))⟩, rfl⟩
theorem later_same {P : Program} {f : FuncId} {args : Array Value} {B : Nat} {w0 : World} {v : Value} (s : Later B w0) (h : Calls P f args s.w fun e w' => e = .returned v ∧ s.w = w') :
    Calls P f args s.w fun e w'' => e = .returned v ∧ ∃ s' : Later B w0, w'' = s'.w :=
  h.mono fun _ _ ⟨he, hb⟩ => ⟨he, s, hb.symm⟩
theorem region_later {P : Program} {id : Nat} {Q : Exit → Act → World → Prop} {a : Act} {w : World} {l : List Oper} (hm : P.follows .mixedOrders = true) (hB : Region.lexB .any l.toArray = true)
    (h : wpQuiet P l.toArray (fun w' => ∃ s : Later w.heap.size w, w' = s.w) (fun a' => ∀ w', (∃ s : Later w.heap.size w, w' = s.w) → Q .normal a' w') l a) : (Code.region id l.toArray true).wp P Q a w :=
  wp_region_quiet (C := fun w' => ∃ s : Later w.heap.size w, w' = s.w) hm hB (Later.drawn (Below.refl _ _)) (by simpa using h)
theorem region_later_tail {P : Program} {id : Nat} {Q : Exit → Act → World → Prop} {a : Act} {w : World} {l : List Oper} (n : Nat) (hm : P.follows .mixedOrders = true) (hB : Region.lexTailB .any l.toArray n = true)
    (h : wpQuiet P l.toArray (fun w' => ∃ s : Later w.heap.size w, w' = s.w) (fun a' => ∀ w', (∃ s : Later w.heap.size w, w' = s.w) → wpList P l.toArray Q (l.drop n) a' w') (l.take n) a) : (Code.region id l.toArray true).wp P Q a w :=
  region_class_tail n hm hB (Later.drawn (Below.refl _ _)) h
end Go.Proofs.YtbhdpfacfgldiaaGreatDoor
/- Regions that draw their order, met by promises: each operation of the head tells, of what it looks at alone, what it yields; then any order goes. No program is named here. -/
namespace Go.Proofs.YtbhdpfacfgldiaaGreatDoor
set_option linter.unusedVariables false
set_option linter.unusedSimpArgs false
open Go Go.RowKit

section
variable {P : Program} {ops : Array Oper}

/-- w' lies behind w: what was there is there. -/
def Behind (w w' : World) : Prop := Below w.heap.size w w'
theorem Behind.refl (w : World) : Behind w w := Below.refl _ _
theorem Behind.trans {a b c : World} (h : Behind a b) (k : Behind b c) : Behind a c := Below.trans h (Below.mono k h.size)
theorem Behind.drawn (w : World) : Behind w { w with drawn := w.drawn + 1 } := ⟨rfl, rfl, rfl, Nat.le_refl _, fun _ _ => rfl⟩

/-- What is told of a slot's value. -/
abbrev Told := Value → World → Prop
def Steady (T : Told) : Prop := ∀ v w w', Behind w w' → T v w → T v w'
theorem steady_eq (u : Value) : Steady fun v _ => v = u := fun _ _ _ _ h => h

def gives (P : Program) (o : Oper) (a : Act) (w : World) (T : Told) : Prop :=
  match (execOp a.eval o).run P w with
  | .ok (.value v) w' => Behind w w' ∧ T v w'
  | .ok .skip w' => Behind w w' ∧ T undef w'
  | .ok (.enter f args) w' => Behind w w' ∧ Calls P f args w' fun e w'' => ∃ v, e = .returned v ∧ Behind w' w'' ∧ T v w''
  | _ => False
def givesIf (P : Program) (ops : Array Oper) (o : Oper) (a : Act) (w : World) (T : Told) : Prop :=
  (Region.wanted o (yielded ops a.tmps) = true ∧ gives P o a w T) ∨ (Region.wanted o (yielded ops a.tmps) = false ∧ T undef w)

theorem wpOp_of_gives {Q : Exit → Act → World → Prop} {i : Nat} {o : Oper} {K : Act → World → Prop} {a : Act} {w : World} {T : Told} (hi : ops[i]? = some o) (h : givesIf P ops o a w T)
    (hK : ∀ v w', Behind w w' → T v w' → K (a.put o.dst v) w') : wpOp P ops Q i K a w := by
  unfold wpOp
  simp only [hi]
  rcases h with ⟨hw, h⟩ | ⟨hw, h⟩
  · rw [if_pos hw]
    refine .inl ?_
    unfold Oper.wp
    unfold gives at h
    generalize (execOp a.eval o).run P w = r at *
    cases r with
    | halt x w' => exact h.elim
    | ok n w' =>
      cases n <;> simp only [Oper.upon] at h ⊢
      case value v => exact hK _ _ h.1 h.2
      case skip => exact hK _ _ h.1 h.2
      case enter f args =>
        refine h.2.mono fun e w'' he => ?_
        obtain ⟨v, rfl, h1, h2⟩ := he
        exact hK _ _ (h.1.trans h1) h2
  · rw [if_neg (by rw [hw]; exact Bool.false_ne_true)]
    exact hK _ _ (Behind.refl w) h

/-- .. by the walk's own law, whatever follows. -/
def givesBy (P : Program) (ops : Array Oper) (o : Oper) (a : Act) (w : World) (T : Told) : Prop :=
  Region.wanted o (yielded ops a.tmps) = true ∧ ∀ (K : Act → World → Prop) (Q : Exit → Act → World → Prop), (∀ v w', Behind w w' → T v w' → K (a.put o.dst v) w') → o.wp P a w K Q
theorem wpOp_of_givesBy {Q : Exit → Act → World → Prop} {i : Nat} {o : Oper} {K : Act → World → Prop} {a : Act} {w : World} {T : Told} (hi : ops[i]? = some o) (h : givesBy P ops o a w T)
    (hK : ∀ v w', Behind w w' → T v w' → K (a.put o.dst v) w') : wpOp P ops Q i K a w := by
  unfold wpOp
  simp only [hi]
  rw [if_pos h.1]
  exact .inl (h.2 K Q hK)

/-- What is told of all slots. -/
abbrev Env := Tmp → Told
def upd (E : Env) (d : Option Tmp) (T : Told) : Env := fun t => if d = some t then T else E t
def dstOf (ops : Array Oper) (k : Nat) : Option Tmp := (ops[k]?).bind (·.dst)
def looksOf (ops : Array Oper) (k : Nat) : List Tmp := ((ops[k]?).map (·.looksAt ops)).getD []
def meets (E : Env) (ts : List Tmp) (a : Act) (w : World) : Prop := ∀ t ∈ ts, E t (a.tmps.getD t undef) w
/-- What operation o owes. -/
def owes (P : Program) (ops : Array Oper) (w0 : World) (E : Env) (o : Oper) (T : Told) : Prop :=
  Steady T ∧ ∀ a w, Behind w0 w → meets E (o.looksAt ops) a w → givesIf P ops o a w T ∨ givesBy P ops o a w T

def lane (P : Program) (ops : Array Oper) (w0 : World) (Fin : Env → Prop) : List Nat → Env → Prop
  | [], E => Fin E
  | k :: r, E => ∃ o T, ops[k]? = some o ∧ owes P ops w0 E o T ∧ lane P ops w0 Fin r (upd E o.dst T)

/-- The environment behind the operations pre, by their promises. -/
def envAt (ops : Array Oper) (Ts : Nat → Told) (pre : List Nat) (E : Env) : Env := pre.foldl (fun E j => upd E (dstOf ops j) (Ts j)) E
theorem envAt_congr {Ts Ts' : Nat → Told} (pre : List Nat) : ∀ (E : Env), (∀ j ∈ pre, Ts j = Ts' j) → envAt ops Ts pre E = envAt ops Ts' pre E := by
  induction pre with
  | nil => intro E _; rfl
  | cons j r ih =>
    intro E h
    simp only [envAt, List.foldl_cons]
    rw [h j (by simp)]
    exact ih _ fun i hi => h i (by simp [hi])
theorem lane_all {w0 : World} {Fin : Env → Prop} (hs : List Nat) : ∀ (E : Env), hs.Nodup → lane P ops w0 Fin hs E →
    ∃ Ts : Nat → Told, (∀ pre k post, hs = pre ++ k :: post → ∃ o, ops[k]? = some o ∧ owes P ops w0 (envAt ops Ts pre E) o (Ts k)) ∧ Fin (envAt ops Ts hs E) := by
  induction hs with
  | nil =>
    intro E _ h
    exact ⟨fun _ _ _ => True, fun pre k post e => by simp at e, h⟩
  | cons k r ih =>
    intro E hn h
    obtain ⟨o, T, ho, hT, hr⟩ := h
    obtain ⟨hk, hn⟩ := List.nodup_cons.1 hn
    have hd : dstOf ops k = o.dst := by simp [dstOf, ho]
    obtain ⟨Ts, h1, h2⟩ := ih _ hn hr
    have hne : ∀ j ∈ r, j ≠ k := fun j hj e => hk (e ▸ hj)
    refine ⟨fun i => if i = k then T else Ts i, fun pre k' post e => ?_, ?_⟩
    · cases pre with
      | nil =>
        simp only [List.nil_append, List.cons.injEq] at e
        obtain ⟨rfl, rfl⟩ := e
        exact ⟨o, ho, by simpa [envAt] using hT⟩
      | cons j pre =>
        simp only [List.cons_append, List.cons.injEq] at e
        obtain ⟨rfl, rfl⟩ := e
        obtain ⟨o', ho', h'⟩ := h1 pre k' post rfl
        have hk' : k' ≠ k := hne k' (by simp)
        refine ⟨o', ho', ?_⟩
        have e1 : envAt ops (fun i => if i = k then T else Ts i) (k :: pre) E = envAt ops Ts pre (upd E o.dst T) := by
          simp only [envAt, List.foldl_cons, if_pos, hd]
          exact envAt_congr pre _ fun j hj => by rw [if_neg (hne j (by simp [hj]))]
        rw [e1]
        simpa [hk'] using h'
    · have e1 : envAt ops (fun i => if i = k then T else Ts i) (k :: r) E = envAt ops Ts r (upd E o.dst T) := by
        simp only [envAt, List.foldl_cons, if_pos, hd]
        exact envAt_congr r _ fun j hj => by rw [if_neg (hne j hj)]
      rw [e1]; exact h2

theorem envAt_at {Ts : Nat → Told} {t : Tmp} {v : Value} {w : World} (pre : List Nat) : ∀ (E : Env), (∀ j ∈ pre, dstOf ops j = some t → Ts j v w) → ((∀ j ∈ pre, dstOf ops j ≠ some t) → E t v w) → envAt ops Ts pre E t v w := by
  induction pre with
  | nil => intro E _ h; exact h (by simp)
  | cons j r ih =>
    intro E h1 h2
    simp only [envAt, List.foldl_cons]
    refine ih _ (fun i hi => h1 i (by simp [hi])) fun h3 => ?_
    unfold upd
    split
    · rename_i e; exact h1 j (by simp) e
    · rename_i e; exact h2 fun i hi => by
        rcases List.mem_cons.1 hi with rfl | hi
        · exact e
        · exact h3 i hi

/-- The operations that must come up ahead of the t-th. -/
def edges (md : Region.Mode) (ops : Array Oper) (t : Nat) : List Nat := ((ops[t]?).map fun o => (o.after.toList.filter fun e => Region.binds md e).map (·.on)).getD []
def needsFrom (md : Region.Mode) (ops : Array Oper) : Nat → List Nat → List Nat
  | 0, acc => acc
  | i + 1, acc => needsFrom md ops i (if acc.contains i then edges md ops i ++ acc else acc)
def needs (md : Region.Mode) (ops : Array Oper) (t : Nat) : List Nat := needsFrom md ops ops.size (edges md ops t)

variable {md : Region.Mode}
theorem mem_edges {t j : Nat} : j ∈ edges md ops t ↔ ∃ o, ops[t]? = some o ∧ ∃ e ∈ o.after, Region.binds md e = true ∧ e.on = j := by
  unfold edges
  cases h : ops[t]? with
  | none => simp
  | some o => simp [and_assoc]
theorem mem_ready' {t : Nat} {listed : Array Bool} : t ∈ Region.ready md ops listed ↔ listed.getD t true = false ∧ t < ops.size ∧ ∀ j ∈ edges md ops t, listed.getD j false = true := by
  rw [mem_ready]
  constructor
  · rintro ⟨h0, o, ho, h⟩
    refine ⟨h0, (Array.getElem?_eq_some_iff.1 ho).1, fun j hj => ?_⟩
    obtain ⟨o', ho', e, he, hb, rfl⟩ := mem_edges.1 hj
    obtain rfl : o' = o := Option.some.inj (ho'.symm.trans ho)
    exact h e he hb
  · rintro ⟨h0, hlt, h⟩
    exact ⟨h0, ops[t], Array.getElem?_eq_getElem hlt, fun e he hb => h _ (mem_edges.2 ⟨_, Array.getElem?_eq_getElem hlt, e, he, hb, rfl⟩)⟩
def Closed (md : Region.Mode) (ops : Array Oper) (listed : Array Bool) : Prop := ∀ i, listed.getD i false = true → ∀ j ∈ edges md ops i, listed.getD j false = true
theorem needsFrom_listed {listed : Array Bool} (hc : Closed md ops listed) : ∀ (i : Nat) (acc : List Nat), (∀ j ∈ acc, listed.getD j false = true) → ∀ j ∈ needsFrom md ops i acc, listed.getD j false = true
  | 0, _, h => h
  | i + 1, acc, h => by
    refine needsFrom_listed hc i _ fun j hj => ?_
    split at hj
    · rename_i hi
      rcases List.mem_append.1 hj with hj | hj
      · exact hc i (h i (by simpa using hi)) j hj
      · exact h j hj
    · exact h j hj
theorem needs_listed {listed : Array Bool} (hc : Closed md ops listed) {t : Nat} (h : ∀ j ∈ edges md ops t, listed.getD j false = true) : ∀ j ∈ needs md ops t, listed.getD j false = true := needsFrom_listed hc _ _ h

/-- Who looks at what another one leaves comes behind it, or ahead of it, in every order; no two leave the same. -/
def pairsB (md : Region.Mode) (ops : Array Oper) : List Nat → Bool
  | [] => true
  | k :: r => (r.all fun j => (!((looksOf ops j).any fun t => dstOf ops k == some t) || (needs md ops j).contains k) && (!((looksOf ops k).any fun t => dstOf ops j == some t) || (needs md ops j).contains k) && !(dstOf ops j == dstOf ops k)) && pairsB md ops r
def inTurnB (md : Region.Mode) (ops : Array Oper) (L0 : Array Bool) : List Nat → List Nat → Bool
  | _, [] => true
  | pre, k :: r => ((edges md ops k).all fun j => pre.contains j || L0.getD j false) && inTurnB md ops L0 (pre ++ [k]) r
def headB (ops : Array Oper) (size : Nat) (L0 : Array Bool) (hs : List Nat) : Bool := hs.all fun k => decide (k < ops.size) && (match dstOf ops k with | some d => decide (d < size) | none => false) && !L0.getD k false
def tailB (md : Region.Mode) (ops : Array Oper) (L0 : Array Bool) (hs : List Nat) : Bool := (List.range ops.size).all fun t => hs.contains t || L0.getD t false || hs.all fun k => (needs md ops t).contains k
def laneB (md : Region.Mode) (ops : Array Oper) (size : Nat) (L0 : Array Bool) (hs : List Nat) : Bool := pairsB md ops hs && inTurnB md ops L0 [] hs && headB ops size L0 hs && tailB md ops L0 hs
def listedAll (ops : Array Oper) (L0 : Array Bool) (hs : List Nat) : Array Bool := ((List.range ops.size).map fun i => L0.getD i false || hs.contains i).toArray

theorem pairsB_spec : ∀ (hs : List Nat), pairsB md ops hs = true → hs.Nodup ∧ ∀ pre k post, hs = pre ++ k :: post → ∀ j ∈ post,
    ((∃ t ∈ looksOf ops j, dstOf ops k = some t) → k ∈ needs md ops j) ∧ ((∃ t ∈ looksOf ops k, dstOf ops j = some t) → k ∈ needs md ops j) ∧ dstOf ops j ≠ dstOf ops k
  | [], _ => ⟨List.nodup_nil, fun pre k post e => by simp at e⟩
  | k :: r, h => by
    simp only [pairsB, Bool.and_eq_true, List.all_eq_true] at h
    obtain ⟨h1, h2⟩ := h
    obtain ⟨hn, ih⟩ := pairsB_spec r h2
    have h3 : ∀ j ∈ r, ((∃ t ∈ looksOf ops j, dstOf ops k = some t) → k ∈ needs md ops j) ∧ ((∃ t ∈ looksOf ops k, dstOf ops j = some t) → k ∈ needs md ops j) ∧ dstOf ops j ≠ dstOf ops k := fun j hj => by
      obtain ⟨⟨a1, a2⟩, a3⟩ := h1 j hj
      refine ⟨fun ⟨t, ht, e⟩ => ?_, fun ⟨t, ht, e⟩ => ?_, by simpa using a3⟩
      · simp only [Bool.or_eq_true, Bool.not_eq_true', List.contains_iff_mem] at a1
        exact a1.resolve_left fun hf => by
          rw [List.any_eq_false] at hf
          exact hf t ht (by simp [e])
      · simp only [Bool.or_eq_true, Bool.not_eq_true', List.contains_iff_mem] at a2
        exact a2.resolve_left fun hf => by
          rw [List.any_eq_false] at hf
          exact hf t ht (by simp [e])
    refine ⟨List.nodup_cons.2 ⟨fun hk => (h3 k hk).2.2 rfl, hn⟩, fun pre k' post e j hj => ?_⟩
    cases pre with
    | nil =>
      simp only [List.nil_append, List.cons.injEq] at e
      obtain ⟨rfl, rfl⟩ := e
      exact h3 j hj
    | cons x pre =>
      simp only [List.cons_append, List.cons.injEq] at e
      exact ih pre k' post e.2 j hj
theorem inTurnB_spec (L0 : Array Bool) : ∀ (hs pre0 : List Nat), inTurnB md ops L0 pre0 hs = true → ∀ pre k post, hs = pre ++ k :: post → ∀ j ∈ edges md ops k, j ∈ pre0 ∨ j ∈ pre ∨ L0.getD j false = true
  | [], _, _ => fun pre k post e => by simp at e
  | x :: r, pre0, h => by
    simp only [inTurnB, Bool.and_eq_true, List.all_eq_true, Bool.or_eq_true, List.contains_iff_mem] at h
    obtain ⟨h1, h2⟩ := h
    intro pre k post e j hj
    cases pre with
    | nil =>
      simp only [List.nil_append, List.cons.injEq] at e
      obtain ⟨rfl, rfl⟩ := e
      rcases h1 j hj with h | h
      · exact .inl h
      · exact .inr (.inr h)
    | cons y pre =>
      simp only [List.cons_append, List.cons.injEq] at e
      obtain ⟨rfl, e⟩ := e
      rcases inTurnB_spec L0 r _ h2 pre k post e j hj with h | h | h
      · rcases List.mem_append.1 h with h | h
        · exact .inl h
        · exact .inr (.inl (by simp at h; simp [h]))
      · exact .inr (.inl (by simp [h]))
      · exact .inr (.inr h)

/-- How it stands in the middle of a region, whatever has come up. -/
structure Mid (md : Region.Mode) (ops : Array Oper) (w0 : World) (a0 : Act) (L0 : Array Bool) (hs : List Nat) (E0 : Env) (Ts : Nat → Told) (listed : Array Bool) (a : Act) (w : World) : Prop where
  behind : Behind w0 w
  size : listed.size = ops.size
  defers : a.defers = a0.defers
  tsize : a.tmps.size = a0.tmps.size
  closed : Closed md ops listed
  first : ∀ i, L0.getD i false = true → listed.getD i false = true
  only : ∀ i, listed.getD i false = true → L0.getD i false = true ∨ i ∈ hs
  told : ∀ t, ∀ k ∈ hs, listed.getD k false = true → dstOf ops k = some t → Ts k (a.tmps.getD t undef) w
  rest : ∀ t, (∀ k ∈ hs, listed.getD k false = true → dstOf ops k ≠ some t) → E0 t (a.tmps.getD t undef) w

theorem getD_of_size {listed : Array Bool} {i : Nat} (h : listed.getD i true = false) : listed.getD i false = false := getD_both h
theorem getD_back {listed : Array Bool} {i : Nat} (hi : i < listed.size) (h : ¬ listed.getD i false = true) : listed.getD i true = false := getD_in hi (by simpa using h)
theorem set_getD {listed : Array Bool} {i j : Nat} (hi : i < listed.size) : (listed.setIfInBounds i true).getD j false = true ↔ j = i ∨ listed.getD j false = true := by
  by_cases h : i = j
  · subst h; simp [hi]
  · rw [getD_set_ne false h]; constructor
    · exact .inr
    · rintro (rfl | h')
      · exact absurd rfl h
      · exact h'
theorem put_getD (a : Act) (d t : Tmp) (v : Value) (hd : d < a.tmps.size) : (a.put (some d) v).tmps.getD t undef = if d = t then v else a.tmps.getD t undef := by
  simp only [Act.put]
  by_cases h : d = t
  · subst h; simp [hd]
  · simp [h, Array.getElem?_setIfInBounds_ne h]

section
variable {w0 : World} {a0 : Act} {L0 : Array Bool} {hs : List Nat} {E0 : Env} {Ts : Nat → Told} {g : Nat} {Q : Exit → Act → World → Prop}
theorem Mid.step (hB : laneB md ops a0.tmps.size L0 hs = true) (hE : ∀ t, Steady (E0 t)) (hT : ∀ k ∈ hs, Steady (Ts k)) {listed : Array Bool} {a : Act} {w : World} (m : Mid md ops w0 a0 L0 hs E0 Ts listed a w) {k : Nat} (hk : k ∈ hs)
    (hr : k ∈ Region.ready md ops listed) {v : Value} {w' : World} (hb : Behind w w') (hv : Ts k v w') : Mid md ops w0 a0 L0 hs E0 Ts (listed.setIfInBounds k true) (a.put (dstOf ops k) v) w' := by
  simp only [laneB, Bool.and_eq_true] at hB
  obtain ⟨⟨⟨hp, hi⟩, hh⟩, ht⟩ := hB
  obtain ⟨hn, hpair⟩ := pairsB_spec hs hp
  obtain ⟨hun, hlt, hed⟩ := mem_ready'.1 hr
  have hlt' : k < listed.size := by rw [m.size]; exact hlt
  simp only [headB, List.all_eq_true, Bool.and_eq_true] at hh
  obtain ⟨⟨_, hd⟩, _⟩ := hh k hk
  obtain ⟨d, hd', hds⟩ : ∃ d, dstOf ops k = some d ∧ d < a.tmps.size := by
    cases e : dstOf ops k with
    | none => rw [e] at hd; cases hd
    | some d => rw [e] at hd; exact ⟨d, rfl, by rw [m.tsize]; simpa using hd⟩
  have hne : ∀ j ∈ hs, j ≠ k → dstOf ops j ≠ some d := fun j hj hjk e => by
    obtain ⟨pre, post, rfl⟩ := List.append_of_mem hk
    rcases List.mem_append.1 hj with hj | hj
    · obtain ⟨p1, p2, rfl⟩ := List.append_of_mem hj
      exact (hpair p1 j (p2 ++ k :: post) (by simp) k (by simp)).2.2 (hd'.trans e.symm)
    · rcases List.mem_cons.1 hj with rfl | hj
      · exact hjk rfl
      · exact (hpair pre k post rfl j hj).2.2 (e.trans hd'.symm)
  rw [hd']
  refine ⟨m.behind.trans hb, by simp [m.size], by simp [Act.put, m.defers], by simp [Act.put, m.tsize], fun i hi' j hj => ?_, fun i h => (set_getD hlt').2 (.inr (m.first i h)), fun i h => ?_, fun t j hj hl e => ?_, fun t h => ?_⟩
  · refine (set_getD hlt').2 (.inr ?_)
    rcases (set_getD hlt').1 hi' with rfl | h
    · exact hed j hj
    · exact m.closed i h j hj
  · rcases (set_getD hlt').1 h with rfl | h
    · exact .inr hk
    · exact m.only i h
  · rw [put_getD a d t v hds]
    by_cases hjk : j = k
    · subst hjk
      rw [hd'] at e
      injection e with e
      rw [if_pos e]; exact hv
    · have hjl : listed.getD j false = true := ((set_getD hlt').1 hl).resolve_left hjk
      rw [if_neg (fun e' => hne j hj hjk (e.trans (by rw [e'])))]
      exact hT j hj _ _ _ hb (m.told t j hj hjl e)
  · rw [put_getD a d t v hds]
    have hdt : d ≠ t := fun e => h k hk ((set_getD hlt').2 (.inl rfl)) (by rw [hd', e])
    rw [if_neg hdt]
    exact hE t _ _ _ hb (m.rest t fun j hj hl => h j hj ((set_getD hlt').2 (.inr hl)))

theorem Mid.meets (hB : laneB md ops a0.tmps.size L0 hs = true) {listed : Array Bool} {a : Act} {w : World} (m : Mid md ops w0 a0 L0 hs E0 Ts listed a w) {pre post : List Nat} {k : Nat} (e : hs = pre ++ k :: post) (hr : k ∈ Region.ready md ops listed) :
    meets (envAt ops Ts pre E0) (looksOf ops k) a w := by
  simp only [laneB, Bool.and_eq_true] at hB
  obtain ⟨⟨⟨hp, hi⟩, hh⟩, ht⟩ := hB
  obtain ⟨hn, hpair⟩ := pairsB_spec hs hp
  obtain ⟨hun, hlt, hed⟩ := mem_ready'.1 hr
  have hnk := needs_listed m.closed hed
  intro t hl
  have hpre : ∀ j ∈ pre, dstOf ops j = some t → listed.getD j false = true := fun j hj e' => by
    obtain ⟨p1, p2, rfl⟩ := List.append_of_mem hj
    exact hnk j ((hpair p1 j (p2 ++ k :: post) (by rw [e]; simp) k (by simp)).1 ⟨t, hl, e'⟩)
  refine envAt_at pre E0 (fun j hj e' => m.told t j (by rw [e]; simp [hj]) (hpre j hj e') e') fun h => m.rest t fun j hj hjl e' => ?_
  rw [e] at hj
  rcases List.mem_append.1 hj with hj | hj
  · exact h j hj e'
  · rcases List.mem_cons.1 hj with rfl | hj
    · rw [getD_of_size hun] at hjl; cases hjl
    · have hk := (hpair pre k post e j hj).2.1 ⟨t, hl, e'⟩
      have := needs_listed m.closed (m.closed j hjl) k hk
      rw [getD_of_size hun] at this; cases this

theorem Mid.done {listed : Array Bool} {a : Act} {w : World} (m : Mid md ops w0 a0 L0 hs E0 Ts listed a w) (hf : (hs.filter fun k => !listed.getD k false).length = 0) : listed = listedAll ops L0 hs ∧ ∀ t, envAt ops Ts hs E0 t (a.tmps.getD t undef) w := by
  have hall : ∀ k ∈ hs, listed.getD k false = true := fun k hk => by
    rw [List.length_eq_zero_iff, List.filter_eq_nil_iff] at hf
    simpa using hf k hk
  refine ⟨Array.ext (by simp [listedAll, m.size]) fun i h1 h2 => ?_, fun t => envAt_at hs E0 (fun j hj e => m.told t j hj (hall j hj) e) fun h => m.rest t fun j hj _ => h j hj⟩
  have hg : listed.getD i false = listed[i] := by simp [h1]
  rw [← hg]
  have : (listedAll ops L0 hs)[i] = (L0.getD i false || hs.contains i) := by simp [listedAll]
  rw [this, Bool.eq_iff_iff]
  simp only [Bool.or_eq_true, List.contains_iff_mem]
  exact ⟨m.only i, fun h => h.elim (m.first i) (hall i)⟩
theorem Mid.more (hB : laneB md ops a0.tmps.size L0 hs = true) {listed : Array Bool} {a : Act} {w : World} (m : Mid md ops w0 a0 L0 hs E0 Ts listed a w) (hf : (hs.filter fun k => !listed.getD k false).length ≠ 0) (h0 : Region.ready md ops listed = []) : False := by
  simp only [laneB, Bool.and_eq_true] at hB
  obtain ⟨⟨⟨hp, hi⟩, hh⟩, ht⟩ := hB
  obtain ⟨k, pre, post, e, hkl, hprel⟩ : ∃ k pre post, hs = pre ++ k :: post ∧ listed.getD k false = false ∧ ∀ j ∈ pre, listed.getD j false = true := by
    have : ∀ (l : List Nat), (l.filter fun k => !listed.getD k false).length ≠ 0 → ∃ k pre post, l = pre ++ k :: post ∧ listed.getD k false = false ∧ ∀ j ∈ pre, listed.getD j false = true := by
      intro l
      induction l with
      | nil => intro h; simp at h
      | cons x r ihr =>
        intro h
        by_cases hx : listed.getD x false = true
        · rw [List.filter_cons_of_neg (by simp only [hx, Bool.not_true, Bool.false_eq_true, not_false_eq_true])] at h
          obtain ⟨k, pre, post, e, h1, h2⟩ := ihr h
          exact ⟨k, x :: pre, post, by rw [e]; rfl, h1, fun j hj => (List.mem_cons.1 hj).elim (fun e => e ▸ hx) (h2 j)⟩
        · exact ⟨x, [], r, rfl, by simpa using hx, by simp⟩
    exact this hs hf
  have hk : k ∈ hs := by rw [e]; simp
  simp only [headB, List.all_eq_true, Bool.and_eq_true, decide_eq_true_eq] at hh
  have hlt := (hh k hk).1.1
  have : k ∈ Region.ready md ops listed := mem_ready'.2 ⟨getD_in (by rw [m.size]; exact hlt) hkl, hlt, fun j hj => by
    rcases inTurnB_spec L0 hs [] hi pre k post e j hj with h | h | h
    · cases h
    · exact hprel j h
    · exact m.first j h⟩
  rw [h0] at this
  cases this
theorem Mid.turn (hB : laneB md ops a0.tmps.size L0 hs = true) {listed : Array Bool} {a : Act} {w : World} (m : Mid md ops w0 a0 L0 hs E0 Ts listed a w) (hf : (hs.filter fun k => !listed.getD k false).length ≠ 0) {k : Nat} (hk : k ∈ Region.ready md ops listed) :
    k ∈ hs ∧ (hs.filter fun j => !(listed.setIfInBounds k true).getD j false).length + 1 = (hs.filter fun j => !listed.getD j false).length := by
  simp only [laneB, Bool.and_eq_true] at hB
  obtain ⟨⟨⟨hp, hi⟩, hh⟩, ht⟩ := hB
  obtain ⟨hun, hlt, hed⟩ := mem_ready'.1 hk
  have hkl := getD_of_size hun
  have hks : k ∈ hs := by
    simp only [tailB, List.all_eq_true, Bool.or_eq_true, List.mem_range, List.contains_iff_mem] at ht
    rcases ht k hlt with (h | h) | h
    · exact h
    · rw [m.first k h] at hkl; cases hkl
    · exfalso
      have hall := needs_listed m.closed hed
      have : (hs.filter fun k => !listed.getD k false) = [] := List.filter_eq_nil_iff.2 fun j hj => by
        have := hall j (by simpa using h j hj)
        simp only [this, Bool.not_true, Bool.false_eq_true, not_false_eq_true]
      rw [this] at hf
      exact hf rfl
  have hlt' : k < listed.size := by rw [m.size]; exact hlt
  obtain ⟨hn, _⟩ := pairsB_spec hs hp
  have h1 : ∀ (l : List Nat), l.Nodup → k ∈ l → (l.filter fun j => !(listed.setIfInBounds k true).getD j false).length + 1 = (l.filter fun j => !listed.getD j false).length := by
    intro l
    induction l with
    | nil => intro _ h; cases h
    | cons x r ihr =>
      intro hnd hx
      obtain ⟨hxr, hnr⟩ := List.nodup_cons.1 hnd
      by_cases hxk : x = k
      · subst hxk
        rw [List.filter_cons_of_neg (by rw [(set_getD hlt').2 (.inl rfl)]; simp), List.filter_cons_of_pos (by rw [hkl]; rfl)]
        have : (r.filter fun j => !(listed.setIfInBounds x true).getD j false) = r.filter fun j => !listed.getD j false := by
          refine List.filter_congr fun j hj => ?_
          rw [getD_set_ne false (fun e => hxr (by rw [e]; exact hj))]
        rw [this, List.length_cons]
      · have hkr : k ∈ r := (List.mem_cons.1 hx).resolve_left (Ne.symm hxk)
        have hg : (listed.setIfInBounds k true).getD x false = listed.getD x false := getD_set_ne false (Ne.symm hxk)
        by_cases hxl : listed.getD x false = true
        · rw [List.filter_cons_of_neg (by rw [hg, hxl]; simp), List.filter_cons_of_neg (by rw [hxl]; simp)]
          exact ihr hnr hkr
        · have hxl' : listed.getD x false = false := by simpa using hxl
          rw [List.filter_cons_of_pos (by rw [hg, hxl']; rfl), List.filter_cons_of_pos (by rw [hxl']; rfl), List.length_cons, List.length_cons]
          have := ihr hnr hkr
          omega
  exact ⟨hks, h1 hs hn hks⟩

/-- A tail that comes up in one order: its numbers. -/
def turnB (md : Region.Mode) (ops : Array Oper) : List Nat → Array Bool → Bool
  | [], L => (Region.ready md ops L).isEmpty
  | t :: r, L => decide (Region.ready md ops L = [t]) && turnB md ops r (L.setIfInBounds t true)
theorem wpAny_of_turn : ∀ (ts : List Nat) (L : Array Bool) (a : Act) (w : World), turnB md ops ts L = true → wpList P ops Q (ts.filterMap (ops[·]?)) a w → wpAny P md ops Q ts.length L a w
  | [], _, _, _, hB, h => ⟨by simpa [turnB] using hB, h⟩
  | t :: r, L, a, w, hB, h => by
    simp only [turnB, Bool.and_eq_true, decide_eq_true_eq] at hB
    have ht : t ∈ Region.ready md ops L := by rw [hB.1]; simp
    have ho : ops[t]? = some (ops[t]'(mem_ready'.1 ht).2.1) := Array.getElem?_eq_getElem _
    rw [List.filterMap_cons_some ho] at h
    refine ⟨fun h1 => (by rw [hB.1] at h1; cases h1), fun i hi => ?_⟩
    rw [hB.1] at hi
    obtain rfl : i = t := by simpa using hi
    have hw : wpOp P ops Q i (wpList P ops Q (r.filterMap (ops[·]?))) a w := by unfold wpOp; simp only [ho]; exact h
    exact wpOp_mono (fun a' w' h' => wpAny_of_turn r _ a' w' hB.2 h') hw

theorem wpAny_of_mid (hB : laneB md ops a0.tmps.size L0 hs = true) (hE : ∀ t, Steady (E0 t)) (hO : ∀ pre k post, hs = pre ++ k :: post → ∃ o, ops[k]? = some o ∧ owes P ops w0 (envAt ops Ts pre E0) o (Ts k))
    (hF : ∀ a w, Behind w0 w → a.defers = a0.defers → a.tmps.size = a0.tmps.size → (∀ t, envAt ops Ts hs E0 t (a.tmps.getD t undef) w) → wpAny P md ops Q g (listedAll ops L0 hs) a w) :
    ∀ (f : Nat) (listed : Array Bool) (a : Act) (w : World), (hs.filter fun k => !listed.getD k false).length = f → Mid md ops w0 a0 L0 hs E0 Ts listed a w → wpAny P md ops Q (f + g) listed a w := by
  have hT : ∀ k ∈ hs, Steady (Ts k) := fun k hk => by
    obtain ⟨pre, post, e⟩ := List.append_of_mem hk
    obtain ⟨o, _, h⟩ := hO pre k post e
    exact h.1
  intro f
  induction f with
  | zero =>
    intro listed a w hf m
    obtain ⟨hL, hend⟩ := m.done hf
    rw [Nat.zero_add, hL]
    exact hF a w m.behind m.defers m.tsize hend
  | succ f ih =>
    intro listed a w hf m
    rw [show f + 1 + g = (f + g) + 1 by omega]
    refine ⟨fun h0 => (m.more hB (by omega) h0).elim, fun k hk => ?_⟩
    obtain ⟨hks, hlen⟩ := m.turn hB (by omega) hk
    obtain ⟨pre, post, e⟩ := List.append_of_mem hks
    obtain ⟨o, ho, _, hob⟩ := hO pre k post e
    have hm := m.meets hB e hk
    have hlk : looksOf ops k = o.looksAt ops := by simp [looksOf, ho]
    have hdk : dstOf ops k = o.dst := by simp [dstOf, ho]
    rw [hlk] at hm
    have hgo : ∀ K : Act → World → Prop, (∀ v w', Behind w w' → Ts k v w' → K (a.put o.dst v) w') → wpOp P ops Q k K a w := fun K hK => (hob a w m.behind hm).elim (fun h => wpOp_of_gives ho h hK) fun h => wpOp_of_givesBy ho h hK
    refine hgo _ fun v w' hb hv => ?_
    rw [← hdk]
    exact ih _ _ _ (by omega) (m.step hB hE hT hks hk hb hv)
end
end
end Go.Proofs.YtbhdpfacfgldiaaGreatDoor
/- .. as it is walked: a literal frame, told slots beside it. No program is named here. -/
namespace Go.Proofs.YtbhdpfacfgldiaaGreatDoor
set_option linter.unusedVariables false
set_option linter.unusedSimpArgs false
open Go Go.RowKit

section
variable {P : Program} {ops : Array Oper}

/-- Operations that yield a value and leave the world alone. -/
def simpleOp : Op → Bool
  | .move _ | .assign _ | .pick _ _ _ | .binOp _ _ _ _ _ | .unOp _ _ _ | .convert _ _ _ | .extract _ _ | .fieldAddr _ _ _ | .indexAddr _ _ _ | .field _ _ _ | .load _ _ | .index _ _ _ | .slice _ _ _ _ _ | .nilCheck _ | .typeAssert _ _ _ _ | .makeInterface _ _ => true
  | _ => false
theorem quiet_value {C : World → Prop} {w : World} {u : Value} {s : Sem Value} (h : Oper.quietUpon P C w u ((do pure (Next.value (← s)) : Sem Next).run P w)) : (do pure (Next.value (← s)) : Sem Next).run P w = .ok (.value u) w := by
  rw [Sem.run_bind] at h ⊢
  generalize s.run P w = r at *
  cases r with
  | halt x w' => exact h.elim
  | ok v w' =>
    simp only [Result.andThen_ok, Sem.run_pure, Oper.quietUpon] at h ⊢
    rw [h.1, h.2]
theorem quiet_map {α : Type} {C : World → Prop} {w : World} {u : Value} {s : Sem α} {f : α → Value} (h : Oper.quietUpon P C w u ((do let x ← s; pure (Next.value (f x)) : Sem Next).run P w)) : (do let x ← s; pure (Next.value (f x)) : Sem Next).run P w = .ok (.value u) w := by
  rw [Sem.run_bind] at h ⊢
  generalize s.run P w = r at *
  cases r with
  | halt x w' => exact h.elim
  | ok v w' =>
    simp only [Result.andThen_ok, Sem.run_pure, Oper.quietUpon] at h ⊢
    rw [h.1, h.2]
theorem simple_run {C : World → Prop} {o : Oper} {a : Act} {w : World} {u : Value} (hs : simpleOp o.op = true) (h : o.quietAt P a C w u) : (execOp a.eval o).run P w = .ok (.value u) w := by
  unfold Oper.quietAt at h
  obtain ⟨d, op, ty, pos, af, gd⟩ := o
  cases op <;> simp only [simpleOp, Bool.false_eq_true] at hs
  all_goals simp only [execOp] at h ⊢
  all_goals
    first
      | exact quiet_value h
      | exact quiet_map h
      | (simp only [Sem.run_pure, Oper.quietUpon] at h ⊢; rw [h.2])
      | (rename_i x
         generalize a.eval x = z at *
         rcases z with _ | _ | _ | _ | _ | p | _ | _ | _ | ⟨f, first, captured⟩ | _ | _ | _ | _ | _
         case pointer =>
           cases p with
           | none => exfalso; simp [go_sem, Oper.quietUpon] at h
           | some p => simp only [Sem.run_pure, Oper.quietUpon] at h ⊢; rw [h.2]
         case nilFunc => exfalso; simp [go_sem, Oper.quietUpon] at h
         case nilIface => exfalso; simp [go_sem, Oper.quietUpon] at h
         case func =>
           cases f
           case method name =>
             simp only at h ⊢
             split at h
             · exfalso; simp [go_sem, Oper.quietUpon] at h
             · rename_i t v he
               simp only [Sem.run_bind] at h ⊢
               generalize program.run P w = r1 at *
               cases r1 with
               | halt y w' => exact h.elim
               | ok pr w1 =>
                 simp only [Result.andThen_ok] at h ⊢
                 generalize (nilAhead (pr.types.size + Made.depth) t v name).run P w1 = r2 at *
                 cases r2 with
                 | halt y w' => exact h.elim
                 | ok q w2 =>
                   simp only [Result.andThen_ok] at h ⊢
                   split at h
                   · exfalso; simp [go_sem, Oper.quietUpon] at h
                   · rename_i hq
                     rw [if_neg hq]
                     simp only [Sem.run_pure, Oper.quietUpon] at h ⊢
                     rw [h.1, h.2]
             · simp only [Sem.run_pure, Oper.quietUpon] at h
               rw [h.2, Sem.run_pure]
           all_goals (simp only [Sem.run_pure, Oper.quietUpon] at h ⊢; rw [h.2])
         all_goals (simp only [Sem.run_pure, Oper.quietUpon] at h ⊢; rw [h.2]))

variable {md : Region.Mode} {Q : Exit → Act → World → Prop}
/-- What hangs on no world at all, taken ahead of all. -/
def pureB (md : Region.Mode) (ops : Array Oper) : List Nat → Array Bool → Bool
  | [], _ => true
  | k :: r, L => (Region.ready md ops L).contains k && Region.free md ops L k && ((ops[k]?).map fun o => simpleOp o.op).getD false && pureB md ops r (L.setIfInBounds k true)
theorem pure_first {w : World} {f : Nat} {K : Act → Prop} (hs : Region.noSelect ops = true) (hQ : ∀ c (a : Act) (d : Tmp) v w, Q (.panic c) (a.put (some d) v) w → Q (.panic c) a w) : ∀ (ps : List Nat) (L : Array Bool) (a : Act), pureB md ops ps L = true →
    wpQuiet P ops (fun _ => True) K (ps.filterMap (ops[·]?)) a → (∀ a', K a' → wpAny P md ops Q f (ps.foldl (fun L k => L.setIfInBounds k true) L) a' w) → wpAny P md ops Q (ps.length + f) L a w
  | [], L, a, _, h, hK => by rw [show ([] : List Nat).length + f = f by simp]; exact hK a h
  | k :: r, L, a, hB, h, hK => by
    simp only [pureB, Bool.and_eq_true] at hB
    obtain ⟨⟨⟨hr, hf⟩, hp⟩, hB⟩ := hB
    cases ho : ops[k]? with
    | none => rw [ho] at hp; simp at hp
    | some o =>
      rw [ho] at hp
      simp only [Option.map_some, Option.getD_some] at hp
      rw [List.filterMap_cons_some ho] at h
      have hst : ∃ v, Yields P ops o v a ∧ wpQuiet P ops (fun _ => True) K (r.filterMap (ops[·]?)) (a.put o.dst v) := by
        simp only [wpQuiet] at h
        by_cases hw : Region.wanted o (yielded ops a.tmps) = true
        · rw [if_pos hw] at h
          obtain ⟨v, h1, h2⟩ := h
          exact ⟨v, .inl ⟨hw, fun w => simple_run hp (h1 w trivial)⟩, h2⟩
        · rw [if_neg hw] at h
          exact ⟨undef, .inr ⟨by simpa using hw, rfl⟩, h⟩
      obtain ⟨v, hy, hrest⟩ := hst
      rw [show (k :: r).length + f = (r.length + f) + 1 by simp; omega]
      exact wpAny_take ho hs hf hr (fun c a w h' => by cases hd : o.dst with | none => rw [hd] at h'; exact h' | some d => rw [hd] at h'; exact hQ c a d v w h') hy (pure_first hs hQ r _ _ hB hrest (by simpa using hK))

theorem wpQuiet_class {C C' : World → Prop} (h : ∀ w, C' w ↔ C w) {K : Act → Prop} : ∀ (l : List Oper) (a : Act), wpQuiet P ops C K l a → wpQuiet P ops C' K l a := by
  have e : C' = C := funext fun w => propext (h w)
  subst e
  exact fun _ _ h => h
/-- The lane over the operations themselves. -/
def laneO (P : Program) (ops : Array Oper) (w0 : World) (Fin : Env → Prop) : List Oper → Env → Prop
  | [], E => Fin E
  | o :: r, E => ∃ T, owes P ops w0 E o T ∧ laneO P ops w0 Fin r (upd E o.dst T)
theorem lane_of_laneO {w0 : World} {Fin : Env → Prop} : ∀ (hs : List Nat) (E : Env), (∀ k ∈ hs, k < ops.size) → laneO P ops w0 Fin (hs.filterMap (ops[·]?)) E → lane P ops w0 Fin hs E
  | [], _, _, h => h
  | k :: r, E, hl, h => by
    have ho : ops[k]? = some (ops[k]'(hl k (by simp))) := Array.getElem?_eq_getElem (hl k (by simp))
    rw [List.filterMap_cons_some ho] at h
    obtain ⟨T, h1, h2⟩ := h
    exact ⟨_, T, ho, h1, lane_of_laneO r _ (fun j hj => hl j (by simp [hj])) h2⟩

/-- A literal frame, some of whose slots are told another way. -/
def envOf (a : Act) (F : List (Tmp × Told)) : Env := fun t v w => match F.lookup t with | some T => T v w | none => v = a.tmps.getD t undef
def SteadyAll (F : List (Tmp × Told)) : Prop := ∀ x ∈ F, Steady x.2
theorem envOf_steady {a : Act} {F : List (Tmp × Told)} (h : SteadyAll F) (t : Tmp) : Steady (envOf a F t) := fun v w w' hb hv => by
  unfold envOf at hv ⊢
  cases hl : F.lookup t with
  | none => rw [hl] at hv; exact hv
  | some T =>
    rw [hl] at hv
    refine h (t, T) ?_ v w w' hb hv
    obtain ⟨l1, l2, e, _⟩ := List.lookup_eq_some_iff.1 hl
    rw [e]; simp
def clearB (F : List (Tmp × Told)) (ts : List Tmp) : Bool := ts.all fun t => (F.lookup t).isNone
theorem clear_spec {F : List (Tmp × Told)} {ts : List Tmp} (h : clearB F ts = true) {t : Tmp} (ht : t ∈ ts) : F.lookup t = none := by
  simp only [clearB, List.all_eq_true] at h
  simpa using h t ht
def isBool : Value → Option Bool
  | .bool b => some b
  | _ => none
theorem boolAt (x : Array Value) (t : Tmp) : (match x[t]? with | some (.bool b) => some b | _ => none) = isBool (x.getD t undef) := by
  rw [Array.getD_eq_getD_getElem?]
  cases x[t]? with
  | none => rfl
  | some v => cases v <;> rfl
theorem same_exec {a a' : Act} {w : World} {F : List (Tmp × Told)} {o : Oper} (hsel : ∀ cs b, o.op ≠ .select cs b) (hc : clearB F (o.looksAt ops) = true) (h : meets (envOf a F) (o.looksAt ops) a' w) :
    execOp a'.eval o = execOp a.eval o ∧ Region.wanted o (yielded ops a'.tmps) = Region.wanted o (yielded ops a.tmps) := by
  have hg : ∀ t ∈ o.looksAt ops, a'.tmps.getD t undef = a.tmps.getD t undef := fun t ht => by
    have := h t ht
    unfold envOf at this
    rw [clear_spec hc ht] at this
    exact this
  refine ⟨execOp_congr o hsel fun x hx => ?_, ?_⟩
  · cases x with
    | tmp t => exact hg t (List.mem_append_left _ (List.mem_filterMap.2 ⟨.tmp t, by simpa using hx, rfl⟩))
    | _ => rfl
  · unfold Region.wanted
    cases hgd : o.guard with
    | none => rfl
    | some gw =>
      obtain ⟨j, want⟩ := gw
      have hy : yielded ops a'.tmps j = yielded ops a.tmps j := by
        unfold yielded
        cases ht : (ops[j]?).bind (·.dst) with
        | none => rfl
        | some t =>
          have := hg t (List.mem_append_right _ (by simp [hgd, ht]))
          simp only [Option.bind_some]
          exact (boolAt a'.tmps t).trans ((congrArg isBool this).trans (boolAt a.tmps t).symm)
      simp only [hy]
theorem upd_fixed {a : Act} {F : List (Tmp × Told)} {d : Tmp} {v : Value} (hd : d < a.tmps.size) (hF : F.lookup d = none) : upd (envOf a F) (some d) (fun u _ => u = v) = envOf (a.put (some d) v) F := by
  funext t u w
  unfold upd envOf
  by_cases h : d = t
  · subst h
    rw [if_pos rfl, hF]
    simp only [put_getD a d d v hd, if_true]
  · rw [if_neg (fun e => h (Option.some.inj e))]
    cases F.lookup t with
    | some T => rfl
    | none => simp only [put_getD a d t v hd, if_neg h]
theorem upd_told {a : Act} {F : List (Tmp × Told)} {d : Tmp} {T : Told} : upd (envOf a F) (some d) T = envOf a ((d, T) :: F) := by
  funext t u w
  unfold upd envOf
  by_cases h : d = t
  · subst h; simp
  · rw [if_neg (fun e => h (Option.some.inj e)), List.lookup_cons]
    have : (t == d) = false := by rw [beq_eq_false_iff_ne]; exact fun e => h e.symm
    rw [this]

variable {w0 : World} {Fin : Env → Prop} {a : Act} {F : List (Tmp × Told)} {o : Oper} {r : List Oper} {d : Tmp}
def notSelect (o : Oper) : Bool := match o.op with | .select _ _ => false | _ => true
theorem notSelect_spec (h : notSelect o = true) : ∀ cs b, o.op ≠ .select cs b := fun cs b e => by simp [notSelect, e] at h
/-- The operation's own words: it has a slot, within the frame, that nothing is told of; nothing is told of what it looks at. -/
def plainB (ops : Array Oper) (size : Nat) (F : List (Tmp × Told)) (o : Oper) : Bool := notSelect o && clearB F (o.looksAt ops) && match o.dst with | some d => decide (d < size) && (F.lookup d).isNone | none => false
theorem laneO_fixed {v : Value} (hp : plainB ops a.tmps.size F o = true) (h : ∀ w, Behind w0 w → givesIf P ops o a w fun u _ => u = v) (hr : laneO P ops w0 Fin r (envOf (a.put o.dst v) F)) : laneO P ops w0 Fin (o :: r) (envOf a F) := by
  simp only [plainB, Bool.and_eq_true] at hp
  obtain ⟨⟨hsel, hc⟩, hd⟩ := hp
  cases ho : o.dst with
  | none => rw [ho] at hd; simp at hd
  | some d =>
    rw [ho] at hd hr
    simp only [Bool.and_eq_true, decide_eq_true_eq, Option.isNone_iff_eq_none] at hd
    refine ⟨_, ⟨steady_eq v, fun a' w hb hm => .inl ?_⟩, ?_⟩
    · obtain ⟨e1, e2⟩ := same_exec (notSelect_spec hsel) hc hm
      have := h w hb
      unfold givesIf gives at this ⊢
      rw [e1, e2]
      exact this
    · rw [ho, upd_fixed hd.1 hd.2]; exact hr
theorem laneO_told (T : Told) (hT : Steady T) (hp : plainB ops a.tmps.size F o = true) (ho : o.dst = some d) (h : ∀ w, Behind w0 w → givesIf P ops o a w T) (hr : laneO P ops w0 Fin r (envOf a ((d, T) :: F))) : laneO P ops w0 Fin (o :: r) (envOf a F) := by
  simp only [plainB, Bool.and_eq_true] at hp
  obtain ⟨⟨hsel, hc⟩, _⟩ := hp
  refine ⟨T, ⟨hT, fun a' w hb hm => .inl ?_⟩, ?_⟩
  · obtain ⟨e1, e2⟩ := same_exec (notSelect_spec hsel) hc hm
    have := h w hb
    unfold givesIf gives at this ⊢
    rw [e1, e2]
    exact this
  · rw [ho, upd_told]; exact hr
/-- A run of operations that leave the world alone, by the quiet walk. -/
theorem laneO_quiet : ∀ (l : List Oper) (a : Act), (l.all fun o => simpleOp o.op && plainB ops a.tmps.size F o) = true →
    wpQuiet P ops (fun w' => ∃ s : Later w0.heap.size w0, w' = s.w) (fun a' => laneO P ops w0 Fin r (envOf a' F)) l a → laneO P ops w0 Fin (l ++ r) (envOf a F)
  | [], a, _, h => h
  | o :: l, a, hB, h => by
    simp only [List.all_cons, Bool.and_eq_true] at hB
    obtain ⟨⟨hs, hp⟩, hB⟩ := hB
    simp only [wpQuiet] at h
    have hsz : ∀ v, (a.put o.dst v).tmps.size = a.tmps.size := fun v => by cases o.dst <;> simp [Act.put]
    by_cases hw : Region.wanted o (yielded ops a.tmps) = true
    · rw [if_pos hw] at h
      obtain ⟨v, h1, h2⟩ := h
      refine laneO_fixed hp (fun w hb => .inl ⟨hw, ?_⟩) (laneO_quiet l _ (by rw [hsz]; exact hB) h2)
      have := simple_run hs (h1 w ⟨⟨w, hb⟩, rfl⟩)
      unfold gives
      rw [this]
      exact ⟨Behind.refl w, rfl⟩
    · rw [if_neg hw] at h
      exact laneO_fixed hp (fun w hb => .inr ⟨by simpa using hw, rfl⟩) (laneO_quiet l _ (by rw [hsz]; exact hB) h)
theorem laneO_run (n : Nat) {l : List Oper} (hB : ((l.take n).all fun o => simpleOp o.op && plainB ops a.tmps.size F o) = true)
    (h : wpQuiet P ops (fun w' => ∃ s : Later w0.heap.size w0, w' = s.w) (fun a' => laneO P ops w0 Fin (l.drop n) (envOf a' F)) (l.take n) a) : laneO P ops w0 Fin l (envOf a F) := by
  have := laneO_quiet (r := l.drop n) (l.take n) a hB h
  rwa [List.take_append_drop] at this
/-- A call whose arguments are told by the frame: one value, in whatever world that lies behind. -/
theorem laneO_call {v : Value} (hp : plainB ops a.tmps.size F o = true) (hw : Region.wanted o (yielded ops a.tmps) = true)
    (h : ∀ C : World → Prop, (∀ w w', C w → Behind w w' → C w') → (∀ w, C w → Behind w0 w) → o.quiet P a C fun a' => a' = a.put o.dst v) (hr : laneO P ops w0 Fin r (envOf (a.put o.dst v) F)) : laneO P ops w0 Fin (o :: r) (envOf a F) := by
  refine laneO_fixed hp (fun w hb => .inl ⟨hw, ?_⟩) hr
  obtain ⟨u, h1, h2⟩ := h (Behind w) (fun w1 w2 h1 h2 => h1.trans h2) (fun w1 h1 => hb.trans h1)
  have hq := h1 w (Behind.refl w)
  have hu : u = v := by
    simp only [plainB, Bool.and_eq_true] at hp
    obtain ⟨_, hd⟩ := hp
    cases ho : o.dst with
    | none => rw [ho] at hd; simp at hd
    | some d =>
      rw [ho] at hd h2
      simp only [Bool.and_eq_true, decide_eq_true_eq] at hd
      have := congrArg (fun x : Act => x.tmps.getD d undef) h2
      simpa only [put_getD a d d _ hd.1, if_true] using this
  subst hu
  unfold Oper.quietAt at hq
  unfold gives
  generalize (execOp a.eval o).run P w = x at *
  cases x with
  | halt x w' => exact hq.elim
  | ok n w' =>
    cases n <;> simp only [Oper.quietUpon] at hq ⊢
    case value x => exact ⟨hq.1 ▸ Behind.refl w, hq.2⟩
    case skip => exact ⟨hq.1 ▸ Behind.refl w, hq.2.symm⟩
    case enter f args =>
      obtain ⟨rfl, hq⟩ := hq
      exact ⟨Behind.refl _, hq.mono fun e w'' ⟨he, hb⟩ => ⟨_, he, hb, rfl⟩⟩
/-- A call that hands back what is told. -/
theorem laneO_use {v : Value} (hsel : notSelect o = true) (ho : o.dst = some d) (hd : d < a.tmps.size) (hF : F.lookup d = none)
    (h : ∀ a' w, Behind w0 w → meets (envOf a F) (o.looksAt ops) a' w → givesIf P ops o a' w fun u _ => u = v) (hr : laneO P ops w0 Fin r (envOf (a.put (some d) v) F)) : laneO P ops w0 Fin (o :: r) (envOf a F) :=
  ⟨_, ⟨steady_eq v, fun a' w hb hm => .inl (h a' w hb hm)⟩, by rw [ho, upd_fixed hd hF]; exact hr⟩
/-- An operation that the walk's own law runs, on what is told. -/
theorem laneO_by (T : Told) (hT : Steady T) (ho : o.dst = some d) (h : ∀ a' w, Behind w0 w → meets (envOf a F) (o.looksAt ops) a' w → givesBy P ops o a' w T) (hr : laneO P ops w0 Fin r (envOf a ((d, T) :: F))) : laneO P ops w0 Fin (o :: r) (envOf a F) :=
  ⟨T, ⟨hT, fun a' w hb hm => .inr (h a' w hb hm)⟩, by rw [ho, upd_told]; exact hr⟩

/-- An operation that is not wanted. -/
theorem laneO_skip (hp : plainB ops a.tmps.size F o = true) (hw : Region.wanted o (yielded ops a.tmps) = false) (hr : laneO P ops w0 Fin r (envOf (a.put o.dst undef) F)) : laneO P ops w0 Fin (o :: r) (envOf a F) :=
  laneO_fixed hp (fun _ _ => .inr ⟨hw, rfl⟩) hr
def guardSlots (ops : Array Oper) (o : Oper) : List Tmp := match o.guard with | some (g, _) => ((ops[g]?).bind (·.dst)).toList | none => []
theorem same_wanted {a' : Act} (h : ∀ t ∈ guardSlots ops o, a'.tmps.getD t undef = a.tmps.getD t undef) : Region.wanted o (yielded ops a'.tmps) = Region.wanted o (yielded ops a.tmps) := by
  unfold Region.wanted
  cases hgd : o.guard with
  | none => rfl
  | some gw =>
    obtain ⟨j, want⟩ := gw
    have hy : yielded ops a'.tmps j = yielded ops a.tmps j := by
      unfold yielded
      cases ht : (ops[j]?).bind (·.dst) with
      | none => rfl
      | some t =>
        have := h t (by simp [guardSlots, hgd, ht])
        simp only [Option.bind_some]
        exact (boolAt a'.tmps t).trans ((congrArg isBool this).trans (boolAt a.tmps t).symm)
    simp only [hy]
theorem run_enter {f : FuncId} {fn : Func} {c : Code} {xs : Array Operand} {ts : Array TypeId} {a' : Act} {w : World} (hop : o.op = .call { callee := .value (.func f), args := xs, argTypes := ts }) (hf : P.funcs[f]? = some fn) (hname : (fn.name == "runtime.NumGoroutine") = false) (hb : fn.body = some c) :
    (execOp a'.eval o).run P w = .ok (.enter f (xs.map a'.eval)) w := by
  have hn : ¬ (fn.name = "runtime.NumGoroutine") := by simpa using hname
  simp [execOp, hop, resolve, Act.eval, Deferred.ofValue, invoke, callFunc, hf, hn, hb]
/-- A call of one argument that is told. -/
theorem laneO_useCall {f : FuncId} {fn : Func} {c : Code} {t : Tmp} {T : Told} {v : Value} {ts : Array TypeId} (hop : o.op = .call { callee := .value (.func f), args := #[.tmp t], argTypes := ts }) (ho : o.dst = some d) (hd : d < a.tmps.size) (hF : F.lookup d = none)
    (hw : Region.wanted o (yielded ops a.tmps) = true) (hg : clearB F (guardSlots ops o) = true) (hT : F.lookup t = some T) (hf : P.funcs[f]? = some fn) (hname : (fn.name == "runtime.NumGoroutine") = false) (hb : fn.body = some c)
    (h : ∀ x w, Behind w0 w → T x w → Calls P f #[x] w fun e w' => e = .returned v ∧ Below w.heap.size w w') (hr : laneO P ops w0 Fin r (envOf (a.put (some d) v) F)) : laneO P ops w0 Fin (o :: r) (envOf a F) := by
  refine laneO_use (by simp [notSelect, hop]) ho hd hF (fun a' w hb' hm => .inl ⟨?_, ?_⟩) hr
  · rw [same_wanted (a := a) fun s hs => ?_]
    · exact hw
    · have h1 := hm s (by
        unfold guardSlots at hs
        unfold Oper.looksAt
        exact List.mem_append_right _ hs)
      unfold envOf at h1
      rw [clear_spec hg hs] at h1
      exact h1
  · unfold gives
    rw [run_enter hop hf hname hb]
    have h1 := hm t (by simp [Oper.looksAt, hop, Op.operands, Call.operands])
    unfold envOf at h1
    rw [hT] at h1
    refine ⟨Behind.refl w, ?_⟩
    have e : (#[Operand.tmp t]).map a'.eval = #[a'.tmps.getD t undef] := by simp [Act.eval]
    rw [e]
    exact (h _ w hb' h1).mono fun e w' ⟨he, hb⟩ => ⟨v, he, hb, rfl⟩
/-- A slice that was just made: a block of its own. -/
def madeT (n : Nat) (t : TypeId) (cs : List Value) : Told := fun v w => ∃ g, v = .slice (some ⟨g, 0, none⟩) n n ∧ w.heap[g]? = some (.cells cs.toArray t (0, 0))
theorem madeT_steady (n : Nat) (t : TypeId) (cs : List Value) : Steady (madeT n t cs) := fun v w w' hb ⟨g, h1, h2⟩ => ⟨g, h1, (hb.block g (Array.getElem?_eq_some_iff.1 h2).1).trans h2⟩
theorem madeT_new (n : Nat) (t : TypeId) (cs : Array Value) (w : World) : Behind w (w.alloc (.cells cs t)) ∧ madeT n t cs.toList (.slice (some ⟨w.heap.size, 0, none⟩) n n) (w.alloc (.cells cs t)) :=
  ⟨(Below.refl _ _).alloc (Nat.le_refl _) _, _, rfl, by simpa using heap_alloc_new w (.cells cs t)⟩

/-- What is told is filled in. -/
def fillAll : List (Tmp × Told) → Act → World → (Act → Prop) → Prop
  | [], a, _, K => K a
  | (t, T) :: F, a, w, K => ∀ x, T x w → fillAll F (a.put (some t) x) w K
theorem fill_spec {w : World} {K : Act → Prop} {a' : Act} : ∀ (F : List (Tmp × Told)) (a : Act), (F.map (·.1)).Nodup → (∀ x ∈ F, x.1 < a.tmps.size) → a'.defers = a.defers → a'.tmps.size = a.tmps.size →
    (∀ t, envOf a F t (a'.tmps.getD t undef) w) → fillAll F a w K → K a'
  | [], a, _, _, hd, hs, hm, h => by
    have : a' = a := by
      obtain ⟨t1, d1⟩ := a'
      obtain ⟨t2, d2⟩ := a
      simp only at hd hs
      subst hd
      congr 1
      refine Array.ext hs fun i h1 h2 => ?_
      have := hm i
      simp only [envOf, List.lookup_nil] at this
      simpa [h1, h2] using this
    rw [this]; exact h
  | (t, T) :: F, a, hn, hl, hd, hs, hm, h => by
    simp only [List.map_cons, List.nodup_cons] at hn
    have ht : t < a.tmps.size := hl (t, T) (by simp)
    have hx : T (a'.tmps.getD t undef) w := by have := hm t; simpa [envOf] using this
    have hnone : F.lookup t = none := by
      rw [List.lookup_eq_none_iff]
      intro p hp
      have : t ≠ p.1 := fun e => hn.1 (List.mem_map.2 ⟨p, hp, e.symm⟩)
      simpa using this
    refine fill_spec F (a.put (some t) (a'.tmps.getD t undef)) hn.2 (fun x hx => by simpa [Act.put] using hl x (by simp [hx])) (by simpa [Act.put] using hd) (by simpa [Act.put] using hs) (fun s => ?_) (h _ hx)
    have := hm s
    unfold envOf at this ⊢
    by_cases hst : s = t
    · subst hst
      rw [hnone]
      simp only [put_getD a s s _ ht, if_true]
    · have hb : (s == t) = false := by rw [beq_eq_false_iff_ne]; exact hst
      rw [List.lookup_cons, hb] at this
      simp only at this
      cases hF : F.lookup s with
      | some U => rw [hF] at this; exact this
      | none => rw [hF] at this; simp only [put_getD a t s _ ht, if_neg (Ne.symm hst)]; exact this

def finOf (P : Program) (ops : Array Oper) (w0 : World) (Q : Exit → Act → World → Prop) (tail : List Oper) (a1 : Act) (E : Env) : Prop :=
  ∀ a' w', Behind w0 w' → a'.defers = a1.defers → a'.tmps.size = a1.tmps.size → (∀ t, E t (a'.tmps.getD t undef) w') → wpList P ops Q tail a' w'
theorem laneO_end {tail : List Oper} {a1 : Act} (hn : (F.map (·.1)).Nodup) (hl : (F.all fun x => decide (x.1 < a.tmps.size)) = true) (hd : a.defers = a1.defers) (hs : a.tmps.size = a1.tmps.size) (h : ∀ w', Behind w0 w' → fillAll F a w' fun a'' => wpList P ops Q tail a'' w') :
    laneO P ops w0 (finOf P ops w0 Q tail a1) [] (envOf a F) := fun a' w' hb h1 h2 hm => fill_spec F a hn (by simpa using hl) (h1.trans hd.symm) (h2.trans hs.symm) hm (h w' hb)
theorem laneO_end0 {tail : List Oper} {a1 : Act} (hd : a.defers = a1.defers) (hs : a.tmps.size = a1.tmps.size) (h : ∀ w', Behind w0 w' → wpList P ops Q tail a w') :
    laneO P ops w0 (finOf P ops w0 Q tail a1) [] (envOf a []) := laneO_end (by simp) rfl hd hs h
end

def firstAll (size : Nat) (ps : List Nat) : Array Bool := ps.foldl (fun L k => L.setIfInBounds k true) (Array.replicate size false)
def topB (ops : Array Oper) (size : Nat) (ps hs ts : List Nat) : Bool :=
  Region.noSelect ops && pureB .any ops ps (Array.replicate ops.size false) && laneB .any ops size (firstAll ops.size ps) hs && turnB .any ops ts (listedAll ops (firstAll ops.size ps) hs) && decide (ps.length + hs.length + ts.length = ops.size)
theorem closed_fold {md : Region.Mode} {ops : Array Oper} : ∀ (ps : List Nat) (L : Array Bool), L.size = ops.size → Closed md ops L → pureB md ops ps L = true → Closed md ops (ps.foldl (fun L k => L.setIfInBounds k true) L) ∧ (ps.foldl (fun L k => L.setIfInBounds k true) L).size = ops.size
  | [], _, hs, h, _ => ⟨h, hs⟩
  | k :: r, L, hs, h, hB => by
    simp only [pureB, Bool.and_eq_true] at hB
    obtain ⟨⟨⟨hr, _⟩, _⟩, hB⟩ := hB
    obtain ⟨_, hlt, hed⟩ := mem_ready'.1 (by simpa using hr)
    refine closed_fold r _ (by simp [hs]) (fun i hi j hj => (set_getD (by rw [hs]; exact hlt)).2 (.inr ?_)) hB
    rcases (set_getD (by rw [hs]; exact hlt)).1 hi with rfl | hi
    · exact hed j hj
    · exact h i hi j hj

def pick (l : List Oper) (ks : List Nat) : List Oper := ks.map fun k => l.getD k default
theorem pick_eq {l : List Oper} : ∀ (ks : List Nat), (∀ k ∈ ks, k < l.length) → ks.filterMap (l.toArray[·]?) = pick l ks
  | [], _ => rfl
  | k :: r, h => by
    have hk := h k (by simp)
    rw [List.filterMap_cons_some (b := l.getD k default) (by simp [hk]), pick_eq r fun j hj => h j (by simp [hj])]
    rfl
theorem pure_lt {md : Region.Mode} {ops : Array Oper} : ∀ (ps : List Nat) (L : Array Bool), pureB md ops ps L = true → ∀ k ∈ ps, k < ops.size
  | [], _, _ => by simp
  | k :: r, L, h => by
    simp only [pureB, Bool.and_eq_true] at h
    intro j hj
    rcases List.mem_cons.1 hj with rfl | hj
    · exact (mem_ready'.1 (by simpa using h.1.1.1)).2.1
    · exact pure_lt r _ h.2 j hj
theorem turn_lt {md : Region.Mode} {ops : Array Oper} : ∀ (ts : List Nat) (L : Array Bool), turnB md ops ts L = true → ∀ k ∈ ts, k < ops.size
  | [], _, _ => by simp
  | k :: r, L, h => by
    simp only [turnB, Bool.and_eq_true, decide_eq_true_eq] at h
    intro j hj
    rcases List.mem_cons.1 hj with rfl | hj
    · exact (mem_ready'.1 (by rw [h.1]; simp)).2.1
    · exact turn_lt r _ h.2 j hj
/-- A region that draws its order: ps hang on no world; hs by promises; then the tail ts in its order. -/
theorem region_lane {P : Program} {id : Nat} {Q : Exit → Act → World → Prop} {a : Act} {w : World} {l : List Oper} (ps hs ts : List Nat) (hm : P.follows .mixedOrders = true) (hB : topB l.toArray a.tmps.size ps hs ts = true)
    (hQ : ∀ c (a : Act) (d : Tmp) v w, Q (.panic c) (a.put (some d) v) w → Q (.panic c) a w)
    (h : wpQuiet P l.toArray (fun _ => True) (fun a1 => a1.tmps.size = a.tmps.size ∧ laneO P l.toArray w (finOf P l.toArray w Q (pick l ts) a1) (pick l hs) (envOf a1 [])) (pick l ps) a) : (Code.region id l.toArray true).wp P Q a w := by
  simp only [topB, firstAll, Bool.and_eq_true, decide_eq_true_eq] at hB
  obtain ⟨⟨⟨⟨hsel, hp⟩, hl⟩, hseq⟩, hlen⟩ := hB
  refine wp_region_any hm ?_
  have hsz : l.toArray.size = ps.length + (hs.length + ts.length) := by omega
  have key : ∀ fuel, fuel = ps.length + (hs.length + ts.length) → wpAny P .any l.toArray Q fuel (Array.replicate l.toArray.size false) a { w with drawn := w.drawn + 1 } := by
    intro fuel hfuel
    rw [hfuel]
    rw [← pick_eq ps (by simpa using pure_lt ps _ hp)] at h
    refine pure_first hsel hQ ps _ a hp h fun a1 ⟨hs1, h1⟩ => ?_
    have hl' : ∀ k ∈ hs, k < l.toArray.size := fun k hk => by
      simp only [laneB, Bool.and_eq_true] at hl
      obtain ⟨⟨⟨_, _⟩, hh⟩, _⟩ := hl
      simp only [headB, List.all_eq_true, Bool.and_eq_true, decide_eq_true_eq] at hh
      exact (hh k hk).1.1
    rw [← pick_eq hs (by simpa using hl'), ← pick_eq ts (by simpa using turn_lt ts _ hseq)] at h1
    have hpairs : hs.Nodup := by
      simp only [laneB, Bool.and_eq_true] at hl
      exact (pairsB_spec hs hl.1.1.1).1
    obtain ⟨Ts, hO, hF⟩ := lane_all hs _ hpairs (lane_of_laneO hs _ hl' h1)
    have hcl := closed_fold (md := .any) (ops := l.toArray) ps (Array.replicate l.toArray.size false) (by simp) (fun i hi => by rw [getD_replicate_false] at hi; cases hi) hp
    have hfil : (hs.filter fun k => !(ps.foldl (fun L k => L.setIfInBounds k true) (Array.replicate l.toArray.size false)).getD k false).length = hs.length := by
      rw [List.filter_eq_self.2]
      intro k hk
      simp only [laneB, Bool.and_eq_true] at hl
      obtain ⟨⟨⟨_, _⟩, hh⟩, _⟩ := hl
      simp only [headB, List.all_eq_true, Bool.and_eq_true] at hh
      exact (hh k hk).2
    refine wpAny_of_mid (w0 := w) (a0 := a1) (E0 := envOf a1 []) (Ts := Ts) (g := ts.length) (by rw [hs1]; exact hl) (envOf_steady (by intro x hx; cases hx)) hO (fun a' w' hb hd hsz' hm' => ?_) hs.length _ a1 _ hfil
      ⟨Behind.drawn w, hcl.2, rfl, rfl, hcl.1, fun _ h => h, fun _ h => .inl h, fun t k hk hlk => ?_, fun t _ => by simp [envOf]⟩
    · exact wpAny_of_turn ts _ a' w' hseq (hF a' w' hb hd hsz' hm')
    · simp only [laneB, Bool.and_eq_true] at hl
      obtain ⟨⟨⟨_, _⟩, hh⟩, _⟩ := hl
      simp only [headB, List.all_eq_true, Bool.and_eq_true] at hh
      have := (hh k hk).2
      rw [hlk] at this
      cases this
  exact key _ hsz
end Go.Proofs.YtbhdpfacfgldiaaGreatDoor
/- What a call may have turned: some blocks, and new ones. No program is named here. -/
namespace Go.Proofs.YtbhdpfacfgldiaaGreatDoor
set_option linter.unusedVariables false
set_option linter.unusedSimpArgs false
open Go.RowKit

structure Only (S : List Nat) (w w' : World) : Prop where
  os : w'.os = w.os
  tape : w'.tape = w.tape
  output : w'.output = w.output
  size : w.heap.size ≤ w'.heap.size
  block : ∀ k, k < w.heap.size → k ∉ S → w'.heap[k]? = w.heap[k]?

section
variable {S T : List Nat} {a b c w w' : World}
theorem Only.refl (S : List Nat) (w : World) : Only S w w := ⟨rfl, rfl, rfl, Nat.le_refl _, fun _ _ _ => rfl⟩
/-- What the second may turn, the first may, or it is new. -/
theorem Only.trans (h : Only S a b) (k : Only T b c) (ht : ∀ x ∈ T, x ∈ S ∨ a.heap.size ≤ x) : Only S a c :=
  ⟨k.os.trans h.os, k.tape.trans h.tape, k.output.trans h.output, Nat.le_trans h.size k.size, fun i hi hn =>
    (k.block i (Nat.lt_of_lt_of_le hi h.size) fun hT => by rcases ht i hT with h1 | h1
                                                           · exact hn h1
                                                           · omega).trans (h.block i hi hn)⟩
theorem Only.mono (h : Only S w w') (hs : ∀ x ∈ S, x ∈ T ∨ w.heap.size ≤ x) : Only T w w' := (Only.refl T w).trans h hs
theorem Only.then (h : Only S a b) (k : Only S b c) : Only S a c := h.trans k fun x hx => .inl hx
theorem Only.alloc (h : Only S a w) (o : Obj) : Only S a (w.alloc o) :=
  h.trans (T := []) ⟨rfl, rfl, rfl, by simp, fun k hk _ => Below.heap_alloc _ _ _ hk⟩ (by simp)
theorem Only.drewN (h : Only S a w) (n : Nat) : Only S a (w.drewN n) := ⟨h.os, h.tape, h.output, h.size, h.block⟩
theorem Only.drawn (h : Only S a w) : Only S a { w with drawn := w.drawn + 1 } := ⟨h.os, h.tape, h.output, h.size, h.block⟩
theorem Only.setCell (h : Only S a w) (p : Addr) (hp : p.block ∈ S ∨ a.heap.size ≤ p.block) (u : Value) : Only S a (w.setCell p u) :=
  h.trans (T := [p.block]) ⟨rfl, rfl, rfl, by simp [World.setCell], fun k _ hk => Below.heap_setCell _ _ _ _ (by simpa using hk)⟩ (by simpa using hp)
theorem Only.of_grown {row : Option Nat} (h : w.grownBy w' row) : Only row.toList w w' :=
  ⟨h.os, h.tape, h.output, h.size, fun k hk hn => h.block k hk fun e => hn (by simp [← e])⟩
theorem Only.of_below (h : Below w.heap.size w w') : Only S w w' := ⟨h.os, h.tape, h.output, h.size, fun k hk _ => h.block k hk⟩
theorem Only.below {B : Nat} (h : Only S w w') (hs : ∀ x ∈ S, B ≤ x) (hB : B ≤ w.heap.size) : Below B w w' :=
  ⟨h.os, h.tape, h.output, h.size, fun k hk => h.block k (by omega) fun hm => by have := hs k hm; omega⟩
theorem Only.cell (h : Only S w w') {p : Addr} (hp : p.block < w.heap.size) (hn : p.block ∉ S) : w'.cell? p = w.cell? p := World.cell?_of_block (w := w) (h.block _ hp hn)
theorem Only.frozen (h : Only S w w') {p : Addr} (hp : p.block < w.heap.size) (hn : p.block ∉ S) : w'.frozen? p = w.frozen? p := World.frozen?_of_block (w := w) (h.block _ hp hn)
theorem Only.whole (h : Only S w w') {g : Nat} {t : TypeId} {cs : List Value} (hw : Whole w g t cs) (hn : g ∉ S) : Whole w' g t cs := (h.block g hw.size hn).trans hw
theorem Only.owns (h : Only S w w') {base : Nat} {e : TypeId} {size : Nat} {v : Value} {n : Nat} {xs : List Value} (ho : w.ownsRow base e size v n xs) (hn : ∀ g, v.ownBlock = some g → g ∉ S) : w'.ownsRow base e size v n xs := by
  refine ⟨ho.1, ?_⟩
  rcases ho.2 with h0 | ⟨g, cap, cur, hv, hb, hg, rest⟩
  · exact .inl h0
  · refine .inr ⟨g, cap, cur, hv, hb, ?_, rest⟩
    rw [h.block g (Array.getElem?_eq_some_iff.1 hg).1 (hn g (by simp [hv, Value.ownBlock]))]
    exact hg
theorem Only.row (h : Only S w w') {B : Nat} {A : Option Addr} {xs : List Value} (hr : Row w B A xs) (hB : B ≤ w.heap.size) (hn : ∀ x ∈ S, B ≤ x) : Row w' B A xs :=
  hr.keep fun p hp => h.cell (by omega) fun hm => by have := hn _ hm; omega
end

/-- Two blocks of other element types are two. -/
theorem whole_ne {w : World} {g : Nat} {t : TypeId} {cs : List Value} (h : Whole w g t cs) {base : Nat} {e : TypeId} {size : Nat} {v : Value} {n : Nat} {xs : List Value} (ho : w.ownsRow base e size v n xs) (hne : t ≠ e) : v.ownBlock ≠ some g := by
  intro hv
  rcases ho.2 with ⟨rfl, _⟩ | ⟨g', cap, cur, rfl, _, hg, _⟩
  · simp [Value.ownBlock] at hv
  · simp [Value.ownBlock] at hv
    subst hv
    have h' : w.heap[g']? = some (.cells cs.toArray t (0, 0)) := h
    rw [h'] at hg
    simp at hg
    exact hne hg.2
theorem owns_ne {w : World} {b b' : Nat} {e e' : TypeId} {size size' : Nat} {v v' : Value} {n n' : Nat} {xs xs' : List Value} (h : w.ownsRow b e size v n xs) (h' : w.ownsRow b' e' size' v' n' xs') (hne : e ≠ e') {g : Nat} (hg : v.ownBlock = some g) : v'.ownBlock ≠ some g := by
  intro hv
  rcases h.2 with ⟨rfl, _⟩ | ⟨g1, cap, cur, rfl, _, hg1, _⟩
  · simp [Value.ownBlock] at hg
  · rcases h'.2 with ⟨rfl, _⟩ | ⟨g2, cap2, cur2, rfl, _, hg2, _⟩
    · simp [Value.ownBlock] at hv
    · simp [Value.ownBlock] at hv hg
      subst hv hg
      rw [hg1] at hg2
      simp at hg2
      exact hne hg2.2
theorem owns_lt {w : World} {b : Nat} {e : TypeId} {size : Nat} {v : Value} {n : Nat} {xs : List Value} (h : w.ownsRow b e size v n xs) {g : Nat} (hg : v.ownBlock = some g) : g < w.heap.size := (h.lt g hg).2
theorem owns_nil {w : World} {b : Nat} {e : TypeId} {size : Nat} {v : Value} {n : Nat} {xs : List Value} (h : w.ownsRow b e size v n xs) : ∃ A c, v = .slice A n c ∧ n ≤ c ∧ c ≤ maxLen ∧ (A = none → c = 0) := by
  rcases h.2 with ⟨rfl, rfl⟩ | ⟨g, cap, cur, rfl, _, hg, hn, hc, _⟩
  · exact ⟨none, 0, rfl, Nat.le_refl _, by simp [maxLen], fun _ => rfl⟩
  · exact ⟨_, _, rfl, hn, hc, fun h => by cases h⟩
theorem owns_some {w : World} {b : Nat} {e : TypeId} {size : Nat} {v : Value} {n : Nat} {xs : List Value} (h : w.ownsRow b e size v n xs) (hn : 0 < n) : ∃ g c, v = .slice (some ⟨g, 0, none⟩) n c ∧ n ≤ c ∧ c ≤ maxLen ∧ g < w.heap.size := by
  rcases h.2 with ⟨rfl, rfl⟩ | ⟨g, cap, cur, rfl, _, hg, hc, hm, _⟩
  · omega
  · exact ⟨_, _, rfl, hc, hm, (Array.getElem?_eq_some_iff.1 hg).1⟩
/-- The last elements let go: what is left is owned. -/
theorem owns_cut {w : World} {b : Nat} {e : TypeId} {size g n c : Nat} {xs : List Value} (h : w.ownsRow b e size (.slice (some ⟨g, 0, none⟩) n c) n xs) (m : Nat) (hm : m ≤ n) : w.ownsRow b e size (.slice (some ⟨g, 0, none⟩) m c) m (xs.take (m * size)) := by
  have hl := h.1
  rcases h.2 with ⟨h0, _⟩ | ⟨g', cap, cur, hv, hb, hg, hc, hmx, hcs, ht⟩
  · cases h0
  · injection hv with e1 _ e2
    injection e1 with e1
    injection e1 with e1 _ _
    subst e1 e2
    have hle : m * size ≤ n * size := Nat.mul_le_mul_right _ hm
    refine ⟨by rw [List.length_take, hl]; omega, .inr ⟨g, c, cur, rfl, hb, hg, by omega, hmx, hcs, ?_⟩⟩
    rw [← ht, List.take_take, Nat.min_eq_left hle]

section
variable {P : Program} {w : World} {e size bytes n : Nat} {xs : List Value}
/-- 'append' onto a row of the call's own: its block, or a new one. -/
theorem run_push (t ty : TypeId) (z : Value) (ht : P.underlying t = some (.slice e)) (hinfo : (P.info? e).map (fun i => (i.zero, i.size, i.bytes)) = some (some z, size, bytes))
    (hzs : z.cells.size = size) (hsz : 0 < size) (v : Value) (hown : w.ownsRow 0 e size v n xs) (a : Addr) (m c : Nat) (news : List Value) (hl : news.length = m * size) (hm : 0 < m)
    (hnews : ∀ j u, news[j]? = some u → w.cell? (a.add j) = some u) (h1 : ∀ u ∈ news, u.oneCell' = true) (h63 : n + m ≤ maxLen) (hbytes : (n + m) * bytes ≤ 140737488355328) :
    ∃ v' w', (Builtin.append_ #[t, t] ty #[v, .slice (some a) m c]).run P w = .ok v' w' ∧ w'.ownsRow 0 e size v' (n + m) (xs ++ news) ∧ w.grownBy w' v.ownBlock ∧ (∀ g, v'.ownBlock = some g → v.ownBlock = some g ∨ w.heap.size ≤ g) := by
  obtain ⟨i, hi, hz, hsize, hby⟩ := info_parts hinfo
  obtain ⟨v', w', hr, h2, h3, h4⟩ := run_append_own (P := P) w 0 t ty e i z size bytes ht hi hz hsize hby hzs hsz v n xs hown a m c news hl hnews h1 h63 hbytes (Nat.zero_le _)
  refine ⟨v', w', hr, h2, h3, fun g hg => ?_⟩
  rcases hown.2 with ⟨rfl, rfl⟩ | ⟨g0, cap, cur, rfl, _, hg0, hnc, hcm, hcs, htake⟩
  · have hx : xs = [] := List.eq_nil_of_length_eq_zero (by simpa using hown.1)
    subst hx
    obtain ⟨v2, w2, hr2, h22, _, _⟩ := run_append_own (P := P) w w.heap.size t ty e i z size bytes ht hi hz hsize hby hzs hsz _ 0 [] (World.ownsRow_nil w _ e size) a m c news hl hnews h1 h63 hbytes (Nat.le_refl _)
    rw [hr] at hr2
    injection hr2 with hv hw
    subst hv
    exact .inr (h22.lt g hg).1
  · by_cases hroom : n + m ≤ cap
    · obtain ⟨w2, hr2, _⟩ := run_append_fits (P := P) w 0 t ty e i size ht hi hsize g0 n cap xs hown a m c news hl hnews h1 hroom
      rw [hr] at hr2
      injection hr2 with hv hw
      subst hv
      exact .inl hg
    · have hsmall : n + m ≤ 9223372036854775807 := by simp only [maxLen] at h63; omega
      subst hsize
      have holds : ∀ j u, xs[j]? = some u → w.cell? ((⟨g0, 0, none⟩ : Addr).add j) = some u := hown.cells (g := g0) rfl
      have hr2 := run_append_grow (P := P) w t ty e i z ht hi hz ⟨g0, 0, none⟩ n cap xs hown.1 holds a m c news hl hnews (by omega) (by omega) (growslice_fits (by omega) (by rw [hby]; exact hbytes))
      rw [hr] at hr2
      injection hr2 with hv hw
      subst hv
      simp [Value.ownBlock] at hg
      exact .inr (by omega)
end

/-- A variable that was just made: a block of its own. -/
def newT (lo : Nat) (t : TypeId) (cs : List Value) : Told := fun v w => ∃ g, v = .pointer (some ⟨g, 0, none⟩) ∧ lo ≤ g ∧ Whole w g t cs
theorem newT_steady (lo : Nat) (t : TypeId) (cs : List Value) : Steady (newT lo t cs) := fun v w w' hb ⟨g, h1, h0, h2⟩ => ⟨g, h1, h0, h2.under hb h2.size⟩
theorem newT_new (lo : Nat) (t : TypeId) (cs : Array Value) (w : World) (h : lo ≤ w.heap.size) : Behind w (w.alloc (.cells cs t)) ∧ newT lo t cs.toList (.pointer (some ⟨w.heap.size, 0, none⟩)) (w.alloc (.cells cs t)) :=
  ⟨(Below.refl _ _).alloc (Nat.le_refl _) _, _, rfl, h, Whole.mk w t cs⟩
/-- .. a slice. -/
def rowT (lo n : Nat) (t : TypeId) (cs : List Value) : Told := fun v w => ∃ g, v = .slice (some ⟨g, 0, none⟩) n n ∧ lo ≤ g ∧ Whole w g t cs
theorem rowT_steady (lo n : Nat) (t : TypeId) (cs : List Value) : Steady (rowT lo n t cs) := fun v w w' hb ⟨g, h1, h0, h2⟩ => ⟨g, h1, h0, h2.under hb h2.size⟩
theorem rowT_new (lo n : Nat) (t : TypeId) (cs : Array Value) (w : World) (h : lo ≤ w.heap.size) : Behind w (w.alloc (.cells cs t)) ∧ rowT lo n t cs.toList (.slice (some ⟨w.heap.size, 0, none⟩) n n) (w.alloc (.cells cs t)) :=
  ⟨(Below.refl _ _).alloc (Nat.le_refl _) _, _, rfl, h, Whole.mk w t cs⟩
end Go.Proofs.YtbhdpfacfgldiaaGreatDoor
/- A map of integers to pointers: who is there, at which block. No program is named here. -/
namespace Go.Proofs.YtbhdpfacfgldiaaGreatDoor
open Go Go.RowKit
set_option linter.unusedVariables false
set_option linter.unusedSimpArgs false

def ptrV (g : Option Nat) : Value := .pointer (g.map fun b => ⟨b, 0, none⟩)
def ptrN (g : Option Nat) : Int := match g with | some b => b | none => -1
def ptrR (v : Value) : Option (DataW Unit × List MemPlace) := match v with
  | .pointer none => some (.lit (.int .i64 (-1)), [])
  | .pointer (some ⟨g, 0, none⟩) => some (.lit (.int .i64 g), [])
  | _ => none
theorem ptrR_mk (g : Option Nat) : ptrR (ptrV g) = some (.lit (.int .i64 (ptrN g)), []) := by cases g <;> rfl
theorem ptrR_inv {v : Value} {g : Option Nat} {ps : List MemPlace} (h : ptrR v = some (.lit (.int .i64 (ptrN g)), ps)) : v = ptrV g := by
  unfold ptrR at h
  split at h
  · cases g with
    | none => rfl
    | some b => simp [ptrN] at h
  · rename_i b
    cases g with
    | none => simp [ptrN] at h
    | some c =>
      have : (b : Int) = c := by simp [ptrN] at h; exact h.1
      have : b = c := by omega
      subst this; rfl
  · cases h
def In64i (n : Int) : Prop := -9223372036854775808 ≤ n ∧ n ≤ 9223372036854775807
theorem in64_wf {n : Int} (h : In64i n) : (Lit.int .i64 n).wf = true := WalkArith.wf_i64 h
/-- Block b is a map of n entries, of which f tells at which block each is. -/
def MapP (P : Program) (k : TypeId) (w : World) (b n : Nat) (f : Int → Option Nat) : Prop :=
  ∃ D : DataW Unit, w.ownsMap P k ptrR b n D ∧ Maps.size D = n ∧ ∀ id, In64i id → D.atKey (.int .i64 id) (.lit (.int .i64 (-1))) = .lit (.int .i64 (ptrN (f id))) ∧ Maps.has D (.int .i64 id) = (f id).isSome
section
variable {P : Program} {k t e : TypeId} {w w' : World} {b n : Nat} {f : Int → Option Nat}
theorem MapP.made (P : Program) (k : TypeId) (w : World) : MapP P k (w.alloc (.map #[] 0)) w.heap.size 0 (fun _ => none) :=
  ⟨_, World.ownsMap_made w P k ptrR, rfl, fun _ _ => ⟨rfl, rfl⟩⟩
theorem MapP.lt (h : MapP P k w b n f) : b < w.heap.size := by obtain ⟨D, h, -⟩ := h; exact h.lt
theorem MapP.only {S : List Nat} (h : MapP P k w b n f) (ho : Only S w w') (hn : b ∉ S) : MapP P k w' b n f := by
  have hl := h.lt
  obtain ⟨D, ⟨es, clock, hb, hF, hs, hD⟩, h2, h3⟩ := h
  exact ⟨D, ⟨es, clock, (ho.block b hl hn).trans hb, hF, hs, hD⟩, h2, h3⟩
theorem MapP.look (h : MapP P k w b n f) (hk : P.underlying k = some (.int .i64)) (ht : P.underlying t = some (.map k e)) (hz : (zeroValue e).run P w = .ok (.pointer none) w) {id : Int} (hi : In64i id) :
    (Instr.lookup t (.map (some b)) (.int .i64 id) false).run P w = .ok (ptrV (f id)) w := by
  obtain ⟨D, h1, h2, h3⟩ := h
  obtain ⟨v, ps, hrun, hR⟩ := h1.lookup (Maps.int_keyed hk) ht hz (ptrR_mk none) (Maps.keyOf_int_mk hk (in64_wf hi))
  rw [show (DataW.lit (.int .i64 (ptrN none)) : DataW Unit) = .lit (.int .i64 (-1)) from rfl, (h3 id hi).1] at hR
  rw [ptrR_inv hR] at hrun
  exact hrun
theorem MapP.len (h : MapP P k w b n f) (ht : P.underlying t = some (.map k e)) (ty : TypeId) : (Builtin.len_ #[t] ty #[.map (some b)]).run P w = .ok (.int .i64 n) w := by
  obtain ⟨D, h1, h2, h3⟩ := h
  have := h1.len ht ty
  rwa [h2] at this
theorem MapP.store (h : MapP P k w b n f) (hk : P.underlying k = some (.int .i64)) (ht : P.underlying t = some (.map k e)) (hn : n < maxLen) {id : Int} (hi : In64i id) (g : Nat) (hf : f id = none) :
    ∃ w', (Instr.mapUpdate t (.map (some b)) (.int .i64 id) (.pointer (some ⟨g, 0, none⟩))).run P w = .ok () w' ∧ MapP P k w' b (n + 1) (fun x => if x = id then some g else f x) ∧ Only [b] w w' := by
  obtain ⟨D, h1, h2, h3⟩ := h
  have hK := Maps.int_keyed (P := P) (k := k) hk
  have hkey := Maps.keyOf_int_mk (P := P) (k := k) hk (in64_wf hi)
  obtain ⟨w', hrun, ho, hg⟩ := h1.update hK ht hn hkey (ptrR_mk (some g))
  refine ⟨w', hrun, ⟨_, ho, ?_, fun x hx => ?_⟩, by have := Only.of_grown hg; simpa using this⟩
  · rw [Maps.size_put (h1.tidy hK), (h3 id hi).2, hf, h2]; rfl
  · by_cases he : x = id
    · subst he
      simp only [if_true]
      exact ⟨Maps.atKey_put_same h1.isMap (hK.key hkey) _ _, Maps.has_put_same h1.isMap (hK.key hkey) _⟩
    · simp only [if_neg he]
      have hne : (Lit.int .i64 x) ≠ .int .i64 id := fun e => he (by injection e)
      rw [Maps.atKey_put_other hne, Maps.has_put_other hne]
      exact h3 x hx
end
end Go.Proofs.YtbhdpfacfgldiaaGreatDoor
/- A block of integers of any type, read and written whole. No program is named here. -/
namespace Go.Proofs.YtbhdpfacfgldiaaGreatDoor
open Go Go.RowKit
set_option linter.unusedVariables false
set_option linter.unusedSimpArgs false

theorem flat_set (zs : List Int) (k : Nat) (n : Int) : (i64s zs).set k (.int .i64 n) = i64s (zs.set k n) := by simp [i64s, List.map_set]
theorem flat_one (zs : List Int) : (i64s zs).toArray.all (·.oneCell') = true :=
  Array.all_eq_true_iff_forall_mem.2 fun v hv => by
    have hv' : v ∈ i64s zs := by simpa using hv
    obtain ⟨z, _, rfl⟩ := List.mem_map.1 hv'
    rfl
section
variable {P : Program} {ops : Array Oper} {rest : List Oper} {o : Oper} {a : Act} {w : World} {Q : Exit → Act → World → Prop}
/-- Type t is a struct, or an array, of n cells. -/
def FlatT (P : Program) (t : TypeId) (n : Nat) : Prop := (∃ d, P.underlying t = some d ∧ (match d with | .struct _ | .array _ _ => true | _ => false) = true) ∧ (P.info? t).map (·.size) = some n
theorem flat_load {t : TypeId} {n : Nat} (ht : FlatT P t n) (x : Operand) (hgd : o.guard = none) (ho : o.op = .load t x) (g : Nat) (hx : a.eval x = .pointer (some ⟨g, 0, none⟩)) (zs : List Int) (hz : zs.length = n) (t0 : TypeId)
    (hw : Whole w g t0 (i64s zs)) (h : wpList P ops Q rest (a.put o.dst (.agg (i64s zs).toArray)) w) : wpList P ops Q (o :: rest) a w := by
  obtain ⟨⟨d, hd, hm⟩, hs⟩ := ht
  exact wpList_load_row hgd t x ho g hx t0 (i64s zs).toArray (0, 0) d hw hd (by cases d <;> first | rfl | exact hm) (by rw [hs]; simp [i64s_length, hz]) h
/-- .. of an operation that a guard has let through. -/
theorem flat_loadW {t : TypeId} {n : Nat} (ht : FlatT P t n) (x : Operand) (hgd : Region.wanted o (yielded ops a.tmps) = true) (ho : o.op = .load t x) (g : Nat) (hx : a.eval x = .pointer (some ⟨g, 0, none⟩)) (zs : List Int) (hz : zs.length = n) (t0 : TypeId)
    (hw : Whole w g t0 (i64s zs)) (h : wpList P ops Q rest (a.put o.dst (.agg (i64s zs).toArray)) w) : wpList P ops Q (o :: rest) a w := by
  obtain ⟨⟨d, hd, hm⟩, hs⟩ := ht
  exact wpList_wanted hgd fun _ hK => wp_load_row t x ho g hx t0 (i64s zs).toArray (0, 0) d hw hd (by cases d <;> first | rfl | exact hm) (by rw [hs]; simp [i64s_length, hz]) (hK _ _ h)
theorem flat_store {t : TypeId} {n : Nat} (ht : FlatT P t n) (x y : Operand) (hgd : o.guard = none) (ho : o.op = .store t x y) (g : Nat) (hx : a.eval x = .pointer (some ⟨g, 0, none⟩)) (zs : List Int) (hz : zs.length = n) (hy : a.eval y = .agg (i64s zs).toArray) (t0 : TypeId)
    (old : List Int) (hw : Whole w g t0 (i64s old)) (hold : old.length = n) (h : ∀ w', Whole w' g t0 (i64s zs) → Only [g] w w' → wpList P ops Q rest (a.put o.dst undef) w') : wpList P ops Q (o :: rest) a w :=
  wpList_plain hgd fun K hK => wp_store_row t x y ho g (i64s zs).toArray hx hy t0 (i64s old).toArray hw (by rw [ht.2]; simp [i64s_length, hz]) (by simp [i64s_length, hz, hold]) (flat_one zs)
    (hK _ _ (h _ (setRow_heap w g _ _ _ _ hw) ⟨rfl, rfl, rfl, by simp, fun k _ hk => setRow_other w g k _ (by simpa using hk)⟩))
theorem flat_end {t : TypeId} {n : Nat} (ht : FlatT P t n) {fn : Func} {p : Tmp} {R : Ending → World → Prop} (hr : fn.results = #[.cell p t]) (g : Nat) (hp : a.tmps.getD p undef = .pointer (some ⟨g, 0, none⟩)) (zs : List Int) (hz : zs.length = n) (t0 : TypeId)
    (hw : Whole w g t0 (i64s zs)) (hd : a.defers = []) (hR : R (.returned (.agg (i64s zs).toArray)) w) : bodyPost P fn R .ret a w := by
  obtain ⟨⟨d, hd', hm⟩, hs⟩ := ht
  exact bodyPost_ret (v := .agg (i64s zs).toArray) (results_cell_row hr a.tmps w g t0 (i64s zs).toArray (0, 0) d hp hw hd' (by cases d <;> first | rfl | exact hm) (by rw [hs]; simp [i64s_length, hz])) hd hR
theorem flat_gives {t : TypeId} {n : Nat} (ht : FlatT P t n) {o : Oper} {a : Act} {w : World} (x : Operand) (ho : o.op = .load t x) (g : Nat) (hx : a.eval x = .pointer (some ⟨g, 0, none⟩)) (zs : List Int) (hz : zs.length = n) (t0 : TypeId)
    (hw : Whole w g t0 (i64s zs)) : gives P o a w fun u _ => u = .agg (i64s zs).toArray := by
  obtain ⟨⟨d, hd', hm⟩, hs⟩ := ht
  have hr := run_loadVar_row (P := P) w g t0 t (i64s zs).toArray (0, 0) d hw hd' (by cases d <;> first | rfl | exact hm) (by rw [hs]; simp [i64s_length, hz])
  unfold gives execOp
  simp only [ho, hx, Instr.loadAt, Instr.sureAddr, Sem.run_bind, Sem.run_pure, Result.andThen_ok, hr]
  exact ⟨Behind.refl w, trivial⟩
end
/-- A text's length, in a region that draws its order. -/
theorem gives_len {P : Program} {o : Oper} {a : Act} {w : World} (x : Operand) (t : TypeId) (ho : o.op = .call { callee := .builtin .len, args := #[x], argTypes := #[t] }) (ht : P.underlying t = some .string) (s : ByteArray) (hx : a.eval x = .string s) :
    gives P o a w fun u _ => u = .int .i64 s.size := by
  have h := run_len_string (P := P) w t o.type s ht
  unfold gives execOp
  simp only [ho, resolve, invoke, builtin, Sem.run_bind, Sem.run_pure, Result.andThen_ok, List.map_toArray, List.map_cons, List.map_nil, hx, h]
  exact ⟨Behind.refl w, rfl⟩
/-- 'a[i]' of an array of integers, by value. -/
theorem run_index_ints {P : Program} {t e : TypeId} {n : Nat} {k : IntKind} (h : P.underlying t = some (.array n e)) (he : P.underlying e = some (.int .i64)) (hs : (P.info? e).map (·.size) = some 1) (zs : List Int) (hz : zs.length = n) (i : Nat) (hi : i < n) (w : World) :
    (Instr.index t (.agg (i64s zs).toArray) (.int k i)).run P w = .ok (.int .i64 (zs.getD i 0)) w := by
  have h1 : (0 : Int) ≤ i ∧ (i : Int) < n := by omega
  have hg : (i64s zs)[i]? = some (.int .i64 (zs.getD i 0)) := by simp [i64s, List.getD, List.getElem?_eq_getElem (show i < zs.length by omega)]
  have hsz : (sizeOf e).run P w = .ok 1 w := by
    cases hq : P.info? e with
    | none => simp [hq] at hs
    | some j =>
      have : j.size = 1 := by simpa [hq] using hs
      simp [sizeOf, typeInfo, hq, this, go_sem]
  simp [Instr.index, run_underlying h, asIntOf, h1, hsz, part, isAgg, run_underlying he, hg, hi, go_sem]
section
variable {w w' : World} {g : Nat} {t : TypeId} {zs : List Int}
theorem Whole.num (h : Whole w g t (i64s zs)) (i : Nat) (hi : i < zs.length) : w.cell? ⟨g, i, none⟩ = some (.int .i64 (zs.getD i 0)) := by
  rw [h.cell i]
  simp [i64s, List.getD, List.getElem?_eq_getElem hi]
theorem Whole.putNum (h : Whole w g t (i64s zs)) (i : Nat) (n : Int) : Whole (w.setCell ⟨g, i, none⟩ (.int .i64 n)) g t (i64s (zs.set i n)) := by
  rw [← flat_set]; exact h.put i _
end
end Go.Proofs.YtbhdpfacfgldiaaGreatDoor
/- A block of cells of any kinds read and written whole. No program is named here. -/
namespace Go.Proofs.YtbhdpfacfgldiaaGreatDoor
open Go Go.RowKit
set_option linter.unusedVariables false
set_option linter.unusedSimpArgs false

theorem cells_one {cs : List Value} (h : ∀ v ∈ cs, v.oneCell' = true) : cs.toArray.all (·.oneCell') = true := Array.all_eq_true_iff_forall_mem.2 fun v hv => h v (by simpa using hv)
section
variable {P : Program} {ops : Array Oper} {rest : List Oper} {o : Oper} {a : Act} {w : World} {Q : Exit → Act → World → Prop}
theorem cells_load {t : TypeId} {n : Nat} (ht : FlatT P t n) (x : Operand) (hgd : o.guard = none) (ho : o.op = .load t x) (g : Nat) (hx : a.eval x = .pointer (some ⟨g, 0, none⟩)) (cs : List Value) (hz : cs.length = n) (t0 : TypeId)
    (hw : Whole w g t0 cs) (h : wpList P ops Q rest (a.put o.dst (.agg cs.toArray)) w) : wpList P ops Q (o :: rest) a w := by
  obtain ⟨⟨d, hd, hm⟩, hs⟩ := ht
  exact wpList_load_row hgd t x ho g hx t0 cs.toArray (0, 0) d hw hd (by cases d <;> first | rfl | exact hm) (by rw [hs]; simp [hz]) h
theorem cells_loadW {t : TypeId} {n : Nat} (ht : FlatT P t n) (x : Operand) (hgd : Region.wanted o (yielded ops a.tmps) = true) (ho : o.op = .load t x) (g : Nat) (hx : a.eval x = .pointer (some ⟨g, 0, none⟩)) (cs : List Value) (hz : cs.length = n) (t0 : TypeId)
    (hw : Whole w g t0 cs) (h : wpList P ops Q rest (a.put o.dst (.agg cs.toArray)) w) : wpList P ops Q (o :: rest) a w := by
  obtain ⟨⟨d, hd, hm⟩, hs⟩ := ht
  exact wpList_wanted hgd fun _ hK => wp_load_row t x ho g hx t0 cs.toArray (0, 0) d hw hd (by cases d <;> first | rfl | exact hm) (by rw [hs]; simp [hz]) (hK _ _ h)
theorem cells_store {t : TypeId} {n : Nat} (ht : FlatT P t n) (x y : Operand) (hgd : o.guard = none) (ho : o.op = .store t x y) (g : Nat) (hx : a.eval x = .pointer (some ⟨g, 0, none⟩)) (cs : List Value) (hz : cs.length = n) (h1 : ∀ v ∈ cs, v.oneCell' = true) (hy : a.eval y = .agg cs.toArray) (t0 : TypeId)
    (old : List Value) (hw : Whole w g t0 old) (hold : old.length = n) (h : ∀ w', Whole w' g t0 cs → Only [g] w w' → wpList P ops Q rest (a.put o.dst undef) w') : wpList P ops Q (o :: rest) a w :=
  wpList_plain hgd fun K hK => wp_store_row t x y ho g cs.toArray hx hy t0 old.toArray hw (by rw [ht.2]; simp [hz]) (by simp [hz, hold]) (cells_one h1)
    (hK _ _ (h _ (setRow_heap w g _ _ _ _ hw) ⟨rfl, rfl, rfl, by simp, fun k _ hk => setRow_other w g k _ (by simpa using hk)⟩))
theorem cells_gives {t : TypeId} {n : Nat} (ht : FlatT P t n) {o : Oper} {a : Act} {w : World} (x : Operand) (ho : o.op = .load t x) (g : Nat) (hx : a.eval x = .pointer (some ⟨g, 0, none⟩)) (cs : List Value) (hz : cs.length = n) (t0 : TypeId)
    (hw : Whole w g t0 cs) : gives P o a w fun u _ => u = .agg cs.toArray := by
  obtain ⟨⟨d, hd', hm⟩, hs⟩ := ht
  have hr := run_loadVar_row (P := P) w g t0 t cs.toArray (0, 0) d hw hd' (by cases d <;> first | rfl | exact hm) (by rw [hs]; simp [hz])
  unfold gives execOp
  simp only [ho, hx, Instr.loadAt, Instr.sureAddr, Sem.run_bind, Sem.run_pure, Result.andThen_ok, hr]
  exact ⟨Behind.refl w, trivial⟩
theorem cells_end {t : TypeId} {n : Nat} (ht : FlatT P t n) {fn : Func} {p : Tmp} {R : Ending → World → Prop} (hr : fn.results = #[.cell p t]) (g : Nat) (hp : a.tmps.getD p undef = .pointer (some ⟨g, 0, none⟩)) (cs : List Value) (hz : cs.length = n) (t0 : TypeId)
    (hw : Whole w g t0 cs) (hd : a.defers = []) (hR : R (.returned (.agg cs.toArray)) w) : bodyPost P fn R .ret a w := by
  obtain ⟨⟨d, hd', hm⟩, hs⟩ := ht
  exact bodyPost_ret (v := .agg cs.toArray) (results_cell_row hr a.tmps w g t0 cs.toArray (0, 0) d hp hw hd' (by cases d <;> first | rfl | exact hm) (by rw [hs]; simp [hz])) hd hR
theorem cells_end2 {t : TypeId} {n : Nat} (ht : FlatT P t n) {fn : Func} {p u : Tmp} {R : Ending → World → Prop} (hr : fn.results = #[.cell p t, .tmp u]) (g : Nat) (hp : a.tmps.getD p undef = .pointer (some ⟨g, 0, none⟩)) (cs : List Value) (hz : cs.length = n) (t0 : TypeId)
    (hw : Whole w g t0 cs) (hd : a.defers = []) (hR : R (.returned (.tuple #[.agg cs.toArray, a.tmps.getD u undef])) w) : bodyPost P fn R .ret a w := by
  obtain ⟨⟨d, hd', hm⟩, hs⟩ := ht
  have h1 := run_loadVar_row (P := P) w g t0 t cs.toArray (0, 0) d hw hd' (by cases d <;> first | rfl | exact hm) (by rw [hs]; simp [hz])
  exact bodyPost_ret (v := .tuple #[.agg cs.toArray, a.tmps.getD u undef]) (by rw [results_cell_tmp hr, hp]; simp [asAddr, h1, Result.andThen]) hd hR
theorem cells_build (t : TypeId) (parts : Array (Nat × Operand)) (hgd : o.guard = none) (ho : o.op = .build t parts) (cs : List Value) (hf : P.built t (parts.map fun (i, x) => (i, a.eval x)).toList = some cs.toArray) (h : wpList P ops Q rest (a.put o.dst (.agg cs.toArray)) w) : wpList P ops Q (o :: rest) a w :=
  wpList_plain hgd fun K hK => wp_build t parts ho (by rw [hf]; rfl) (by rw [hf]; exact hK _ _ h)
theorem cells_buildW (t : TypeId) (parts : Array (Nat × Operand)) (hgd : Region.wanted o (yielded ops a.tmps) = true) (ho : o.op = .build t parts) (cs : List Value) (hf : P.built t (parts.map fun (i, x) => (i, a.eval x)).toList = some cs.toArray) (h : wpList P ops Q rest (a.put o.dst (.agg cs.toArray)) w) : wpList P ops Q (o :: rest) a w :=
  wpList_wanted hgd fun K hK => wp_build t parts ho (by rw [hf]; rfl) (by rw [hf]; exact hK _ _ h)
theorem built_gives {o : Oper} {a : Act} {w : World} (t : TypeId) (parts : Array (Nat × Operand)) (ho : o.op = .build t parts) (cells : Array Value) (hf : P.built t (parts.map fun (i, x) => (i, a.eval x)).toList = some cells) : gives P o a w fun u _ => u = .agg cells := by
  unfold gives execOp
  simp only [ho, Sem.run_bind, run_build w t _ cells hf, Result.andThen_ok, Sem.run_pure]
  exact ⟨Behind.refl w, trivial⟩
end
end Go.Proofs.YtbhdpfacfgldiaaGreatDoor
/- A tree in memory. -/
namespace Go.Proofs.YtbhdpfacfgldiaaGreatDoor
open Go Go.RowKit
set_option linter.unusedVariables false
set_option linter.unusedSimpArgs false

/-- A node's cells: its list of declarations, its kids. -/
def ndC (n : Nd) (sv kv : Value) : List Value := [.int .i64 n.id, .int .i64 n.par, .bool n.tx, .string n.dat, sv, kv]
/-- Kids, as a slice's cells. -/
abbrev idC (l : List Int) : List Value := l.map (Value.int .i64)
/-- A list of declarations as a slice that reads so. -/
def StyAt (w : World) (sv : Value) (l : List Dc) : Prop := ∃ A c, sv = .slice A l.length c ∧ Row w w.heap.size A (i64s (dCells l)) ∧ l.length ≤ 1000000 ∧ (A = none → c = 0)
/-- .. of its own, in blocks from base on. -/
def StyOwn (w : World) (base : Nat) (sv : Value) (l : List Dc) : Prop := ∃ A c, sv = .slice A l.length c ∧ w.ownsRow base 70 4 (.slice A l.length c) l.length (i64s (dCells l)) ∧ l.length ≤ 1000000
/-- Block t is a tree whose nodes are L: f says where each is, sv and kv are their slices; b is the map. -/
structure TreeAt (w : World) (base t b : Nat) (most : Int) (L : List Nd) (f : Int → Option Nat) (sv kv : Int → Value) : Prop where
  ok : TreeOk L
  low : base ≤ t ∧ base ≤ b
  hd : Whole w t 86 [.int .i64 most, .map (some b)]
  mp : MapP Tryz.prog 3 w b L.length f
  dom : ∀ id, (f id).isSome = hasZ L id
  nod : ∀ n ∈ L, ∀ g, f n.id = some g → base ≤ g ∧ Whole w g 88 (ndC n (sv n.id) (kv n.id))
  sty : ∀ n ∈ L, StyOwn w base (sv n.id) n.sty
  kid : ∀ n ∈ L, w.ownsRow base 3 1 (kv n.id) (kidsZ L n.id).length (idC (kidsZ L n.id))
  inj : ∀ i j g, f i = some g → f j = some g → i = j
  apart : ∀ n ∈ L, ∀ m ∈ L, ∀ g, (kv n.id).ownBlock = some g → (kv m.id).ownBlock = some g → n.id = m.id
/-- .. somehow. -/
def Tree (w : World) (base t : Nat) (most : Int) (L : List Nd) : Prop := ∃ b f sv kv, TreeAt w base t b most L f sv kv
section
variable {w w' : World} {base t b : Nat} {most : Int} {L : List Nd} {f : Int → Option Nat} {sv kv : Int → Value}
theorem own_nil {w : World} {base e size n c : Nat} {xs : List Value} (h : w.ownsRow base e size (.slice none n c) n xs) : c = 0 := by
  rcases h.2 with ⟨e, -⟩ | ⟨g, cap, cur, e, -⟩
  · simp at e; exact e.2
  · simp at e
theorem StyOwn.at_ {sv : Value} {l : List Dc} (h : StyOwn w base sv l) : StyAt w sv l := by
  obtain ⟨A, c, e, ho, hl⟩ := h
  exact ⟨A, c, e, row_of_own ho, hl, fun e => by subst e; exact own_nil ho⟩
theorem StyOwn.only {S : List Nat} {sv : Value} {l : List Dc} (h : StyOwn w base sv l) (ho : Only S w w') (hn : ∀ g, sv.ownBlock = some g → g ∉ S) : StyOwn w' base sv l := by
  obtain ⟨A, c, rfl, hr, hl⟩ := h
  exact ⟨A, c, rfl, ho.owns hr hn, hl⟩
theorem StyOwn.mono {base' : Nat} {sv : Value} {l : List Dc} (h : StyOwn w base sv l) (hb : base' ≤ base) : StyOwn w base' sv l := by
  obtain ⟨A, c, e, hr, hl⟩ := h
  refine ⟨A, c, e, ⟨hr.1, ?_⟩, hl⟩
  rcases hr.2 with h0 | ⟨g, cap, cur, hv, h1, h2, h3⟩
  · exact .inl h0
  · exact .inr ⟨g, cap, cur, hv, by omega, h2, h3⟩
/-- A block of another type is not its own. -/
theorem StyOwn.other {g : Nat} {t : TypeId} {cs : List Value} {sv : Value} {l : List Dc} (h : StyOwn w base sv l) (hw : Whole w g t cs) (ht : t ≠ 70) : sv.ownBlock ≠ some g := by
  obtain ⟨A, c, rfl, hr, hl⟩ := h
  exact whole_ne hw hr ht
theorem StyAt.below {sv : Value} {l : List Dc} (h : StyAt w sv l) (hb : Below w.heap.size w w') : StyAt w' sv l := by
  obtain ⟨A, c, e, hr, hl⟩ := h
  exact ⟨A, c, e, (hr.below hb).more hb.size, hl⟩
theorem TreeAt.there (h : TreeAt w base t b most L f sv kv) {n : Nd} (hn : n ∈ L) : ∃ g, f n.id = some g := by
  have := h.dom n.id
  rw [has_iff.2 ⟨n, hn, rfl⟩] at this
  exact Option.isSome_iff_exists.1 this
theorem TreeAt.gone (h : TreeAt w base t b most L f sv kv) {id : Int} (hn : hasZ L id = false) : f id = none := by
  have := h.dom id
  rw [hn] at this
  simpa using this
/-- Calls that make blocks only leave a tree as it is. -/
theorem TreeAt.behind (h : TreeAt w base t b most L f sv kv) (hb : Below w.heap.size w w') : TreeAt w' base t b most L f sv kv := by
  have ho : Only [] w w' := Only.of_below hb
  exact ⟨h.ok, h.low, h.hd.under hb h.hd.size, h.mp.only ho (by simp), h.dom, fun n hn g hg => ⟨(h.nod n hn g hg).1, (h.nod n hn g hg).2.under hb (h.nod n hn g hg).2.size⟩,
    fun n hn => (h.sty n hn).only ho (by simp), fun n hn => ho.owns (h.kid n hn) (by simp), h.inj, h.apart⟩
theorem Tree.behind (h : Tree w base t most L) (hb : Below w.heap.size w w') : Tree w' base t most L := by
  obtain ⟨b, f, sv, kv, h⟩ := h
  exact ⟨b, f, sv, kv, h.behind hb⟩
end
end Go.Proofs.YtbhdpfacfgldiaaGreatDoor
/- A row's declarations, as the walk reads them. No program is named here. -/
namespace Go.Proofs.YtbhdpfacfgldiaaGreatDoor
open Go Go.RowKit
set_option linter.unusedVariables false
set_option linter.unusedSimpArgs false
set_option maxRecDepth 20000
set_option maxHeartbeats 4000000

theorem Row.dec {w : World} {B : Nat} {A : Option Addr} {ds : List Dc} (h : Row w B A (i64s (dCells ds))) {k : Nat} (hk : k < ds.length) :
    ∃ ad, A = some ad ∧ ad.block < B ∧ w.cell? (ad.add (k * 4)) = some (.int .i64 ds[k].p) ∧ w.cell? ⟨(ad.add (k * 4)).block, (ad.add (k * 4)).off + 1, none⟩ = some (.int .i64 ds[k].w) ∧
      w.cell? ⟨(ad.add (k * 4)).block, (ad.add (k * 4)).off + 2, none⟩ = some (.int .i64 ds[k].k) ∧ w.cell? ⟨(ad.add (k * 4)).block, (ad.add (k * 4)).off + 3, none⟩ = some (.int .i64 ds[k].n) := by
  have hl := dCells_length ds
  have hl' := i64s_length (dCells ds)
  obtain ⟨ad, e, hb, hc⟩ := h (by omega)
  obtain ⟨g0, g1, g2, g3⟩ := dCells_get ds k hk
  have at_ : ∀ j, j < 4 → ∀ z, (dCells ds)[k * 4 + j]? = some z → w.cell? (ad.add (k * 4 + j)) = some (.int .i64 z) := fun j hj z hz => by
    have h1 : k * 4 + j < (i64s (dCells ds)).length := by omega
    rw [hc _ h1]
    have h2 : k * 4 + j < (dCells ds).length := by omega
    rw [List.getElem?_eq_getElem h2] at hz
    injection hz with hz
    simp [i64s, hz]
  have far : ∀ j, 0 < j → (⟨(ad.add (k * 4)).block, (ad.add (k * 4)).off + j, none⟩ : Addr) = ad.add (k * 4 + j) := fun j hj => by
    have : (ad.add (k * 4)).add j = ad.add (k * 4 + j) := add_of_add _ _ _
    rw [← this]
    generalize ad.add (k * 4) = b
    unfold Addr.add
    rw [if_neg (by omega)]
  refine ⟨ad, e, hb, at_ 0 (by omega) _ g0, ?_, ?_, ?_⟩
  · rw [far 1 (by omega)]; exact at_ 1 (by omega) _ g1
  · rw [far 2 (by omega)]; exact at_ 2 (by omega) _ g2
  · rw [far 3 (by omega)]; exact at_ 3 (by omega) _ g3
end Go.Proofs.YtbhdpfacfgldiaaGreatDoor
/- unit.Px. -/
namespace Go.Proofs.YtbhdpfacfgldiaaGreatDoor
open Go.RowKit

theorem px_any (t : Int) (w : World) (hn : -9223372036854775808 ≤ t) (hn' : t ≤ 9223372036854775807) :
    Calls Tryz.prog 143 #[.int .i64 t] w fun e w' => e = .returned (.int .i64 (pxZ t)) ∧ w = w' := by
  have hb := near_bd (64 * max (-1000000000000) (min t 1000000000000)) 1000 (by omega) (by omega) (by omega) (by omega)
  go_enter Tryz.func143, Tryz.ntmps143
  go_wp2_with (first
    | (go_at_call 148; refine (within_any _ _ _ (by omega) (by omega) (by omega) (by omega)).mono ?_; rintro e w' ⟨rfl, rfl⟩)
    | (go_at_call 147; refine (nearest_any _ _ _ (by omega) (by omega) (by omega) (by omega)).mono ?_; rintro e w' ⟨rfl, rfl⟩)
    | (go_at_call 146; refine (hold_any _ _ (by omega) (by omega)).mono ?_; rintro e w' ⟨rfl, rfl⟩))
  go_ret
  exact ⟨rfl, rfl⟩
end Go.Proofs.YtbhdpfacfgldiaaGreatDoor
/- quoinref1.down: out of RefPx. -/
namespace Go.Proofs.YtbhdpfacfgldiaaGreatDoor
open Go Go.RowKit
set_option linter.unusedVariables false
set_option linter.unusedSimpArgs false
set_option maxRecDepth 20000
set_option maxHeartbeats 4000000

theorem down_any (n d : Int) (w : World) (h0 : 1 ≤ d) (h1 : d ≤ 4611686018427387904) (hn : -6917529027641081856 ≤ n) (hn' : n ≤ 6917529027641081856) :
    Calls Tryz.prog 90 #[.int .i64 n, .int .i64 d] w fun e w' => e = .returned (.int .i64 (n / d)) ∧ w = w' := by
  have hd := tdiv_floor n d (by omega)
  have hb := tdiv_bd n d (by omega) hn hn'
  have hq : -9223372036854775807 ≤ n.tdiv d ∧ n.tdiv d ≤ 9223372036854775807 := by
    by_cases hs : n.tmod d < 0
    · have := hd.1 hs; omega
    · have := hd.2 (by omega); omega
  obtain ⟨hq1, hq2⟩ := hq
  by_cases hs : n.tmod d < 0
  · have h := Lib.hid (hd.1 hs)
    clear hd hb
    go_enter Tryz.func90, Tryz.ntmps90
    go_wp2
    go_ret
    exact ⟨ret_int h.out, rfl⟩
  · have h := Lib.hid (hd.2 (by omega))
    clear hd hb
    go_enter Tryz.func90, Tryz.ntmps90
    go_wp2
    go_ret
    exact ⟨ret_int h.out, rfl⟩
end Go.Proofs.YtbhdpfacfgldiaaGreatDoor
