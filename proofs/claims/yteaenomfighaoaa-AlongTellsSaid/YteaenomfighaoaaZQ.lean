import Derived.WalkKit
import Derived.Below
import Derived.Deep.Draws
import Derived.OwnWalk
import Derived.Laws.OwnMore
import Derived.Laws.AppendOwnNone
import Derived.Lib.Hide
import Derived.Laws.BitsAllLaws
import Derived.Laws.BitsLemmas
import Derived.ProofKit
import Derived.OpenShut
import Derived.ShutString
import Derived.ChangeOld
import Derived.Deep.Slices
import Derived.Lib.SmallJoins
import Derived.Laws.Rows
import Derived.Deep.Quiet
import Derived.StillTail
import Derived.Deep.QuietTactic
import Derived.BigQuiet
import Derived.Deep.Cut
import Derived.Deep.CutBlock
import Derived.Deep.DeepCutAuto
import Derived.Deep.CutRange
import Derived.Laws.Tables
import Derived.Laws.ResultCell
import Derived.Test.YteaenomfighaoaaProg
import Derived.BigRegion
import Derived.WalkLawsBesides
import Derived.WalkSpells
import Derived.Outline
import Derived.Lib.BitFns
import Derived.Deep.RegionLawGrows
import Derived.Deep.Upon
/- Words for memory: a slice that reads as a list of cells, whatever its address; plain lemmas on lists of numbers. No program is named here. -/
namespace Go.Proofs.Yteaenomfighaoaa
set_option linter.unusedVariables false
set_option linter.unusedSimpArgs false
open Go.RowKit

theorem add_block (a : Addr) (n : Nat) : (a.add n).block = a.block := by unfold Addr.add; split <;> rfl
theorem add_zero (a : Addr) : a.add 0 = a := by simp [Addr.add]

/-- The cells from A on are xs, in a block below B; where xs is empty nothing is asked of A. -/
def Row (w : World) (B : Nat) (A : Option Addr) (xs : List Value) : Prop :=
  0 < xs.length → ∃ ad, A = some ad ∧ ad.block < B ∧ ∀ i (h : i < xs.length), w.cell? (ad.add i) = some xs[i]

section
variable {w w' : World} {B B' : Nat} {A : Option Addr} {xs : List Value}
theorem Row.nil (w : World) (B : Nat) (A : Option Addr) : Row w B A [] := fun h => absurd h (by simp)
theorem Row.get (h : Row w B A xs) {k : Nat} (hk : k < xs.length) : ∃ ad, A = some ad ∧ ad.block < B ∧ w.cell? (ad.add k) = some xs[k] := by
  obtain ⟨ad, e, hb, hc⟩ := h (by omega)
  exact ⟨ad, e, hb, hc k hk⟩
theorem Row.keep (h : Row w B A xs) (hk : ∀ p : Addr, p.block < B → w'.cell? p = w.cell? p) : Row w' B A xs := fun hn => by
  obtain ⟨ad, e, hb, hc⟩ := h hn
  exact ⟨ad, e, hb, fun i hi => (hk _ (by rw [add_block]; exact hb)).trans (hc i hi)⟩
theorem Row.more (h : Row w B A xs) (hB : B ≤ B') : Row w B' A xs := fun hn => by
  obtain ⟨ad, e, hb, hc⟩ := h hn
  exact ⟨ad, e, by omega, hc⟩
theorem Row.below (h : Row w B A xs) (hb : Below B w w') : Row w' B A xs := h.keep fun _ hp => hb.cell hp
theorem Row.drew (h : Row w B A xs) : Row w.drew B A xs := h
theorem Row.drewN (h : Row w B A xs) (k : Nat) : Row (w.drewN k) B A xs := h
theorem Row.alloc (h : Row w B A xs) (hB : B ≤ w.heap.size) (o : Obj) : Row (w.alloc o) B A xs := h.keep fun p hp => World.cell?_alloc_lt w o p (by omega)
theorem Row.setCell (h : Row w B A xs) {p : Addr} (hB : B ≤ p.block) (u : Value) : Row (w.setCell p u) B A xs :=
  h.keep fun q hq => World.cell?_setCell_other w p q u (fun e => by subst e; omega)
theorem Row.undrew {n : Nat} (h : Row (w.drewN n) B A xs) : Row w B A xs := h
end


theorem head_add (g i : Nat) : (⟨g, 0, none⟩ : Addr).add i = ⟨g, i, none⟩ := by unfold Addr.add; split <;> simp_all
theorem row_new (w : World) (cs : Array Value) (t : TypeId) : Row (w.alloc (.cells cs t)) (w.heap.size + 1) (some ⟨w.heap.size, 0, none⟩) cs.toList := fun _ =>
  ⟨_, rfl, by simp, fun i hi => by
    rw [head_add, World.cell?_alloc_at _ _ _ _ rfl]
    simp at hi
    simp [hi]⟩

theorem Below.drewN' {B : Nat} {a w : World} (h : Below B a w) (n : Nat) : Below B a (w.drewN n) := ⟨h.os, h.tape, h.output, h.size, h.block⟩
theorem row_at (w : World) (g : Nat) (cs : Array Value) (t : TypeId) (hg : g = w.heap.size) : Row (w.alloc (.cells cs t)) (g + 1) (some ⟨g, 0, none⟩) cs.toList := by
  subst hg; exact row_new w cs t

section
variable {P : Program} {w w' : World} {base e size n c : Nat} {A : Option Addr} {xs : List Value}
theorem own_shape {v : Value} (h : w.ownsRow base e size v n xs) : ∃ A c, v = .slice A n c := by
  rcases h.2 with ⟨rfl, rfl⟩ | ⟨g, cap, cur, rfl, _⟩
  · exact ⟨none, 0, rfl⟩
  · exact ⟨_, _, rfl⟩
theorem row_of_own (h : w.ownsRow base e size (.slice A n c) n xs) : Row w w.heap.size A xs := fun hn => by
  rcases h.2 with ⟨_, h0⟩ | ⟨g, cap, cur, hv, _, hg, _⟩
  · have := h.1; rw [h0, Nat.zero_mul] at this; omega
  · injection hv with hA _ _
    subst hA
    have hlt : g < w.heap.size := (Array.getElem?_eq_some_iff.1 hg).1
    exact ⟨_, rfl, hlt, fun i hi => h.cells (g := g) rfl i _ (List.getElem?_eq_getElem hi)⟩
theorem own_below (h : w.ownsRow base e size (.slice A n c) n xs) {B : Nat} (hb : Below B w w') (hB : w.heap.size ≤ B) : w'.ownsRow base e size (.slice A n c) n xs := by
  refine ⟨h.1, ?_⟩
  rcases h.2 with h0 | ⟨g, cap, cur, hv, h1, h2, h3⟩
  · exact .inl h0
  · have hlt : g < w.heap.size := (Array.getElem?_eq_some_iff.1 h2).1
    exact .inr ⟨g, cap, cur, hv, h1, (hb.block g (by omega)).trans h2, h3⟩
theorem wpList_wanted {ops : Array Oper} {rest : List Oper} {o : Oper} {a : Act} {Q : Exit → Act → World → Prop} (hw : Region.wanted o (yielded ops a.tmps) = true)
    (h : ∀ K : Act → World → Prop, (∀ a w, wpList P ops Q rest a w → K a w) → o.wp P a w K Q) : wpList P ops Q (o :: rest) a w :=
  wpList_step fun K hK => by rw [if_pos hw]; exact h K hK
/-- 'xs = append(xs, ys...)' onto a slice of the call's own, the source a row wherever it lies; nil too. -/
theorem wp_push_all {o : Oper} {a : Act} {K : Act → World → Prop} {Q : Exit → Act → World → Prop} (s x : Operand) (t : TypeId)
    (ho : o.op = .call { callee := .builtin .append, args := #[s, x], argTypes := #[t, t] })
    (base e size bytes : Nat) (z : Value) (ht : P.underlying t = some (.slice e)) (hinfo : (P.info? e).map (fun i => (i.zero, i.size, i.bytes)) = some (some z, size, bytes))
    (hzs : z.cells.size = size) (hsz : 0 < size) (n c : Nat) (A : Option Addr) (xs : List Value) (hs : a.eval s = .slice A n c) (hown : w.ownsRow base e size (.slice A n c) n xs)
    (B m c' : Nat) (A' : Option Addr) (news : List Value) (hx : a.eval x = .slice A' m c') (hnil : A' = none → c' = 0) (hl : news.length = m * size) (hr : Row w B A' news) (h1 : ∀ u ∈ news, u.oneCell' = true)
    (h63 : n + m ≤ maxLen) (hbytes : (n + m) * bytes ≤ 140737488355328) (hbase : base ≤ w.heap.size)
    (h : ∀ A' c' w', w'.ownsRow base e size (.slice A' (n + m) c') (n + m) (xs ++ news) → Below base w w' → K (a.put o.dst (.slice A' (n + m) c')) w') : o.wp P a w K Q := by
  obtain ⟨i, hi, hz, hsize, hby⟩ := info_parts hinfo
  rcases A' with _ | ad
  · have hn : news = [] := by
      rcases Nat.eq_zero_or_pos news.length with h0 | h0
      · exact List.eq_nil_of_length_eq_zero h0
      · obtain ⟨ad, e, _⟩ := hr h0; cases e
    subst hn
    have hm : m = 0 := by
      have : 0 = m * size := hl
      rcases Nat.eq_zero_or_pos m with h0 | h0
      · exact h0
      · have := Nat.mul_pos h0 hsz; omega
    subst hm
    rw [hnil rfl] at hx
    have hrun := run_append_owned_none (P := P) (w := w) base t o.type e i size ht hi (.slice A n c) n xs hown
    have hK := h A c w (by simpa using hown) (Below.refl _ _)
    unfold Oper.wp execOp
    simp only [ho, resolve, invoke, builtin, Sem.run_bind, Sem.run_pure, Result.andThen_ok, List.map_toArray, List.map_cons, List.map_nil, hs, hx, hrun]
    exact hK
  · refine wp_append_own w s x t ho base e i z size bytes ht hi hz hsize hby hzs hsz (.slice A n c) n xs hs hown ad m c' news hx hl (fun j u hu => ?_) h1 h63 hbytes hbase ?_
    · obtain ⟨hj, rfl⟩ := List.getElem?_eq_some_iff.1 hu
      obtain ⟨ad', e', _, hc⟩ := hr (by omega)
      injection e' with e'
      subst e'
      exact hc j hj
    · intro v' w1 h2 h3 _
      obtain ⟨A', c1, rfl⟩ := own_shape h2
      refine h A' c1 w1 h2 ?_
      refine (Below.refl base w).grown h3 hbase fun k hk => ?_
      exact (hown.lt k hk).1
theorem wpList_push_all {ops : Array Oper} {rest : List Oper} {o : Oper} {a : Act} {Q : Exit → Act → World → Prop} (hw : Region.wanted o (yielded ops a.tmps) = true) (s x : Operand) (t : TypeId)
    (ho : o.op = .call { callee := .builtin .append, args := #[s, x], argTypes := #[t, t] })
    (base e size bytes : Nat) (z : Value) (ht : P.underlying t = some (.slice e)) (hinfo : (P.info? e).map (fun i => (i.zero, i.size, i.bytes)) = some (some z, size, bytes))
    (hzs : z.cells.size = size) (hsz : 0 < size) (n c : Nat) (A : Option Addr) (xs : List Value) (hs : a.eval s = .slice A n c) (hown : w.ownsRow base e size (.slice A n c) n xs)
    (B m c' : Nat) (A' : Option Addr) (news : List Value) (hx : a.eval x = .slice A' m c') (hnil : A' = none → c' = 0) (hl : news.length = m * size) (hr : Row w B A' news) (h1 : ∀ u ∈ news, u.oneCell' = true)
    (h63 : n + m ≤ maxLen) (hbytes : (n + m) * bytes ≤ 140737488355328) (hbase : base ≤ w.heap.size)
    (h : ∀ A' c' w', w'.ownsRow base e size (.slice A' (n + m) c') (n + m) (xs ++ news) → Below base w w' → wpList P ops Q rest (a.put o.dst (.slice A' (n + m) c')) w') : wpList P ops Q (o :: rest) a w :=
  wpList_wanted hw fun _ hK => wp_push_all s x t ho base e size bytes z ht hinfo hzs hsz n c A xs hs hown B m c' A' news hx hnil hl hr h1 h63 hbytes hbase fun A' c' w' h2 h3 => hK _ _ (h A' c' w' h2 h3)
/-- .. the element just laid in a block of its own. -/
theorem wpList_new {ops : Array Oper} {rest : List Oper} {o : Oper} {a : Act} {Q : Exit → Act → World → Prop} {cs : Array Value} (hw : Region.wanted o (yielded ops a.tmps) = true) (s x : Operand) (t : TypeId)
    (ho : o.op = .call { callee := .builtin .append, args := #[s, x], argTypes := #[t, t] })
    (base e size bytes : Nat) (z : Value) (ht : P.underlying t = some (.slice e)) (hinfo : (P.info? e).map (fun i => (i.zero, i.size, i.bytes)) = some (some z, size, bytes))
    (hzs : z.cells.size = size) (hsz : 0 < size) (n c : Nat) (A : Option Addr) (xs : List Value) (hs : a.eval s = .slice A n c) (hown : w.ownsRow base e size (.slice A n c) n xs)
    (hx : a.eval x = .slice (some ⟨w.heap.size, 0, none⟩) 1 1) (hb : (n + 1) * bytes ≤ 140737488355328 ∧ n + 1 ≤ maxLen ∧ base ≤ w.heap.size) (hl : cs.toList.length = size) (h1 : ∀ u ∈ cs.toList, u.oneCell' = true)
    (h : ∀ A' c' w', w'.ownsRow base e size (.slice A' (n + 1) c') (n + 1) (xs ++ cs.toList) → Below base w w' → wpList P ops Q rest (a.put o.dst (.slice A' (n + 1) c')) w') :
    wpList P ops Q (o :: rest) a (w.alloc (.cells cs e)) := by
  obtain ⟨hbytes, h63, hbase⟩ := hb
  have hbase' : base ≤ (w.alloc (.cells cs e)).heap.size := by simp; omega
  refine wpList_push_all hw s x t ho base e size bytes z ht hinfo hzs hsz n c A xs hs (hown.alloc _) (w.heap.size + 1) 1 1 (some ⟨w.heap.size, 0, none⟩) cs.toList hx (fun h => by cases h) (by omega) (row_new w cs e) h1 h63 hbytes hbase' (fun A' c' w' h2 h3 => h A' c' w' h2 (((Below.refl base w).alloc hbase _).trans h3))
/-- .. as a step of a region that draws its order. -/
theorem step_new {ops : Array Oper} {o : Oper} {a : Act} {K : Act → World → Prop} {Q : Exit → Act → World → Prop} {E : Prop} {cs : Array Value} (hw : Region.wanted o (yielded ops a.tmps) = true) (s x : Operand) (t : TypeId)
    (ho : o.op = .call { callee := .builtin .append, args := #[s, x], argTypes := #[t, t] })
    (base e size bytes : Nat) (z : Value) (ht : P.underlying t = some (.slice e)) (hinfo : (P.info? e).map (fun i => (i.zero, i.size, i.bytes)) = some (some z, size, bytes))
    (hzs : z.cells.size = size) (hsz : 0 < size) (n c : Nat) (A : Option Addr) (xs : List Value) (hs : a.eval s = .slice A n c) (hown : w.ownsRow base e size (.slice A n c) n xs)
    (hx : a.eval x = .slice (some ⟨w.heap.size, 0, none⟩) 1 1) (hb : (n + 1) * bytes ≤ 140737488355328 ∧ n + 1 ≤ maxLen ∧ base ≤ w.heap.size) (hl : cs.toList.length = size) (h1 : ∀ u ∈ cs.toList, u.oneCell' = true)
    (W : World) (hW : ∃ q, W = (w.alloc (.cells cs e)).drewN q)
    (h : ∀ A' c' w', w'.ownsRow base e size (.slice A' (n + 1) c') (n + 1) (xs ++ cs.toList) → Below base w w' → K (a.put o.dst (.slice A' (n + 1) c')) w') :
    if Region.wanted o (yielded ops a.tmps) = true then Oper.wp P o a W K Q else E := by
  obtain ⟨hbytes, h63, hbase⟩ := hb
  obtain ⟨q, rfl⟩ := hW
  have hbase' : base ≤ ((w.alloc (.cells cs e)).drewN q).heap.size := by show base ≤ (w.alloc (.cells cs e)).heap.size; simp; omega
  rw [if_pos hw]
  refine wp_push_all (w := (w.alloc (.cells cs e)).drewN q) s x t ho base e size bytes z ht hinfo hzs hsz n c A xs hs (show ((w.alloc (.cells cs e)).drewN q).ownsRow base e size _ n xs from hown.alloc _) (w.heap.size + 1) 1 1 (some ⟨w.heap.size, 0, none⟩) cs.toList hx (fun h => by cases h) (by omega) (Row.drewN (row_new w cs e) q) h1 h63 hbytes hbase' (fun A' c' w' h2 h3 => h A' c' w' h2 ((Below.drewN' ((Below.refl base w).alloc hbase _) q).trans h3))
theorem add_of_add (a : Addr) (i j : Nat) : (a.add i).add j = a.add (i + j) := by
  unfold Addr.add
  by_cases hi : i = 0 <;> by_cases hj : j = 0 <;> simp [hi, hj, Nat.add_assoc]
theorem Row.take {B : Nat} (h : Row w B A xs) (k : Nat) : Row w B A (xs.take k) := fun hn => by
  obtain ⟨ad, e, hb, hc⟩ := h (by simp at hn; omega)
  exact ⟨ad, e, hb, fun i hi => by rw [hc i (by simp at hi; omega)]; simp⟩
theorem Row.drop {B : Nat} {ad : Addr} (h : Row w B (some ad) xs) (k : Nat) : Row w B (some (ad.add k)) (xs.drop k) := fun hn => by
  obtain ⟨ad', e, hb, hc⟩ := h (by simp at hn; omega)
  injection e with e
  subst e
  refine ⟨_, rfl, by rw [add_block]; exact hb, fun i hi => ?_⟩
  rw [add_of_add, hc (k + i) (by simp at hi; omega)]
  simp
theorem Row.none_nil {B : Nat} (h : Row w B none xs) : xs = [] := by
  rcases Nat.eq_zero_or_pos xs.length with h0 | h0
  · exact List.eq_nil_of_length_eq_zero h0
  · obtain ⟨ad, e, _⟩ := h h0; cases e
theorem Row.dropMap {B : Nat} (h : Row w B A xs) (k : Nat) : Row w B (A.map (fun x => x.add k)) (xs.drop k) := by
  rcases A with _ | ad
  · rw [h.none_nil]; exact fun hn => absurd hn (by simp)
  · exact h.drop k
/-- 'xs[k:]' as the model writes it. -/
theorem Row.cut {B : Nat} (h : Row w B A xs) (k c : Nat) (hc : xs.length ≤ c) : Row w B (if c = k then A else A.map (fun x => x.add k)) (xs.drop k) := by
  by_cases e : c = k
  · rw [List.drop_of_length_le (by omega)]; exact fun hn => absurd hn (by simp)
  · rw [if_neg e]; exact h.dropMap k
theorem cut_nil {k c : Nat} (hnil : A = none → c = 0) : (if c = k then A else A.map (fun x => x.add k)) = none → c - k = 0 := by
  intro h
  by_cases e : c = k
  · omega
  · rw [if_neg e] at h
    have := hnil (by simpa using h)
    omega
end

theorem below_undrew {w w' : World} {n : Nat} (h : Below (w.drewN n).heap.size (w.drewN n) w') : Below w.heap.size w w' := ⟨h.os, h.tape, h.output, h.size, h.block⟩
theorem below_next {a w : World} (h : Below a.heap.size a w) (o : Obj) : Below a.heap.size a (w.alloc o) := h.alloc h.size o

/-- Numbers as cells. -/
def i64s (zs : List Int) : List Value := zs.map (Value.int .i64)
theorem i64s_length (zs : List Int) : (i64s zs).length = zs.length := by simp [i64s]
theorem Row.int {w : World} {B : Nat} {A : Option Addr} {zs : List Int} (h : Row w B A (i64s zs)) {k : Nat} (hk : k < zs.length) :
    ∃ ad, A = some ad ∧ ad.block < B ∧ w.cell? (ad.add k) = some (.int .i64 (zs[k])) := by
  obtain ⟨ad, e, hb, hc⟩ := h.get (k := k) (by rw [i64s_length]; exact hk)
  exact ⟨ad, e, hb, by rw [hc]; simp [i64s]⟩

theorem take_succ' {α : Type} (l : List α) (k : Nat) (h : k < l.length) : l.take (k + 1) = l.take k ++ [l[k]] := List.take_succ_eq_append_getElem h
theorem i64s_append (a b : List Int) : i64s (a ++ b) = i64s a ++ i64s b := by simp [i64s]
theorem i64s_drop (a : List Int) (k : Nat) : (i64s a).drop k = i64s (a.drop k) := by simp [i64s]
theorem i64s_take (a : List Int) (k : Nat) : (i64s a).take k = i64s (a.take k) := by simp [i64s]
theorem i64s_one (a : List Int) : ∀ u ∈ i64s a, u.oneCell' = true := by
  intro u hu; obtain ⟨z, _, rfl⟩ := List.mem_map.1 hu; rfl
theorem sum_take_succ (l : List Int) (k : Nat) (h : k < l.length) : (l.take (k + 1)).sum = (l.take k).sum + l[k] := by
  rw [take_succ' l k h, List.sum_append]; simp
theorem and_mask_i64 (n : Int) (k : Nat) (hk : k ≤ 62) : bits .and .i64 n ((2 ^ k - 1 : Nat) : Int) = n % (2 ^ k : Nat) := by
  have hp : 2 ^ k ≤ 2 ^ 62 := Nat.pow_le_pow_right (by decide) hk
  have hpos : 0 < 2 ^ k := Nat.two_pow_pos k
  show IntKind.i64.wrap ((BitVec.ofInt 64 n &&& BitVec.ofInt 64 ((2 ^ k - 1 : Nat) : Int)).toNat : Int) = _
  rw [BitVec.toNat_and, BitVec.toNat_ofInt, BitVec.toNat_ofInt]
  have e1 : (((2 ^ k - 1 : Nat) : Int) % ((2 ^ 64 : Nat) : Int)).toNat = 2 ^ k - 1 := by
    rw [Int.emod_eq_of_lt (by omega) (by omega)]; omega
  rw [e1, Nat.and_two_pow_sub_one_eq_mod]
  have hlt : (n % ((2 ^ 64 : Nat) : Int)).toNat % 2 ^ k < 2 ^ k := Nat.mod_lt _ hpos
  rw [IntKind.wrap_i64]
  have e2 : (((n % ((2 ^ 64 : Nat) : Int)).toNat % 2 ^ k : Nat) : Int) = n % ((2 ^ k : Nat) : Int) := by
    rw [Int.natCast_emod, Int.toNat_of_nonneg (Int.emod_nonneg _ (by decide))]
    apply Int.emod_emod_of_dvd
    exact Int.natCast_dvd_natCast.2 (Nat.pow_dvd_pow 2 (by omega))
  rw [← e2]
  omega
end Go.Proofs.Yteaenomfighaoaa
/- Arguments opened into what the walks are told of them. No program is named here. -/
namespace Go.Proofs.Yteaenomfighaoaa
open Go.ChangeShapes Go.WideShapes Go.ChangeAt Go.RowKit
set_option linter.unusedVariables false

theorem cell_lt {w : World} {a : Addr} {v : Value} (h : w.cell? a = some v) : a.block < w.heap.size := by
  rcases Nat.lt_or_ge a.block w.heap.size with hlt | hge
  · exact hlt
  · have hn : w.heap[a.block]? = none := Array.getElem?_eq_none hge
    simp [World.cell?, hn] at h

section
variable {H : Type} {enc : TypeId × Value → H} {P : Program} {w : World} {base : Nat} {spare : Nat → Bool} {held : Bool}
theorem row_of_cells {A : Addr} {xs : List Value} (h : ∀ i (hi : i < xs.length), w.cell? (A.add i) = some xs[i]) : Row w w.heap.size (some A) xs := fun hn => by
  have h0 := cell_lt (h 0 hn)
  rw [add_block] at h0
  exact ⟨A, rfl, h0, h⟩
/-- A slice of integers of one kind: its numbers, whatever the address. -/
theorem open_int_row {t e : TypeId} {k : IntKind} {fuel : Nat} {A : Option Addr} {n c : Nat} {x : DataW H × List MemPlace} (ht : P.underlying t = some (.slice e)) (he : P.underlying e = some (.int k)) (hc : P.cellsOf e = 1)
    (h : DataW.trod enc P w base spare held fuel t (Value.slice A n c).cells.toList = some x) :
    ∃ zs : List Int, n = zs.length ∧ Row w w.heap.size A (zs.map (Value.int k)) ∧ (∀ z ∈ zs, (Lit.int k z).wf = true) ∧ zs.length ≤ c ∧ c ≤ maxLen ∧ (A = none → c = 0) := by
  rcases open_ints ht he hc h with ⟨hcs, _⟩ | ⟨a, l, cap, zs, hcs, _, hl, hm, hz, _, hcell, hwz⟩
  · simp [Value.cells] at hcs
    obtain ⟨rfl, rfl, rfl⟩ := hcs
    exact ⟨[], rfl, Row.nil _ _ _, by simp, by simp, by simp [maxLen], fun _ => rfl⟩
  · simp [Value.cells] at hcs
    obtain ⟨rfl, rfl, rfl⟩ := hcs
    have hlen : n ≤ zs.length := by rw [hz]; split <;> omega
    refine ⟨zs.take n, by simp; omega, row_of_cells (fun i hi => ?_), fun z hz => hwz z (List.mem_of_mem_take hz), by simp; omega, hm, fun h => by cases h⟩
    have hi' : i < n ∧ i < zs.length := by simp at hi; omega
    rw [hcell i hi'.2]
    simp [hi'.2]
end
theorem i64_bounds {zs : List Int} (h : ∀ z ∈ zs, (Lit.int .i64 z).wf = true) : ∀ k (hk : k < zs.length), -9223372036854775808 ≤ zs[k] ∧ zs[k] ≤ 9223372036854775807 :=
  fun k hk => bounds_i64 (h _ (List.getElem_mem hk))
end Go.Proofs.Yteaenomfighaoaa
/- Arguments whose cells are all integers (structs of structs and arrays of such), and slices of such, opened. -/
namespace Go.Proofs.Yteaenomfighaoaa
open Go.Joins Go.ChangeShapes Go.WideShapes Go.RowKit Go.ChangeAt Go.Deep
set_option linter.unusedVariables false
set_option linter.unusedSimpArgs false

/-- All cells of a type are integers of kind i64. -/
def flatT (P : Program) : Nat → TypeId → Bool
  | 0, _ => false
  | d + 1, t => match P.underlying t with
    | some (.int .i64) => true
    | some (.struct fs) => (fs.all fun f => flatT P d f.type) && (List.range (P.cellsOf t)).all fun i => fs.any fun f => decide (f.offset ≤ i) && decide (i < f.offset + P.cellsOf f.type)
    | some (.array n e) => flatT P d e && decide (0 < P.cellsOf e) && decide (P.cellsOf t = n * P.cellsOf e)
    | _ => false
def IsInt (v : Value) : Prop := ∃ z : Int, v = .int .i64 z ∧ (Lit.int .i64 z).wf = true
section
variable {H : Type} {enc : TypeId × Value → H} {P : Program} {w : World} {base : Nat} {spare : Nat → Bool} {held : Bool}
theorem trod_flat : ∀ (d : Nat) (t : TypeId) (fuel : Nat) (cs : List Value) (x : DataW H × List MemPlace), flatT P d t = true → DataW.trod enc P w base spare held fuel t cs = some x → ∀ i (hi : i < cs.length), IsInt cs[i] := by
  intro d
  induction d with
  | zero => intro t fuel cs x h; simp [flatT] at h
  | succ d ih =>
    intro t fuel cs x h hx i hi
    unfold flatT at h
    split at h
    · rename_i hu
      obtain ⟨n, rfl, _, hw⟩ := DataW.trod_int hu hx
      have : i = 0 := by simp at hi; exact hi
      subst this
      exact ⟨n, rfl, hw⟩
    · rename_i fs hu
      simp only [Bool.and_eq_true, Array.all_eq_true_iff_forall_mem, List.all_eq_true, List.mem_range, Array.any_eq_true, decide_eq_true_eq] at h
      obtain ⟨h1, h2⟩ := h
      obtain ⟨xs, n, _, _, hl, hlen, hf⟩ := DataW.trod_struct hu hx
      obtain ⟨j, hj, h3, h4⟩ := h2 i (by omega)
      have h5 := hf j fs[j] (by simp [hj])
      rw [show xs[j]? = some (xs[j]'(by omega)) from List.getElem?_eq_getElem (by omega)] at h5
      have hlt : i - fs[j].offset < ((cs.drop fs[j].offset).take (P.cellsOf fs[j].type)).length := by
        rw [List.length_take, List.length_drop]; omega
      have h6 := ih _ _ _ _ (h1 _ (Array.getElem_mem hj)) h5 (i - fs[j].offset) hlt
      rw [List.getElem_take, List.getElem_drop] at h6
      have : fs[j].offset + (i - fs[j].offset) = i := by omega
      simpa [this] using h6
    · rename_i n e hu
      simp only [Bool.and_eq_true, decide_eq_true_eq] at h
      obtain ⟨⟨h1, h2⟩, h3⟩ := h
      obtain ⟨xs, m, _, _, hl, hlen, hf⟩ := DataW.trod_array hu hx
      have hin : i < n * P.cellsOf e := by omega
      have hq : i / P.cellsOf e < n := Nat.div_lt_of_lt_mul (by rw [Nat.mul_comm]; exact hin)
      have h5 := hf _ hq
      rw [show xs[i / P.cellsOf e]? = some (xs[i / P.cellsOf e]'(by omega)) from List.getElem?_eq_getElem (by omega)] at h5
      have hdm : i / P.cellsOf e * P.cellsOf e + i % P.cellsOf e = i := Nat.div_add_mod' i _
      have hm := Nat.mod_lt i h2
      have hle : i / P.cellsOf e * P.cellsOf e + P.cellsOf e ≤ n * P.cellsOf e := by
        have := Nat.mul_le_mul_right (P.cellsOf e) hq
        rw [Nat.succ_mul] at this
        exact this
      have hlt : i % P.cellsOf e < ((cs.drop (i / P.cellsOf e * P.cellsOf e)).take (P.cellsOf e)).length := by
        rw [List.length_take, List.length_drop]; omega
      have h6 := ih _ _ _ _ h1 h5 (i % P.cellsOf e) hlt
      rw [List.getElem_take, List.getElem_drop] at h6
      simpa [hdm] using h6
    · cases h
theorem ints_of (cs : List Value) (h : ∀ i (hi : i < cs.length), IsInt cs[i]) : ∃ zs : List Int, cs = i64s zs ∧ ∀ z ∈ zs, (Lit.int .i64 z).wf = true := by
  induction cs with
  | nil => exact ⟨[], rfl, by simp⟩
  | cons c r ih =>
    obtain ⟨z, e, hz⟩ := h 0 (by simp)
    obtain ⟨zs, e', hzs⟩ := ih fun i hi => by
      have := h (i + 1) (by simpa using hi)
      rw [List.getElem_cons_succ] at this
      exact this
    simp only [List.getElem_cons_zero] at e
    subst e e'
    refine ⟨z :: zs, rfl, fun x hx => ?_⟩
    rcases List.mem_cons.1 hx with rfl | hx
    · exact hz
    · exact hzs x hx
/-- A struct whose cells are all integers. -/
theorem open_flat {r : Reach} {b0 : Nat} {t : TypeId} {fs : Array Field} {v : Value} {x : DataW H} {p : List MemPlace} {C d : Nat} (hs : P.underlying t = some (.struct fs)) (hC : P.cellsOf t = C) (hf : flatT P d t = true)
    (hv : Value.okWide P w r b0 t v) (h : DataW.Trod enc P w base spare held t v x p) : ∃ zs : List Int, v = .agg (i64s zs).toArray ∧ zs.length = C ∧ ∀ z ∈ zs, (Lit.int .i64 z).wf = true := by
  obtain ⟨cs, rfl, hsz⟩ := okWide_struct hs hv
  obtain ⟨fuel, hf'⟩ := h
  have h1 := trod_flat d t fuel _ _ hf hf'
  obtain ⟨zs, e, hz⟩ := ints_of cs.toList (by simpa [Value.cells] using h1)
  have hl := congrArg List.length e
  rw [i64s_length] at hl
  refine ⟨zs, by rw [← e], by rw [← hl]; simp [hsz, hC], hz⟩
/-- A slice of such. -/
theorem open_flat_row {t e : TypeId} {fuel n c C d : Nat} {A : Option Addr} {x : DataW H × List MemPlace} (ht : P.underlying t = some (.slice e)) (hC : P.cellsOf e = C) (hC0 : 0 < C) (hf : flatT P d e = true)
    (h : DataW.trod enc P w base spare held fuel t (Value.slice A n c).cells.toList = some x) :
    ∃ zs : List Int, zs.length = n * C ∧ Row w w.heap.size A (i64s zs) ∧ (∀ z ∈ zs, (Lit.int .i64 z).wf = true) ∧ n ≤ c ∧ c ≤ maxLen ∧ (A = none → c = 0) := by
  rcases open_slice ht h with ⟨hcs, _⟩ | ⟨a, len, cap, m, nn, D, Pl, hcs, _, hl, hm, hmm, _, hi⟩
  · simp [Value.cells] at hcs
    obtain ⟨rfl, rfl, rfl⟩ := hcs
    exact ⟨[], by simp, Row.nil _ _ _, by simp, by simp, by simp [maxLen], fun _ => rfl⟩
  · simp [Value.cells] at hcs
    obtain ⟨rfl, rfl, rfl⟩ := hcs
    have hlen : n ≤ m := by rw [hmm]; split <;> omega
    have each : ∀ j, j < n * C → ∃ z : Int, w.cell? (a.add j) = some (.int .i64 z) ∧ (Lit.int .i64 z).wf = true := fun j hj => by
      have hq : j / C < n := Nat.div_lt_of_lt_mul (by rw [Nat.mul_comm]; exact hj)
      have hr := Nat.mod_lt j hC0
      obtain ⟨cs', hc, htr⟩ := hi (j / C) (by omega)
      rw [hC] at hc
      obtain ⟨_, hcl, hat⟩ := World.cells?_some hc
      obtain ⟨z, e1, hz⟩ := trod_flat d _ _ _ _ hf htr (j % C) (by omega)
      have h1 := hat (j % C) hr
      rw [add_of_add, Nat.div_add_mod' j C, List.getElem?_eq_getElem (by omega), e1] at h1
      exact ⟨z, h1, hz⟩
    have hch : ∃ f : Nat → Int, ∀ j, j < n * C → w.cell? (a.add j) = some (.int .i64 (f j)) ∧ (Lit.int .i64 (f j)).wf = true := by
      refine ⟨fun j => if hj : j < n * C then Classical.choose (each j hj) else 0, fun j hj => ?_⟩
      simp only [hj, dif_pos]
      exact Classical.choose_spec (each j hj)
    obtain ⟨f, hf'⟩ := hch
    refine ⟨(List.range (n * C)).map f, by simp, row_of_cells fun j hj => ?_, fun z hz => ?_, hl, hm, fun h => by cases h⟩
    · have hj' : j < n * C := by simpa [i64s] using hj
      rw [(hf' j hj').1]
      simp [i64s]
    · obtain ⟨j, hj, rfl⟩ := List.mem_map.1 hz
      exact (hf' j (by simpa using hj)).2
end
end Go.Proofs.Yteaenomfighaoaa
/- Rows of records of some cells each, of any kinds. No program is named here. -/
namespace Go.Proofs.Yteaenomfighaoaa
open Go Go.RowKit
set_option linter.unusedVariables false
set_option linter.unusedSimpArgs false

section
variable {α : Type} {f : α → List Value} {k : Nat}
theorem rec_len (hf : ∀ x, (f x).length = k) : ∀ (l : List α), (l.flatMap f).length = l.length * k
  | [] => by simp
  | x :: l => by rw [List.flatMap_cons, List.length_append, hf, rec_len hf l, List.length_cons, Nat.succ_mul]; omega
theorem rec_get (hf : ∀ x, (f x).length = k) : ∀ (l : List α) (i : Nat) (h : i < l.length) (j : Nat), j < k → (l.flatMap f)[i * k + j]? = (f l[i])[j]?
  | x :: l, 0, h, j, hj => by
    rw [List.flatMap_cons, Nat.zero_mul, Nat.zero_add, List.getElem?_append_left (by rw [hf]; exact hj)]; rfl
  | x :: l, i + 1, h, j, hj => by
    have := rec_get hf l i (by simpa using h) j hj
    rw [List.flatMap_cons, List.getElem?_append_right (by rw [hf, Nat.succ_mul]; omega), hf, show (i + 1) * k + j - k = i * k + j by rw [Nat.succ_mul]; omega, this]
    rfl
theorem rec_at (ad : Addr) (m j : Nat) (h : 0 < j) : (⟨(ad.add m).block, (ad.add m).off + j, none⟩ : Addr) = ad.add (m + j) := by
  have : (ad.add m).add j = ad.add (m + j) := by unfold Addr.add; split <;> split <;> simp_all [Nat.add_assoc]
  rw [← this]
  generalize ad.add m = b
  unfold Addr.add
  rw [if_neg (by omega)]
/-- The cells of the i-th record, as a walk reads them. -/
theorem Row.rc {w : World} {B : Nat} {A : Option Addr} {l : List α} (hf : ∀ x, (f x).length = k) (h : Row w B A (l.flatMap f)) (hk : 0 < k) {i : Nat} (hi : i < l.length) :
    ∃ ad, A = some ad ∧ ad.block < B ∧ (∀ v, (f l[i])[0]? = some v → w.cell? (ad.add (i * k)) = some v) ∧
      ∀ j v, 0 < j → (f l[i])[j]? = some v → w.cell? ⟨(ad.add (i * k)).block, (ad.add (i * k)).off + j, none⟩ = some v := by
  have hlen : i * k + k ≤ (l.flatMap f).length := by
    rw [rec_len hf]
    have : (i + 1) * k ≤ l.length * k := Nat.mul_le_mul_right k hi
    rw [Nat.succ_mul] at this
    exact this
  obtain ⟨ad, e, hb, hc⟩ := h (by omega)
  have at_ : ∀ j v, (f l[i])[j]? = some v → w.cell? (ad.add (i * k + j)) = some v := fun j v hv => by
    have hj : j < k := by
      have := (List.getElem?_eq_some_iff.1 hv).1
      rwa [hf] at this
    have hg := rec_get hf l i hi j hj
    rw [hv] at hg
    obtain ⟨q, e⟩ := List.getElem?_eq_some_iff.1 hg
    rw [hc _ q, e]
  refine ⟨ad, e, hb, fun v hv => at_ 0 v hv, fun j v h0 hv => ?_⟩
  rw [rec_at ad _ j h0]
  exact at_ j v hv
theorem rec_one {l : List α} (h : ∀ x, ∀ v ∈ f x, v.oneCell' = true) : ∀ v ∈ l.flatMap f, v.oneCell' = true := fun v hv => by
  obtain ⟨x, _, hx⟩ := List.mem_flatMap.1 hv
  exact h x v hx
theorem rec_drop (hf : ∀ x, (f x).length = k) : ∀ (l : List α) (j : Nat), (l.flatMap f).drop (j * k) = (l.drop j).flatMap f
  | [], j => by simp
  | x :: l, 0 => by simp
  | x :: l, j + 1 => by
    rw [List.flatMap_cons, List.drop_succ_cons, ← rec_drop hf l j, Nat.succ_mul, Nat.add_comm, ← List.drop_drop, List.drop_left' (hf x)]
end
end Go.Proofs.Yteaenomfighaoaa
/- Slices of structs whose cells are integers and bools, opened. -/
namespace Go.Proofs.Yteaenomfighaoaa
open Go.Joins Go.ChangeShapes Go.WideShapes Go.RowKit Go.ChangeAt Go.Deep
set_option linter.unusedVariables false
set_option linter.unusedSimpArgs false

/-- Of what kind a type's cell is: an integer of kind i64 (true), a bool (false), or another one. -/
def cellK (P : Program) : Nat → TypeId → Nat → Option Bool
  | 0, _, _ => none
  | d + 1, t, i => match P.underlying t with
    | some (.int .i64) => some true
    | some .bool => some false
    | some (.struct fs) => match fs.toList.find? (fun f => decide (f.offset ≤ i) && decide (i < f.offset + P.cellsOf f.type)) with
      | some f => cellK P d f.type (i - f.offset)
      | none => none
    | _ => none
def IsKind (k : Bool) (v : Value) : Prop := if k then IsInt v else ∃ b : Bool, v = .bool b
section
variable {H : Type} {enc : TypeId × Value → H} {P : Program} {w : World} {base : Nat} {spare : Nat → Bool} {held : Bool}
theorem trod_mix : ∀ (d : Nat) (t : TypeId) (fuel : Nat) (cs : List Value) (x : DataW H × List MemPlace) (i : Nat) (k : Bool), cellK P d t i = some k → DataW.trod enc P w base spare held fuel t cs = some x → ∀ (hi : i < cs.length), IsKind k cs[i] := by
  intro d
  induction d with
  | zero => intro t fuel cs x i k h; simp [cellK] at h
  | succ d ih =>
    intro t fuel cs x i k h hx hi
    unfold cellK at h
    split at h
    · rename_i hu
      obtain ⟨n, rfl, _, hw⟩ := DataW.trod_int hu hx
      have : i = 0 := by simp at hi; exact hi
      subst this
      injection h with h
      subst h
      exact ⟨n, rfl, hw⟩
    · rename_i hu
      obtain ⟨b, rfl, _⟩ := DataW.trod_bool hu hx
      have : i = 0 := by simp at hi; exact hi
      subst this
      injection h with h
      subst h
      exact ⟨b, rfl⟩
    · rename_i fs hu
      split at h
      · rename_i f hf
        have hm := List.mem_of_find?_eq_some hf
        have hp := List.find?_some hf
        simp only [Bool.and_eq_true, decide_eq_true_eq] at hp
        obtain ⟨h3, h4⟩ := hp
        obtain ⟨xs, n, _, _, hl, hlen, hff⟩ := DataW.trod_struct hu hx
        obtain ⟨j, hj, e⟩ := List.getElem_of_mem hm
        have hj' : j < fs.size := by simpa using hj
        have h5 := hff j f (by rw [Array.getElem?_eq_getElem hj']; simpa using e)
        rw [show xs[j]? = some (xs[j]'(by omega)) from List.getElem?_eq_getElem (by omega)] at h5
        have hlt : i - f.offset < ((cs.drop f.offset).take (P.cellsOf f.type)).length := by
          rw [List.length_take, List.length_drop]; omega
        have h6 := ih _ _ _ _ (i - f.offset) k h h5 hlt
        rw [List.getElem_take, List.getElem_drop] at h6
        have : f.offset + (i - f.offset) = i := by omega
        simpa [this] using h6
      · cases h
    · cases h
/-- A slice of structs, each of which a record's cells tell. -/
theorem open_mix_row {α : Type} [Inhabited α] {f : α → List Value} {C d : Nat} (ks : List Bool) (hf : ∀ x, (f x).length = C) {t e : TypeId} {fuel n c : Nat} {A : Option Addr} {x : DataW H × List MemPlace} (ht : P.underlying t = some (.slice e)) (hC : P.cellsOf e = C) (hC0 : 0 < C)
    (hk : (List.range C).map (cellK P d e) = ks.map some) (hun : ∀ cs : List Value, cs.length = C → (∀ (i : Nat) (h : i < cs.length) (h' : i < ks.length), IsKind ks[i] cs[i]) → ∃ x : α, cs = f x)
    (h : DataW.trod enc P w base spare held fuel t (Value.slice A n c).cells.toList = some x) :
    ∃ l : List α, n = l.length ∧ Row w w.heap.size A (l.flatMap f) ∧ n ≤ c ∧ c ≤ maxLen ∧ (A = none → c = 0) := by
  rcases open_slice ht h with ⟨hcs, _⟩ | ⟨a, len, cap, m, nn, D, Pl, hcs, _, hl, hm, hmm, _, hi⟩
  · simp [Value.cells] at hcs
    obtain ⟨rfl, rfl, rfl⟩ := hcs
    exact ⟨[], rfl, Row.nil _ _ _, by simp, by simp [maxLen], fun _ => rfl⟩
  · simp [Value.cells] at hcs
    obtain ⟨rfl, rfl, rfl⟩ := hcs
    have hlen : n ≤ m := by rw [hmm]; split <;> omega
    have hkl : ks.length = C := by
      have := congrArg List.length hk
      rw [List.length_map, List.length_map, List.length_range] at this
      exact this.symm
    have each : ∀ k, k < n → ∃ r : α, ∀ j (hj : j < C), w.cell? (a.add (k * C + j)) = (f r)[j]? := fun k hk' => by
      obtain ⟨cs', hc, htr⟩ := hi k (by omega)
      rw [hC] at hc
      obtain ⟨_, hcl, hat⟩ := World.cells?_some hc
      obtain ⟨r, rfl⟩ := hun cs' hcl fun i h1 h2 => by
        have e1 : cellK P d e i = some ks[i] := by
          have := congrArg (fun l : List (Option Bool) => l[i]?) hk
          simpa [h2, show i < C by omega] using this
        exact trod_mix d _ _ _ _ i _ e1 htr h1
      refine ⟨r, fun j hj => ?_⟩
      have := hat j hj
      rw [add_of_add] at this
      exact this
    let g : Nat → α := fun k => if hk : k < n then Classical.choose (each k hk) else default
    have hg : ∀ k, k < n → ∀ j (hj : j < C), w.cell? (a.add (k * C + j)) = (f (g k))[j]? := fun k hk => by
      have := Classical.choose_spec (each k hk)
      simp only [g, hk, dif_pos]
      exact this
    refine ⟨(List.range n).map g, by simp, row_of_cells fun j hj => ?_, hl, hm, fun h => by cases h⟩
    have hj' : j < n * C := by rw [rec_len hf] at hj; simpa using hj
    have hq : j / C < n := Nat.div_lt_of_lt_mul (by rw [Nat.mul_comm]; exact hj')
    have hr := Nat.mod_lt j hC0
    have e1 : j / C * C + j % C = j := Nat.div_add_mod' j C
    have e2 := hg (j / C) hq (j % C) hr
    rw [e1] at e2
    have e3 := rec_get hf ((List.range n).map g) (j / C) (by simpa using hq) (j % C) hr
    rw [e1] at e3
    simp only [List.getElem_map, List.getElem_range] at e3
    rw [e2, ← e3]
    exact List.getElem?_eq_getElem hj
end
end Go.Proofs.Yteaenomfighaoaa
/- Ratios as numbers: out of Ratio. -/
namespace Go.Proofs.Yteaenomfighaoaa
open Go Go.RowKit
set_option linter.unusedVariables false
set_option linter.unusedSimpArgs false
set_option maxRecDepth 20000
set_option maxHeartbeats 4000000

def ratZ (n p q : Int) : Int := if (-1152921504606846976 ≤ n ∧ n ≤ 1152921504606846976) ∧ 1 ≤ q ∧ q ≤ 1152921504606846976 ∧ 0 ≤ p ∧ p ≤ q then n * p / q else 0

theorem neg_div (X q A R : Int) (hq : 0 < q) (h : q * A + R = X) (h0 : 0 ≤ R) (h1 : R < q) : (-X) / q = if 0 < R then -(A + 1) else -A := by
  subst h
  by_cases hr : 0 < R
  · rw [if_pos hr]
    have e : -(q * A + R) = (q - R) + q * (-(A + 1)) := by rw [Int.mul_neg, Int.mul_add]; omega
    rw [e, Int.add_mul_ediv_left _ _ (by omega), Int.ediv_eq_zero_of_lt (by omega) (by omega)]
    omega
  · rw [if_neg hr]
    have e : -(q * A + R) = 0 + q * (-A) := by rw [Int.mul_neg]; omega
    rw [e, Int.add_mul_ediv_left _ _ (by omega)]
    simp
theorem rat_facts (a p q : Int) (ha0 : 0 ≤ a) (ha : a ≤ 1152921504606846976) (h3 : 1 ≤ q) (h4 : q ≤ 1152921504606846976) (h5 : 0 ≤ p) (h6 : p ≤ q) :
    0 ≤ a * p / 18446744073709551616 ∧ a * p / 18446744073709551616 < q ∧ 0 ≤ a * p % 18446744073709551616 ∧ a * p % 18446744073709551616 < 18446744073709551616 ∧
    0 ≤ a * p / q ∧ a * p / q ≤ a ∧ 0 ≤ a * p % q ∧ a * p % q < q ∧ q * (a * p / q) + a * p % q = a * p ∧ a * p / 18446744073709551616 * 18446744073709551616 + a * p % 18446744073709551616 = a * p := by
  have hX0 : 0 ≤ a * p := Int.mul_nonneg ha0 h5
  have hX1 : a * p ≤ a * q := Int.mul_le_mul_of_nonneg_left h6 ha0
  have hX2 : a * q ≤ 1152921504606846976 * q := Int.mul_le_mul_of_nonneg_right ha (by omega)
  have hd := Int.mul_ediv_add_emod (a * p) q
  have hr0 := Int.emod_nonneg (a * p) (show q ≠ 0 by omega)
  have hr1 := Int.emod_lt_of_pos (a * p) (show 0 < q by omega)
  have hA0 : 0 ≤ a * p / q := Int.ediv_nonneg hX0 (by omega)
  have hA1 : a * p / q ≤ a := by
    have : a * p / q < a + 1 := by
      rw [Int.ediv_lt_iff_lt_mul (by omega), Int.add_mul]; omega
    omega
  refine ⟨by omega, by omega, by omega, by omega, hA0, hA1, hr0, hr1, hd, by omega⟩

end Go.Proofs.Yteaenomfighaoaa
/- Shares as numbers: out of Share. -/
namespace Go.Proofs.Yteaenomfighaoaa
open Go Go.RowKit
set_option linter.unusedVariables false
set_option linter.unusedSimpArgs false
set_option maxRecDepth 20000
set_option maxHeartbeats 4000000

def wOk (z : Int) : Bool := decide (0 ≤ z) && decide (z ≤ 1125899906842624)
def sumOk (zs : List Int) : Bool := decide (zs.length ≤ 1000) && zs.all wOk
theorem wsum_bd (zs : List Int) (h : zs.all wOk = true) : 0 ≤ zs.sum ∧ zs.sum ≤ zs.length * 1125899906842624 := by
  induction zs with
  | nil => simp
  | cons z zs ih =>
    simp only [List.all_cons, Bool.and_eq_true, wOk, decide_eq_true_eq] at h
    have := ih (by simpa [wOk] using h.2)
    simp only [List.sum_cons, List.length_cons]
    omega
theorem all_take (zs : List Int) (k : Nat) (h : zs.all wOk = true) : (zs.take k).all wOk = true := by
  rw [List.all_eq_true] at h ⊢
  intro x hx
  exact h x (List.mem_of_mem_take hx)
theorem all_get (zs : List Int) (h : zs.all wOk = true) (k : Nat) (hk : k < zs.length) : 0 ≤ zs[k] ∧ zs[k] ≤ 1125899906842624 := by
  rw [List.all_eq_true] at h
  have := h _ (List.getElem_mem hk)
  simpa [wOk] using this
theorem not_all (zs : List Int) (h : zs.all wOk = false) : ∃ k, ∃ hk : k < zs.length, (zs.take k).all wOk = true ∧ wOk zs[k] = false := by
  induction zs with
  | nil => simp at h
  | cons z zs ih =>
    by_cases hz : wOk z = true
    · rw [List.all_cons, hz, Bool.true_and] at h
      obtain ⟨k, hk, h1, h2⟩ := ih h
      exact ⟨k + 1, by simp; omega, by simp [hz] at h1 ⊢; exact h1, by simpa using h2⟩
    · exact ⟨0, by simp, by simp, by simpa using hz⟩

def shareAt (n : Int) (zs : List Int) (k : Nat) : Int := ratZ n (zs.take (k + 1)).sum zs.sum - ratZ n (zs.take k).sum zs.sum
def shareOk (n : Int) (zs : List Int) : Bool := sumOk zs && decide (-1152921504606846976 ≤ n ∧ n ≤ 1152921504606846976)
def shareZ (n : Int) (zs : List Int) : List Int := if shareOk n zs then (List.range zs.length).map (shareAt n zs) else []
theorem ratZ_zero (n q : Int) : ratZ n 0 q = 0 := by unfold ratZ; split <;> simp
theorem ratZ_bd (n p q : Int) : -1152921504606846976 ≤ ratZ n p q ∧ ratZ n p q ≤ 1152921504606846976 := by
  unfold ratZ
  split
  · rename_i h
    obtain ⟨⟨h1, h2⟩, h3, h4, h5, h6⟩ := h
    by_cases hn : 0 ≤ n
    · obtain ⟨_, _, _, _, f5, f6, _⟩ := rat_facts n p q hn h2 h3 h4 h5 h6
      omega
    · obtain ⟨_, _, _, _, f5, f6, f7, f8, f9, _⟩ := rat_facts (-n) p q (by omega) (by omega) h3 h4 h5 h6
      have e := neg_div (-n * p) q (-n * p / q) (-n * p % q) (by omega) f9 f7 f8
      rw [show -(-n * p) = n * p by rw [Int.neg_mul, Int.neg_neg]] at e
      rw [e]
      have hlt : -n * p / q < -n ∨ -n * p / q = -n := by omega
      split
      · rcases hlt with h | h
        · omega
        · exfalso
          rw [h] at f9
          have : q * -n ≤ -n * p := by omega
          have h2 : -n * p ≤ -n * q := Int.mul_le_mul_of_nonneg_left h6 (by omega)
          rw [Int.mul_comm q] at f9
          omega
      · omega
  · omega

theorem shareZ_yes (n : Int) (zs : List Int) (h : shareOk n zs = true) : shareZ n zs = (List.range zs.length).map (shareAt n zs) := by simp [shareZ, h]
end Go.Proofs.Yteaenomfighaoaa
/- What the parts of a sharing are like: plain arithmetic. -/
namespace Go.Proofs.Yteaenomfighaoaa
open Go.RowKit
set_option linter.unusedVariables false

theorem take_sum_le (ws : List Int) (h : ws.all wOk = true) (k : Nat) : (ws.take k).sum ≤ ws.sum := by
  have e : ws.sum = (ws.take k).sum + (ws.drop k).sum := by rw [← List.sum_append, List.take_append_drop]
  have hd : (ws.drop k).all wOk = true := by
    rw [List.all_eq_true] at h ⊢
    exact fun x hx => h x (List.mem_of_mem_drop hx)
  have := wsum_bd _ hd
  omega
theorem sum_le_60 (ws : List Int) (h : sumOk ws = true) : 0 ≤ ws.sum ∧ ws.sum ≤ 1125899906842624000 := by
  simp only [sumOk, Bool.and_eq_true, decide_eq_true_eq] at h
  have := wsum_bd ws h.2
  omega
theorem ratZ_eq (n S W : Int) (h1 : -1152921504606846976 ≤ n) (h2 : n ≤ 1152921504606846976) (hW : 1 ≤ W) (hW' : W ≤ 1152921504606846976) (h0 : 0 ≤ S) (hS : S ≤ W) : ratZ n S W = n * S / W := by
  unfold ratZ; rw [if_pos ⟨⟨h1, h2⟩, hW, hW', h0, hS⟩]
theorem ratZ_W0 (n S W : Int) (hW : W < 1) : ratZ n S W = 0 := by
  unfold ratZ; rw [if_neg]; omega
/-- A part is the floor of its own share, or one more. -/
theorem part_near (x y W : Int) (hW : 0 < W) : y / W ≤ (x + y) / W - x / W ∧ (x + y) / W - x / W ≤ y / W + 1 := by
  have h1 := Int.mul_ediv_add_emod x W
  have h2 := Int.mul_ediv_add_emod y W
  have b1 := Int.emod_nonneg x (Int.ne_of_gt hW)
  have b2 := Int.emod_lt_of_pos x hW
  have b3 := Int.emod_nonneg y (Int.ne_of_gt hW)
  have b4 := Int.emod_lt_of_pos y hW
  have e : (x + y) / W = (x % W + y % W) / W + (x / W + y / W) := by
    have : x + y = (x % W + y % W) + W * (x / W + y / W) := by rw [Int.mul_add]; omega
    rw [this, Int.add_mul_ediv_left _ _ (by omega)]
  have h3 : 0 ≤ (x % W + y % W) / W := Int.ediv_nonneg (by omega) (by omega)
  have h4 : (x % W + y % W) / W < 2 := by
    rw [Int.ediv_lt_iff_lt_mul hW]; omega
  omega

theorem share_part0 (n : Int) (ws : List Int) (k : Nat) (hW : ws.sum < 1) : shareAt n ws k = 0 := by
  unfold shareAt; rw [ratZ_W0 _ _ _ hW, ratZ_W0 _ _ _ hW]; rfl
theorem share_run (n : Int) (ws : List Int) (k : Nat) (hk : k < ws.length) : ratZ n (ws.take (k + 1)).sum ws.sum = ratZ n (ws.take k).sum ws.sum + shareAt n ws k := by unfold shareAt; omega
theorem share_bd (n : Int) (ws : List Int) (k : Nat) : -2305843009213693952 ≤ shareAt n ws k ∧ shareAt n ws k ≤ 2305843009213693952 := by
  have h1 := ratZ_bd n (ws.take (k + 1)).sum ws.sum
  have h2 := ratZ_bd n (ws.take k).sum ws.sum
  unfold shareAt; omega
structure ShareFacts (n : Int) (ws : List Int) : Prop where
  ok : sumOk ws = true
  n1 : -1152921504606846976 ≤ n
  n2 : n ≤ 1152921504606846976
namespace ShareFacts
variable {n : Int} {ws : List Int} (F : ShareFacts n ws)
include F
theorem all : ws.all wOk = true := by have := F.ok; simp only [sumOk, Bool.and_eq_true] at this; exact this.2
theorem shareOk' : shareOk n ws = true := by simp [shareOk, F.ok, F.n1, F.n2]
theorem pre (k : Nat) : 0 ≤ (ws.take k).sum ∧ (ws.take k).sum ≤ ws.sum := ⟨(wsum_bd _ (all_take ws k F.all)).1, take_sum_le ws F.all k⟩
theorem whole : 0 ≤ ws.sum ∧ ws.sum ≤ 1125899906842624000 := sum_le_60 ws F.ok
theorem rat (k : Nat) (hW : 1 ≤ ws.sum) : ratZ n (ws.take k).sum ws.sum = n * (ws.take k).sum / ws.sum :=
  ratZ_eq _ _ _ F.n1 F.n2 hW (by have := F.whole; omega) (F.pre k).1 (F.pre k).2
theorem part (k : Nat) (hk : k < ws.length) (hW : 1 ≤ ws.sum) : shareAt n ws k = (n * (ws.take k).sum + n * ws[k]) / ws.sum - n * (ws.take k).sum / ws.sum := by
  unfold shareAt
  rw [F.rat k hW, F.rat (k + 1) hW, sum_take_succ ws k hk, Int.mul_add]
theorem pos (k : Nat) (hk : k < ws.length) (hn : 0 ≤ n) : 0 ≤ shareAt n ws k := by
  by_cases hW : 1 ≤ ws.sum
  · have h := part_near (n * (ws.take k).sum) (n * ws[k]) ws.sum (by omega)
    rw [F.part k hk hW]
    have := Int.ediv_nonneg (Int.mul_nonneg hn (all_get ws F.all k hk).1) (show 0 ≤ ws.sum by omega)
    omega
  · rw [share_part0 n ws k (by omega)]; exact Int.le_refl _
theorem neg (k : Nat) (hk : k < ws.length) (hn : n ≤ 0) : shareAt n ws k ≤ 0 := by
  by_cases hW : 1 ≤ ws.sum
  · rw [F.part k hk hW]
    have hy : n * ws[k] ≤ 0 := Int.mul_nonpos_of_nonpos_of_nonneg hn (all_get ws F.all k hk).1
    have : (n * (ws.take k).sum + n * ws[k]) / ws.sum ≤ n * (ws.take k).sum / ws.sum := Int.ediv_le_ediv (by omega) (by omega)
    omega
  · rw [share_part0 n ws k (by omega)]; exact Int.le_refl _
theorem none_ (k : Nat) (hk : k < ws.length) (h0 : ws[k] = 0) : shareAt n ws k = 0 := by
  by_cases hW : 1 ≤ ws.sum
  · rw [F.part k hk hW, h0, Int.mul_zero, Int.add_zero, Int.sub_self]
  · exact share_part0 n ws k (by omega)
theorem near (k i : Nat) (hk : k < ws.length) (hi : i < ws.length) (h : ws[k] = ws[i]) : -1 ≤ shareAt n ws k - shareAt n ws i ∧ shareAt n ws k - shareAt n ws i ≤ 1 := by
  by_cases hW : 1 ≤ ws.sum
  · have h1 := part_near (n * (ws.take k).sum) (n * ws[k]) ws.sum (by omega)
    have h2 := part_near (n * (ws.take i).sum) (n * ws[i]) ws.sum (by omega)
    rw [F.part k hk hW, F.part i hi hW]
    rw [h] at h1 ⊢
    omega
  · rw [share_part0 n ws k (by omega), share_part0 n ws i (by omega)]; decide
theorem full : ratZ n (ws.take ws.length).sum ws.sum = if 0 < ws.sum then n else 0 := by
  rw [List.take_length]
  split
  · rename_i h
    have h2 := F.whole
    rw [ratZ_eq _ _ _ F.n1 F.n2 (by omega) (by omega) (by omega) (Int.le_refl _), Int.mul_ediv_cancel _ (by omega)]
  · exact ratZ_W0 _ _ _ (by omega)
theorem length : (shareZ n ws).length = ws.length := by rw [shareZ_yes n ws F.shareOk']; simp
theorem get (k : Nat) (hk : k < (shareZ n ws).length) : (shareZ n ws)[k] = shareAt n ws k := by
  have e := shareZ_yes n ws F.shareOk'
  simp [e]
end ShareFacts
end Go.Proofs.Yteaenomfighaoaa
/- Free space among items, as numbers: Resolve's answer, what each round keeps. No program is named here. -/
namespace Go.Proofs.Yteaenomfighaoaa
open Go.RowKit
set_option linter.unusedVariables false
set_option linter.unusedSimpArgs false

structure Fx where
  base : Int
  mn : Int
  mx : Int
  grow : Int
  shrink : Int
  around : Int
/-- At most mx (where that is 0 or more), then at least mn, and at least 0. -/
def clF (x : Fx) (n : Int) : Int := max (max 0 x.mn) (if 0 ≤ x.mx then min n x.mx else n)
def hypF (x : Fx) : Int := clF x x.base
def facF (g : Bool) (x : Fx) : Int := if g then x.grow else x.shrink
def wtF (g : Bool) (x : Fx) : Int := if g then x.grow else x.base * x.shrink
def botF (x : Fx) : Int := max 0 x.mn
/-- The greatest that it can be (where mx is 0 or more). -/
def topF (x : Fx) : Int := max (max 0 x.mn) x.mx
structure It where
  x : Fx
  s : Int
  fz : Bool
def startI (g : Bool) (x : Fx) : It := ⟨x, hypF x, if g then decide (x.grow = 0) || decide (hypF x < x.base) else decide (x.shrink = 0) || decide (x.base < hypF x)⟩
/-- What of the room an item has taken. -/
def tkI (i : It) : Int := i.x.around + if i.fz then i.s else i.x.base
def freeI (inner : Int) (l : List It) : Int := inner - (l.map tkI).sum
def leftI (g : Bool) (inner : Int) (l : List It) : Int := if g then max (freeI inner l) 0 else min (freeI inner l) 0
def wtsI (g : Bool) (l : List It) : List Int := (l.filter (fun i => !i.fz)).map (fun i => wtF g i.x)
/-- Each of the others with its part: the item as it comes, and what it wanted. -/
def putI : List It → List Int → List (It × Int)
  | [], _ => []
  | i :: r, ps => if i.fz then (i, i.s) :: putI r ps else (⟨i.x, clF i.x (i.x.base + ps.headD 0), false⟩, i.x.base + ps.headD 0) :: putI r ps.tail
def overI (q : List (It × Int)) : Int := (q.map (fun p => p.1.s - p.2)).sum
def stopI (over : Int) (p : It × Int) : It := ⟨p.1.x, p.1.s, p.1.fz || decide (over = 0) || (decide (0 < over) && decide (0 < p.1.s - p.2)) || (decide (over < 0) && decide (p.1.s - p.2 < 0))⟩
def roundI (g : Bool) (inner : Int) (l : List It) : List It :=
  let q := putI l (shareZ (leftI g inner l) (wtsI g l))
  q.map (stopI (overI q))
def openI (l : List It) : Nat := (l.filter (fun i => !i.fz)).length
def runI (g : Bool) (inner : Int) : Nat → List It → List It
  | 0, l => l
  | k + 1, l => if openI l = 0 then l else runI g inner k (roundI g inner l)
def growsF (inner : Int) (l : List Fx) : Bool := decide ((l.map (fun x => hypF x + x.around)).sum < inner)
def sizesF (inner : Int) (l : List Fx) : List Int := (runI (growsF inner l) inner l.length (l.map (startI (growsF inner l)))).map It.s
structure FxOk (x : Fx) : Prop where
  b0 : 0 ≤ x.base
  b1 : x.base ≤ 8796093022208
  m0 : 0 ≤ x.mn
  m1 : x.mn ≤ 8796093022208
  x0 : -1 ≤ x.mx
  x1 : x.mx ≤ 8796093022208
  g0 : 0 ≤ x.grow
  g1 : x.grow ≤ 100
  s0 : 0 ≤ x.shrink
  s1 : x.shrink ≤ 100
  a0 : -8796093022208 ≤ x.around
  a1 : x.around ≤ 8796093022208

/-! ### Clamping -/
theorem clF_mono (x : Fx) {a b : Int} (h : a ≤ b) : clF x a ≤ clF x b := by unfold clF; split <;> omega
theorem clF_bot (x : Fx) (n : Int) : botF x ≤ clF x n := by unfold clF botF; omega
theorem clF_top (x : Fx) (n : Int) (h : 0 ≤ x.mx) : clF x n ≤ topF x := by unfold clF topF; rw [if_pos h]; omega
/-- What is more than was wanted is the least. -/
theorem clF_more (x : Fx) (n : Int) (h : n < clF x n) : clF x n = botF x := by unfold clF botF at *; split at h <;> rename_i h1 <;> simp only [h1, if_true, if_false] <;> omega
/-- What is less than was wanted is the most. -/
theorem clF_less (x : Fx) (n : Int) (h : clF x n < n) : 0 ≤ x.mx ∧ clF x n = topF x := by
  unfold clF topF at *
  split at h
  · rename_i h1; exact ⟨h1, by rw [if_pos h1]; omega⟩
  · omega

/-! ### A round keeps the items, and freezes what it freezes -/
theorem putI_len (l : List It) : ∀ ps, (putI l ps).length = l.length := by
  induction l with
  | nil => intro ps; rfl
  | cons i r ih => intro ps; unfold putI; split <;> simp [ih]
theorem roundI_len (g : Bool) (inner : Int) (l : List It) : (roundI g inner l).length = l.length := by unfold roundI; simp [putI_len]
theorem putI_x (l : List It) : ∀ ps, (putI l ps).map (fun p => p.1.x) = l.map It.x := by
  induction l with
  | nil => intro ps; rfl
  | cons i r ih => intro ps; unfold putI; split <;> simp [ih]
theorem roundI_x (g : Bool) (inner : Int) (l : List It) : (roundI g inner l).map It.x = l.map It.x := by
  unfold roundI
  rw [List.map_map]
  exact putI_x l _
theorem runI_x (g : Bool) (inner : Int) : ∀ (k : Nat) (l : List It), (runI g inner k l).map It.x = l.map It.x
  | 0, l => rfl
  | k + 1, l => by
    unfold runI
    split
    · rfl
    · rw [runI_x g inner k, roundI_x]
theorem runI_len (g : Bool) (inner : Int) (k : Nat) (l : List It) : (runI g inner k l).length = l.length := by
  have := congrArg List.length (runI_x g inner k l)
  simpa using this
theorem sizesF_len (inner : Int) (l : List Fx) : (sizesF inner l).length = l.length := by unfold sizesF; rw [List.length_map, runI_len, List.length_map]

/-- What a part of a round is like: frozen as it was, or its base and its part, clamped. -/
theorem putI_cases (l : List It) : ∀ ps, ∀ p ∈ putI l ps, (p.1.fz = true ∧ p.1 ∈ l ∧ p.2 = p.1.s) ∨ (p.1.fz = false ∧ p.1.s = clF p.1.x p.2 ∧ ∃ i ∈ l, i.fz = false ∧ i.x = p.1.x) := by
  induction l with
  | nil => intro ps p hp; simp [putI] at hp
  | cons i r ih =>
    intro ps p hp
    unfold putI at hp
    by_cases hf : i.fz = true
    · rw [if_pos hf, List.mem_cons] at hp
      rcases hp with rfl | hp
      · exact .inl ⟨hf, by simp, rfl⟩
      · rcases ih _ _ hp with ⟨a, b, c⟩ | ⟨a, b, j, hj, c⟩
        · exact .inl ⟨a, by simp [b], c⟩
        · exact .inr ⟨a, b, j, by simp [hj], c⟩
    · rw [if_neg hf, List.mem_cons] at hp
      rcases hp with rfl | hp
      · exact .inr ⟨rfl, rfl, i, by simp, by simpa using hf, rfl⟩
      · rcases ih _ _ hp with ⟨a, b, c⟩ | ⟨a, b, j, hj, c⟩
        · exact .inl ⟨a, by simp [b], c⟩
        · exact .inr ⟨a, b, j, by simp [hj], c⟩
/-- Some of the others are frozen in each round. -/
theorem sum_pos_ex (q : List (It × Int)) (h : 0 < overI q) : ∃ p ∈ q, 0 < p.1.s - p.2 := by
  induction q with
  | nil => simp [overI] at h
  | cons p r ih =>
    unfold overI at h ih
    simp only [List.map_cons, List.sum_cons] at h
    by_cases c : 0 < p.1.s - p.2
    · exact ⟨p, by simp, c⟩
    · obtain ⟨p', h1, h2⟩ := ih (by omega)
      exact ⟨p', by simp [h1], h2⟩
theorem sum_neg_ex (q : List (It × Int)) (h : overI q < 0) : ∃ p ∈ q, p.1.s - p.2 < 0 := by
  induction q with
  | nil => simp [overI] at h
  | cons p r ih =>
    unfold overI at h ih
    simp only [List.map_cons, List.sum_cons] at h
    by_cases c : p.1.s - p.2 < 0
    · exact ⟨p, by simp, c⟩
    · obtain ⟨p', h1, h2⟩ := ih (by omega)
      exact ⟨p', by simp [h1], h2⟩
end Go.Proofs.Yteaenomfighaoaa
/- Free space among items: what every round keeps. No program is named here. -/
namespace Go.Proofs.Yteaenomfighaoaa
open Go.RowKit
set_option linter.unusedVariables false
set_option linter.unusedSimpArgs false

/-- What depends on an item as it is, and on its size only where it is frozen. -/
def Plain (F : It → Int) : Prop := ∀ x s s', F ⟨x, s, false⟩ = F ⟨x, s', false⟩
theorem putI_plain {F : It → Int} (hF : Plain F) (l : List It) : ∀ ps, (putI l ps).map (fun p => F p.1) = l.map F := by
  induction l with
  | nil => intro ps; rfl
  | cons i r ih =>
    intro ps
    unfold putI
    by_cases hf : i.fz = true
    · rw [if_pos hf]; simp only [List.map_cons]; rw [ih]
    · rw [if_neg hf]; simp only [List.map_cons]; rw [ih]
      obtain ⟨x, s, f⟩ := i
      cases f
      · rw [hF x _ s]
      · simp at hf
theorem sum_le_by {α : Type} {f g : α → Int} : ∀ (l : List α), (∀ x ∈ l, f x ≤ g x) → (l.map f).sum ≤ (l.map g).sum
  | [], _ => Int.le_refl _
  | x :: r, h => by
    have := sum_le_by r (fun y hy => h y (by simp [hy]))
    have := h x (by simp)
    simp only [List.map_cons, List.sum_cons]; omega
theorem sum_eq_by {α : Type} {f g : α → Int} (l : List α) (h : ∀ x ∈ l, f x = g x) : (l.map f).sum = (l.map g).sum := by
  rw [List.map_congr_left h]
theorem sum_add_by {α : Type} (f g : α → Int) : ∀ (l : List α), (l.map (fun x => f x + g x)).sum = (l.map f).sum + (l.map g).sum
  | [] => rfl
  | x :: r => by
    have := sum_add_by f g r
    simp only [List.map_cons, List.sum_cons]; omega
/-- All that was wanted: what is taken, and the parts. -/
theorem put_wants (l : List It) : ∀ ps, ps.length = openI l → ((putI l ps).map (fun p => p.1.x.around + p.2)).sum = (l.map tkI).sum + ps.sum := by
  induction l with
  | nil => intro ps h; have := List.eq_nil_of_length_eq_zero h; subst this; rfl
  | cons i r ih =>
    intro ps h
    unfold putI
    by_cases hf : i.fz = true
    · rw [if_pos hf]
      have h' : ps.length = openI r := by rw [h]; simp [openI, hf]
      simp only [List.map_cons, List.sum_cons, ih ps h']
      unfold tkI
      rw [if_pos hf]
      omega
    · rw [if_neg hf]
      have h' : ps.length = openI r + 1 := by rw [h]; simp [openI, hf]
      cases ps with
      | nil => simp at h'
      | cons z zs =>
        simp only [List.map_cons, List.sum_cons, List.headD_cons, List.tail_cons]
        rw [ih zs (by simpa using h')]
        unfold tkI
        rw [if_neg hf]
        omega
theorem sizes_over (q : List (It × Int)) : (q.map (fun p => p.1.x.around + p.1.s)).sum = (q.map (fun p => p.1.x.around + p.2)).sum + overI q := by
  unfold overI
  rw [← sum_add_by]
  exact sum_eq_by q fun p _ => by omega
/-- A part that a round gives. -/
theorem putI_part (l : List It) : ∀ ps, ∀ p ∈ putI l ps, p.1.fz = false → ∃ z, (z ∈ ps ∨ z = 0) ∧ p.2 = p.1.x.base + z := by
  induction l with
  | nil => intro ps p hp; simp [putI] at hp
  | cons i r ih =>
    intro ps p hp hf
    unfold putI at hp
    by_cases hi : i.fz = true
    · rw [if_pos hi, List.mem_cons] at hp
      rcases hp with rfl | hp
      · simp only at hf; rw [hi] at hf; cases hf
      · exact ih _ _ hp hf
    · rw [if_neg hi, List.mem_cons] at hp
      rcases hp with rfl | hp
      · refine ⟨ps.headD 0, ?_, rfl⟩
        cases ps with
        | nil => exact .inr rfl
        | cons z zs => exact .inl (by simp)
      · obtain ⟨z, hz, e⟩ := ih _ _ hp hf
        refine ⟨z, ?_, e⟩
        rcases hz with hz | hz
        · exact .inl (List.mem_of_mem_tail hz)
        · exact .inr hz
theorem share_total (n : Int) (ws : List Int) : ∀ k, k ≤ ws.length → ((List.range k).map (shareAt n ws)).sum = ratZ n (ws.take k).sum ws.sum
  | 0, _ => by simp [ratZ_zero]
  | k + 1, h => by
    rw [List.range_succ, List.map_append, List.sum_append, share_total n ws k (by omega), share_run n ws k (by omega)]
    simp
theorem share_sum {n : Int} {ws : List Int} (F : ShareFacts n ws) : (shareZ n ws).sum = if 0 < ws.sum then n else 0 := by
  rw [shareZ_yes n ws F.shareOk', share_total n ws ws.length (Nat.le_refl _)]
  exact F.full
theorem share_mem {n : Int} {ws : List Int} (F : ShareFacts n ws) {z : Int} (hz : z ∈ shareZ n ws) : ∃ k, k < ws.length ∧ z = shareAt n ws k := by
  rw [shareZ_yes n ws F.shareOk'] at hz
  obtain ⟨k, hk, rfl⟩ := List.mem_map.1 hz
  exact ⟨k, by simpa using hk, rfl⟩
/-- What a round owes to Share: that it may be called. -/
structure RoundOk (g : Bool) (inner : Int) (l : List It) : Prop where
  sf : ShareFacts (leftI g inner l) (wtsI g l)
theorem wtsI_len (g : Bool) (l : List It) : (wtsI g l).length = openI l := by simp [wtsI, openI]
theorem parts_len {g : Bool} {inner : Int} {l : List It} (h : RoundOk g inner l) : (shareZ (leftI g inner l) (wtsI g l)).length = openI l := by rw [h.sf.length, wtsI_len]
theorem openI_cons (i : It) (r : List It) : openI (i :: r) = if i.fz = true then openI r else openI r + 1 := by
  unfold openI
  by_cases h : i.fz = true
  · rw [if_pos h]; simp [h]
  · rw [if_neg h]; simp [h]
/-- In each round some of the others are frozen. -/
theorem round_open {g : Bool} {inner : Int} {l : List It} (h0 : openI l ≠ 0) : openI (roundI g inner l) < openI l := by
  have keep : ∀ (ps : List Int) (o : Int), openI ((putI l ps).map (stopI o)) ≤ openI l ∧ ((∃ p ∈ putI l ps, p.1.fz = false ∧ (stopI o p).fz = true) → openI ((putI l ps).map (stopI o)) < openI l) := by
    clear h0
    induction l with
    | nil => intro ps o; exact ⟨Nat.le_refl _, fun ⟨p, hp, _⟩ => by simp [putI] at hp⟩
    | cons i r ih =>
      intro ps o
      unfold putI
      by_cases hi : i.fz = true
      · rw [if_pos hi]
        have e1 : openI (i :: r) = openI r := by simp [openI, hi]
        have e2 : (stopI o (i, i.s)).fz = true := by simp [stopI, hi]
        have e3 : openI (List.map (stopI o) ((i, i.s) :: putI r ps)) = openI ((putI r ps).map (stopI o)) := by simp [openI, e2]
        rw [e1, e3]
        refine ⟨(ih ps o).1, fun ⟨p, hp, h1, h2⟩ => (ih ps o).2 ?_⟩
        rw [List.mem_cons] at hp
        rcases hp with rfl | hp
        · simp only at h1; rw [hi] at h1; cases h1
        · exact ⟨p, hp, h1, h2⟩
      · rw [if_neg hi]
        have e1 : openI (i :: r) = openI r + 1 := by simp [openI, hi]
        have I := ih ps.tail o
        rw [e1]
        by_cases hs : (stopI o (⟨i.x, clF i.x (i.x.base + ps.headD 0), false⟩, i.x.base + ps.headD 0)).fz = true
        · have e3 : openI (List.map (stopI o) ((⟨i.x, clF i.x (i.x.base + ps.headD 0), false⟩, i.x.base + ps.headD 0) :: putI r ps.tail)) = openI ((putI r ps.tail).map (stopI o)) := by rw [List.map_cons, openI_cons, if_pos hs]
          rw [e3]
          exact ⟨by omega, fun _ => by omega⟩
        · have e3 : openI (List.map (stopI o) ((⟨i.x, clF i.x (i.x.base + ps.headD 0), false⟩, i.x.base + ps.headD 0) :: putI r ps.tail)) = openI ((putI r ps.tail).map (stopI o)) + 1 := by rw [List.map_cons, openI_cons, if_neg hs]
          rw [e3]
          refine ⟨by omega, fun ⟨p, hp, h1, h2⟩ => ?_⟩
          rw [List.mem_cons] at hp
          rcases hp with rfl | hp
          · exact absurd h2 hs
          · have := I.2 ⟨p, hp, h1, h2⟩; omega
  unfold roundI
  refine (keep _ _).2 ?_
  generalize shareZ (leftI g inner l) (wtsI g l) = ps
  have unf : ∀ p ∈ putI l ps, p.1.s - p.2 ≠ 0 → p.1.fz = false := fun p hp hne => by
    rcases putI_cases l ps p hp with ⟨a, b, c⟩ | ⟨a, _⟩
    · omega
    · exact a
  rcases Int.lt_trichotomy (overI (putI l ps)) 0 with h | h | h
  · obtain ⟨p, hp, hd⟩ := sum_neg_ex _ h
    exact ⟨p, hp, unf p hp (by omega), by simp only [stopI, decide_eq_true h, decide_eq_true hd, Bool.and_self, Bool.or_true]⟩
  · -- all the others
    have ex : ∃ p ∈ putI l ps, p.1.fz = false := by
      clear keep unf h
      induction l generalizing ps with
      | nil => exact absurd rfl h0
      | cons i r ih =>
        unfold putI
        by_cases hi : i.fz = true
        · rw [if_pos hi]
          obtain ⟨p, hp, hf⟩ := ih (by simpa [openI, hi] using h0) ps
          exact ⟨p, by simp [hp], hf⟩
        · rw [if_neg hi]; exact ⟨_, List.mem_cons_self, rfl⟩
    obtain ⟨p, hp, hf⟩ := ex
    exact ⟨p, hp, hf, by simp [stopI, h]⟩
  · obtain ⟨p, hp, hd⟩ := sum_pos_ex _ h
    exact ⟨p, hp, unf p hp (by omega), by simp only [stopI, decide_eq_true h, decide_eq_true hd, Bool.and_self, Bool.or_true, Bool.true_or]⟩
theorem open_zero {l : List It} (h : openI l = 0) : ∀ i ∈ l, i.fz = true := fun i hi => by
  cases hf : i.fz with
  | true => rfl
  | false =>
    have : i ∈ l.filter (fun i => !i.fz) := List.mem_filter.2 ⟨hi, by simp [hf]⟩
    rw [List.eq_nil_of_length_eq_zero h] at this
    cases this
/-- Whatever every round keeps stands at the end, and all is frozen then. -/
theorem run_keep {g : Bool} {inner : Int} {I : List It → Prop} (step : ∀ l, I l → openI l ≠ 0 → I (roundI g inner l)) : ∀ (k : Nat) (l : List It), openI l ≤ k → I l → I (runI g inner k l) ∧ openI (runI g inner k l) = 0
  | 0, l, hk, h => ⟨h, by show openI l = 0; omega⟩
  | k + 1, l, hk, h => by
    unfold runI
    by_cases h0 : openI l = 0
    · rw [if_pos h0]; exact ⟨h, h0⟩
    · rw [if_neg h0]
      have := round_open (g := g) (inner := inner) h0
      exact run_keep step k _ (by omega) (step l h h0)
/-- One that is not frozen takes part in the round. -/
theorem putI_has {j : It} (hf : j.fz = false) : ∀ (l : List It) (ps : List Int), j ∈ l → ∃ p ∈ putI l ps, p.1.x = j.x ∧ p.1.fz = false
  | a :: r, ps, hj => by
    unfold putI
    rw [List.mem_cons] at hj
    by_cases ha : a.fz = true
    · rw [if_pos ha]
      rcases hj with rfl | hj
      · rw [ha] at hf; cases hf
      · obtain ⟨p, hp, h⟩ := putI_has hf r ps hj
        exact ⟨p, by simp [hp], h⟩
    · rw [if_neg ha]
      rcases hj with rfl | hj
      · exact ⟨_, List.mem_cons_self, rfl, rfl⟩
      · obtain ⟨p, hp, h⟩ := putI_has hf r ps.tail hj
        exact ⟨p, by simp [hp], h⟩
theorem open_le (l : List It) : openI l ≤ l.length := List.length_filter_le _ _
end Go.Proofs.Yteaenomfighaoaa
/- Free space among items: a round item by item, as the loops go. No program is named here. -/
namespace Go.Proofs.Yteaenomfighaoaa
open Go.RowKit
set_option linter.unusedVariables false
set_option linter.unusedSimpArgs false

/-- A row whose first k are new. -/
def mixL {α : Type} (A B : List α) (k : Nat) : List α := A.take k ++ B.drop k
theorem mixL_len {α : Type} {A B : List α} {k : Nat} (h : A.length = B.length) (hk : k ≤ B.length) : (mixL A B k).length = B.length := by unfold mixL; simp; omega
theorem mixL_zero {α : Type} (A B : List α) : mixL A B 0 = B := by simp [mixL]
theorem mixL_all {α : Type} {A B : List α} (h : A.length = B.length) : mixL A B B.length = A := by unfold mixL; rw [List.drop_length, List.append_nil, List.take_of_length_le (by omega)]
theorem mixL_set {α : Type} {A B : List α} {k : Nat} (h : A.length = B.length) (hk : k < B.length) : (mixL A B k).set k (A[k]'(by omega)) = mixL A B (k + 1) := by
  unfold mixL
  have e : (A.take k).length = k := by rw [List.length_take]; omega
  rw [List.set_append_right _ _ (by omega), e, Nat.sub_self, List.drop_eq_getElem_cons hk, List.set_cons_zero, List.take_succ_eq_append_getElem (show k < A.length by omega), List.append_assoc]
  rfl
theorem mixL_get {α : Type} {A B : List α} {k : Nat} (h : A.length = B.length) (hk : k < B.length) : (mixL A B k)[k]? = some B[k] := by
  unfold mixL
  have e : (A.take k).length = k := by rw [List.length_take]; omega
  rw [List.getElem?_append_right (by omega), e, Nat.sub_self, List.getElem?_drop, Nat.add_zero, List.getElem?_eq_getElem hk]
theorem mixL_same {α : Type} {A B : List α} {k : Nat} (h : A.length = B.length) (hk : k < B.length) (hs : A[k]'(by omega) = B[k]) : mixL A B (k + 1) = mixL A B k := by
  rw [← mixL_set h hk, hs]
  have h1 := mixL_get h hk
  have h2 : k < (mixL A B k).length := by rw [mixL_len h (by omega)]; exact hk
  rw [List.getElem?_eq_getElem h2] at h1
  rw [← Option.some.inj h1, List.set_getElem_self]
/-- The part that item k gets: the one behind those of the others ahead of it. -/
theorem putI_get : ∀ (l : List It) (ps : List Int) (k : Nat) (h : k < l.length) (h' : k < (putI l ps).length),
    (putI l ps)[k] = if l[k].fz = true then (l[k], l[k].s) else (⟨l[k].x, clF l[k].x (l[k].x.base + ps.getD (openI (l.take k)) 0), false⟩, l[k].x.base + ps.getD (openI (l.take k)) 0)
  | i :: r, ps, 0, h, h' => by
    by_cases hf : i.fz = true
    · have e : putI (i :: r) ps = (i, i.s) :: putI r ps := by rw [putI, if_pos hf]
      simp only [e, List.getElem_cons_zero]
      rw [if_pos hf]
    · have e : putI (i :: r) ps = (⟨i.x, clF i.x (i.x.base + ps.headD 0), false⟩, i.x.base + ps.headD 0) :: putI r ps.tail := by rw [putI, if_neg hf]
      simp only [e, List.getElem_cons_zero]
      rw [if_neg hf]
      have : openI (List.take 0 (i :: r)) = 0 := rfl
      rw [this]
      cases ps <;> rfl
  | i :: r, ps, k + 1, h, h' => by
    have hk : k < r.length := by simpa using h
    by_cases hf : i.fz = true
    · have e : putI (i :: r) ps = (i, i.s) :: putI r ps := by rw [putI, if_pos hf]
      simp only [e, List.getElem_cons_succ]
      rw [putI_get r ps k hk (by rw [putI_len]; exact hk), List.take_succ_cons, openI_cons, if_pos hf]
    · have e : putI (i :: r) ps = (⟨i.x, clF i.x (i.x.base + ps.headD 0), false⟩, i.x.base + ps.headD 0) :: putI r ps.tail := by rw [putI, if_neg hf]
      simp only [e, List.getElem_cons_succ]
      rw [putI_get r ps.tail k hk (by rw [putI_len]; exact hk), List.take_succ_cons, openI_cons, if_neg hf]
      have : ps.tail.getD (openI (r.take k)) 0 = ps.getD (openI (r.take k) + 1) 0 := by cases ps <;> simp
      rw [this]
theorem wtsI_take (g : Bool) (l : List It) (k : Nat) (h : k < l.length) : wtsI g (l.take (k + 1)) = wtsI g (l.take k) ++ (if l[k].fz = true then [] else [wtF g l[k].x]) := by
  rw [List.take_succ_eq_append_getElem h]
  unfold wtsI
  rw [List.filter_append, List.map_append]
  congr 1
  by_cases hf : l[k].fz = true
  · rw [if_pos hf]; simp [hf]
  · rw [if_neg hf]; simp [hf]
theorem openI_both (A B : List It) : openI (A ++ B) = openI A + openI B := by simp [openI]
theorem openI_take (l : List It) (k : Nat) (h : k < l.length) : openI (l.take (k + 1)) = openI (l.take k) + (if l[k].fz = true then 0 else 1) := by
  rw [List.take_succ_eq_append_getElem h, openI_both, openI_cons]
  rfl
theorem freeI_take (inner : Int) (l : List It) (k : Nat) (h : k < l.length) : freeI inner (l.take (k + 1)) = freeI inner (l.take k) - tkI l[k] := by
  unfold freeI
  rw [List.take_succ_eq_append_getElem h, List.map_append, List.sum_append]
  simp; omega
theorem overI_take (q : List (It × Int)) (k : Nat) (h : k < q.length) : overI (q.take (k + 1)) = overI (q.take k) + (q[k].1.s - q[k].2) := by
  unfold overI
  rw [List.take_succ_eq_append_getElem h, List.map_append, List.sum_append]
  simp
/-- How many are not frozen yet while the flags are laid. -/
theorem openI_mix (q : List (It × Int)) (o : Int) (k : Nat) (h : k < q.length) :
    openI (mixL (q.map (stopI o)) (q.map (·.1)) (k + 1)) + (if q[k].1.fz = false ∧ (stopI o q[k]).fz = true then 1 else 0) = openI (mixL (q.map (stopI o)) (q.map (·.1)) k) := by
  have hl : (q.map (stopI o)).length = (q.map (·.1)).length := by simp
  unfold mixL
  rw [List.take_succ_eq_append_getElem (by simpa using h), List.drop_eq_getElem_cons (i := k) (l := q.map (·.1)) (by simpa using h)]
  have ap : ∀ A B : List It, openI (A ++ B) = openI A + openI B := fun A B => by simp [openI]
  rw [ap, ap, ap, openI_cons, openI_cons]
  simp only [List.getElem_map]
  have mono : q[k].1.fz = true → (stopI o q[k]).fz = true := fun hf => by show (q[k].1.fz || _ || _ || _) = true; rw [hf]; simp
  have e0 : openI ([] : List It) = 0 := rfl
  rw [e0]
  cases h1 : q[k].1.fz with
  | true => rw [mono h1]; simp
  | false =>
    cases h2 : (stopI o q[k]).fz with
    | true => simp; omega
    | false => simp; omega
end Go.Proofs.Yteaenomfighaoaa
/- Items along a line, as numbers: where each one's border box begins. No program is named here. -/
namespace Go.Proofs.Yteaenomfighaoaa
open Go.RowKit
set_option linter.unusedVariables false
set_option linter.unusedSimpArgs false

/-- An item: its margins, which of them are automatic, its size. -/
structure Al where
  b : Int
  a : Int
  ab : Bool
  aa : Bool
  s : Int
def bN (x : Bool) : Nat := if x then 1 else 0
theorem bN_le (x : Bool) : bN x ≤ 1 := by cases x <;> decide
def needA (l : List Al) : Int := (l.map fun x => x.b + x.s + x.a).sum
def freeA (inner : Int) (l : List Al) : Int := inner - needA l
def autosA (l : List Al) : Nat := (l.map fun x => bN x.ab + bN x.aa).sum
def onesA (m : Nat) : List Int := List.replicate m 1
/-- The part of the k-th of m. -/
def partA (f : Int) (m k : Nat) : Int := shareAt f (onesA m) k
/-- By automatic margins? -/
def isAuto (f : Int) (l : List Al) : Bool := decide (0 < f) && decide (0 < autosA l)
def gap1 (f : Int) (l : List Al) (j : Int) (k : Nat) : Int :=
  if isAuto f l then (if (l.map Al.ab).getD k false then partA f (autosA l) (autosA (l.take k)) else 0)
  else if j = 4 ∧ 0 < f then partA f (2 * l.length) (2 * k) else 0
def gap2 (f : Int) (l : List Al) (j : Int) (k : Nat) : Int :=
  if isAuto f l then (if (l.map Al.aa).getD k false then partA f (autosA l) (autosA (l.take k) + bN ((l.map Al.ab).getD k false)) else 0)
  else if j = 3 ∧ 0 < f ∧ 1 < l.length then (if k + 1 < l.length then partA f (l.length - 1) k else 0)
  else if j = 4 ∧ 0 < f then partA f (2 * l.length) (2 * k + 1) else 0
def startA (f : Int) (l : List Al) (j : Int) : Int := if isAuto f l then 0 else if j = 1 then f else if j = 2 then f / 2 else 0
/-- All sizes, margins and gaps of the first k. -/
def gapsA (f : Int) (l : List Al) (j : Int) (k : Nat) : Int := ((List.range k).map fun i => gap1 f l j i + gap2 f l j i).sum
def atA (f : Int) (l : List Al) (j : Int) (k : Nat) : Int := startA f l j + gapsA f l j k + needA (l.take k)
def posA (f : Int) (l : List Al) (j : Int) (k : Nat) : Int := atA f l j k + gap1 f l j k + (l.map Al.b).getD k 0
def placeA (inner : Int) (l : List Al) (j : Int) (rev : Bool) : List Int :=
  (List.range l.length).map fun k => if rev then inner - posA (freeA inner l) l j k - (l.map Al.s).getD k 0 else posA (freeA inner l) l j k
theorem placeA_len (inner : Int) (l : List Al) (j : Int) (rev : Bool) : (placeA inner l j rev).length = l.length := by simp [placeA]
theorem placeA_get (inner : Int) (l : List Al) (j : Int) (rev : Bool) {k : Nat} (h : k < l.length) : (placeA inner l j rev)[k]'(by rw [placeA_len]; exact h) = if rev then inner - posA (freeA inner l) l j k - l[k].s else posA (freeA inner l) l j k := by
  unfold placeA
  rw [List.getElem_map, List.getElem_range]
  have : (l.map Al.s).getD k 0 = l[k].s := by simp [List.getD, h]
  rw [this]

theorem getA {α : Type} (f : Al → α) (d : α) {l : List Al} {k : Nat} (h : k < l.length) : (l.map f).getD k d = f l[k] := by simp [List.getD, h]
theorem needA_take (l : List Al) {k : Nat} (h : k < l.length) : needA (l.take (k + 1)) = needA (l.take k) + l[k].b + l[k].s + l[k].a := by
  unfold needA; rw [List.take_succ_eq_append_getElem h, List.map_append, List.sum_append]; simp; omega
theorem autosA_take (l : List Al) {k : Nat} (h : k < l.length) : autosA (l.take (k + 1)) = autosA (l.take k) + bN l[k].ab + bN l[k].aa := by
  unfold autosA; rw [List.take_succ_eq_append_getElem h, List.map_append, List.sum_append]; simp; omega
theorem gapsA_succ (f : Int) (l : List Al) (j : Int) (k : Nat) : gapsA f l j (k + 1) = gapsA f l j k + gap1 f l j k + gap2 f l j k := by
  unfold gapsA; rw [List.range_succ, List.map_append, List.sum_append]; simp; omega
theorem atA_succ (f : Int) (l : List Al) (j : Int) {k : Nat} (h : k < l.length) : atA f l j (k + 1) = posA f l j k + l[k].s + l[k].a + gap2 f l j k := by
  unfold atA posA atA
  rw [gapsA_succ, needA_take l h, getA Al.b 0 h]; omega
theorem atA_zero (f : Int) (l : List Al) (j : Int) : atA f l j 0 = startA f l j := by simp [atA, gapsA, needA]
theorem autosA_mono (l : List Al) (k : Nat) : autosA (l.take k) ≤ autosA l := by
  have : autosA l = autosA (l.take k) + autosA (l.drop k) := by
    unfold autosA; rw [← List.sum_append, ← List.map_append, List.take_append_drop]
  omega
theorem autosA_le (l : List Al) : autosA l ≤ 2 * l.length := by
  induction l with
  | nil => simp [autosA]
  | cons x l ih =>
    have := bN_le x.ab; have := bN_le x.aa
    simp only [autosA, List.map_cons, List.sum_cons, List.length_cons] at *; omega

/-! ### Parts of a sharing in equal weights -/
theorem onesA_len (m : Nat) : (onesA m).length = m := List.length_replicate
theorem onesA_sum (m : Nat) : (onesA m).sum = m := by
  induction m with
  | zero => rfl
  | succ m ih => unfold onesA at *; rw [List.replicate_succ, List.sum_cons, ih]; omega
theorem onesA_facts {f : Int} {m : Nat} (h0 : 0 ≤ f) (h1 : f ≤ 1152921504606846976) (hm : m ≤ 1000) : ShareFacts f (onesA m) := by
  refine ⟨?_, by omega, h1⟩
  simp only [sumOk, Bool.and_eq_true, decide_eq_true_eq]
  refine ⟨by rw [onesA_len]; exact hm, ?_⟩
  rw [List.all_eq_true]
  intro x hx
  rw [List.eq_of_mem_replicate hx]; rfl
theorem partA_bd {f : Int} {m k : Nat} (h0 : 0 ≤ f) (h1 : f ≤ 1152921504606846976) (hm : m ≤ 1000) (hk : k < m) : f / (m : Int) ≤ partA f m k ∧ partA f m k ≤ f / (m : Int) + 1 := by
  have F := onesA_facts h0 h1 hm
  have hk' : k < (onesA m).length := by rw [onesA_len]; exact hk
  have h := F.part k hk' (by rw [onesA_sum]; omega)
  have hw : (onesA m)[k] = 1 := List.getElem_replicate ..
  rw [hw, Int.mul_one] at h
  unfold partA
  rw [h, onesA_sum]
  exact part_near _ _ _ (by omega)
theorem partA_nn {f : Int} {m k : Nat} (h0 : 0 ≤ f) (h1 : f ≤ 1152921504606846976) (hm : m ≤ 1000) (hk : k < m) : 0 ≤ partA f m k := by
  have := partA_bd h0 h1 hm hk
  have := Int.ediv_nonneg h0 (show (0 : Int) ≤ m by omega)
  omega
theorem partA_sum {f : Int} {m : Nat} (h0 : 0 ≤ f) (h1 : f ≤ 1152921504606846976) (hm : m ≤ 1000) : ∀ k, k ≤ m → ((List.range k).map (partA f m)).sum = ratZ f (k : Int) (m : Int)
  | 0, _ => by rw [show ((0 : Nat) : Int) = 0 from rfl, ratZ_zero]; rfl
  | k + 1, h => by
    rw [List.range_succ, List.map_append, List.sum_append, partA_sum h0 h1 hm k (by omega)]
    have e : ∀ i, i ≤ m → ((onesA m).take i).sum = i := fun i hi => by
      have : (onesA m).take i = onesA i := by unfold onesA; rw [List.take_replicate, Nat.min_eq_left hi]
      rw [this, onesA_sum]
    have : partA f m k = ratZ f ((k + 1 : Nat) : Int) (m : Int) - ratZ f (k : Int) (m : Int) := by
      unfold partA shareAt
      rw [e (k + 1) h, e k (by omega), onesA_sum]
    simp only [List.map_cons, List.map_nil, List.sum_cons, List.sum_nil]
    omega
theorem partA_all {f : Int} {m : Nat} (h0 : 0 ≤ f) (h1 : f ≤ 1152921504606846976) (hm : m ≤ 1000) (hp : 0 < m) : ((List.range m).map (partA f m)).sum = f := by
  rw [partA_sum h0 h1 hm m (Nat.le_refl _), ratZ_eq f m m (by omega) h1 (by omega) (by omega) (by omega) (Int.le_refl _), Int.mul_ediv_cancel _ (by omega)]
theorem ratA_le {f : Int} {m k : Nat} (h0 : 0 ≤ f) (h1 : f ≤ 1152921504606846976) (hm : m ≤ 1000) (hp : 0 < m) (hk : k ≤ m) : 0 ≤ ratZ f (k : Int) (m : Int) ∧ ratZ f (k : Int) (m : Int) ≤ f := by
  rw [ratZ_eq f k m (by omega) h1 (by omega) (by omega) (by omega) (by omega)]
  refine ⟨Int.ediv_nonneg (Int.mul_nonneg h0 (by omega)) (by omega), ?_⟩
  have : f * (k : Int) / (m : Int) ≤ f * (m : Int) / (m : Int) := Int.ediv_le_ediv (by omega) (Int.mul_le_mul_of_nonneg_left (by omega) h0)
  rwa [Int.mul_ediv_cancel _ (by omega)] at this

/-! ### All gaps of the first k items -/
theorem gaps_auto {f : Int} {l : List Al} {j : Int} (h1 : f ≤ 1152921504606846976) (hl : l.length ≤ 500) (ha : isAuto f l = true) : ∀ k, k ≤ l.length → gapsA f l j k = ratZ f (autosA (l.take k) : Int) (autosA l : Int) := by
  have hf : 0 < f := by unfold isAuto at ha; simp at ha; exact ha.1
  have hp : 0 < autosA l := by unfold isAuto at ha; simp at ha; exact ha.2
  have hm : autosA l ≤ 1000 := by have := autosA_le l; omega
  have key : ∀ k, k < autosA l → partA f (autosA l) k = ratZ f ((k + 1 : Nat) : Int) (autosA l : Int) - ratZ f (k : Int) (autosA l : Int) := fun k hk => by
    have e1 := partA_sum (by omega : 0 ≤ f) h1 hm (k + 1) hk
    rw [List.range_succ, List.map_append, List.sum_append, partA_sum (by omega) h1 hm k (by omega)] at e1
    simp only [List.map_cons, List.map_nil, List.sum_cons, List.sum_nil] at e1
    omega
  intro k
  induction k with
  | zero => intro _; simp [gapsA, autosA, ratZ_zero]
  | succ k ih =>
    intro hk
    rw [gapsA_succ, ih (by omega), autosA_take l hk]
    have hle := autosA_mono l (k + 1)
    rw [autosA_take l hk] at hle
    unfold gap1 gap2
    rw [if_pos ha, if_pos ha, getA Al.ab false hk, getA Al.aa false hk]
    cases h2 : l[k].ab <;> cases h3 : l[k].aa <;> simp only [h2, h3, bN] at hle ⊢ <;> simp only [if_true, if_false, Bool.false_eq_true] at hle ⊢
    · simp
    · rw [key _ (by omega)]; simp; omega
    · rw [key _ (by omega)]; simp; omega
    · rw [key _ (by omega), key _ (by omega)]
      have : ((autosA (l.take k) + 1 + 1 : Nat) : Int) = ((autosA (l.take k) : Nat) : Int) + 1 + 1 := by omega
      simp; omega
theorem gaps_betw {f : Int} {l : List Al} {j : Int} (h0 : 0 < f) (h1 : f ≤ 1152921504606846976) (hl : l.length ≤ 500) (ha : isAuto f l = false) (hj : j = 3) (h2 : 1 < l.length) : ∀ k, k ≤ l.length → gapsA f l j k = ratZ f ((min k (l.length - 1) : Nat) : Int) ((l.length - 1 : Nat) : Int) := by
  intro k
  induction k with
  | zero => intro _; simp [gapsA, ratZ_zero]
  | succ k ih =>
    intro hk
    rw [gapsA_succ, ih (by omega)]
    unfold gap1 gap2
    rw [ha]
    simp only [Bool.false_eq_true, if_false]
    rw [if_neg (by omega), if_pos ⟨hj, h0, h2⟩]
    by_cases h3 : k + 1 < l.length
    · rw [if_pos h3, Nat.min_eq_left (by omega), Nat.min_eq_left (by omega)]
      have e1 := partA_sum (by omega : 0 ≤ f) h1 (by omega : l.length - 1 ≤ 1000) (k + 1) (by omega)
      rw [List.range_succ, List.map_append, List.sum_append, partA_sum (by omega) h1 (by omega) k (by omega)] at e1
      simp only [List.map_cons, List.map_nil, List.sum_cons, List.sum_nil] at e1
      omega
    · rw [if_neg h3, Nat.min_eq_right (by omega), Nat.min_eq_right (by omega)]; omega
theorem gaps_arnd {f : Int} {l : List Al} {j : Int} (h0 : 0 < f) (h1 : f ≤ 1152921504606846976) (hl : l.length ≤ 500) (ha : isAuto f l = false) (hj : j = 4) : ∀ k, k ≤ l.length → gapsA f l j k = ratZ f ((2 * k : Nat) : Int) ((2 * l.length : Nat) : Int) := by
  intro k
  induction k with
  | zero => intro _; simp [gapsA, ratZ_zero]
  | succ k ih =>
    intro hk
    rw [gapsA_succ, ih (by omega)]
    unfold gap1 gap2
    rw [ha]
    simp only [Bool.false_eq_true, if_false]
    rw [if_pos ⟨hj, h0⟩, if_neg (by omega), if_pos ⟨hj, h0⟩]
    have e1 := partA_sum (by omega : 0 ≤ f) h1 (by omega : 2 * l.length ≤ 1000) (2 * k + 1) (by omega)
    have e2 := partA_sum (by omega : 0 ≤ f) h1 (by omega : 2 * l.length ≤ 1000) (2 * k + 1 + 1) (by omega)
    rw [List.range_succ, List.map_append, List.sum_append, partA_sum (by omega) h1 (by omega) (2 * k) (by omega)] at e1
    rw [List.range_succ, List.map_append, List.sum_append, partA_sum (by omega) h1 (by omega) (2 * k + 1) (by omega)] at e2
    simp only [List.map_cons, List.map_nil, List.sum_cons, List.sum_nil] at e1 e2
    rw [show 2 * (k + 1) = 2 * k + 1 + 1 by omega]
    omega
theorem gaps_none {f : Int} {l : List Al} {j : Int} (ha : isAuto f l = false) (h : ¬ (j = 3 ∧ 0 < f ∧ 1 < l.length)) (h' : ¬ (j = 4 ∧ 0 < f)) (k : Nat) : gap1 f l j k = 0 ∧ gap2 f l j k = 0 := by
  unfold gap1 gap2
  rw [ha]
  simp only [Bool.false_eq_true, if_false]
  rw [if_neg h', if_neg h, if_neg h']; exact ⟨rfl, rfl⟩
theorem gaps_nil {f : Int} {l : List Al} {j : Int} (ha : isAuto f l = false) (h : ¬ (j = 3 ∧ 0 < f ∧ 1 < l.length)) (h' : ¬ (j = 4 ∧ 0 < f)) : ∀ k, gapsA f l j k = 0
  | 0 => rfl
  | k + 1 => by rw [gapsA_succ, gaps_nil ha h h' k]; have := gaps_none ha h h' k; omega
/-- The gaps of the first k: none below 0, all within what is free. -/
theorem gapsA_bd {f : Int} {l : List Al} {j : Int} (h1 : f ≤ 1152921504606846976) (hl : l.length ≤ 500) {k : Nat} (hk : k ≤ l.length) : 0 ≤ gapsA f l j k ∧ gapsA f l j k ≤ max f 0 ∧ (isAuto f l = true ∨ startA f l j = 0 ∨ gapsA f l j k = 0) := by
  by_cases ha : isAuto f l = true
  · have hf : 0 < f := by unfold isAuto at ha; simp at ha; exact ha.1
    have hp : 0 < autosA l := by unfold isAuto at ha; simp at ha; exact ha.2
    have := autosA_le l
    rw [gaps_auto h1 hl ha k hk]
    have := ratA_le (k := autosA (l.take k)) (by omega) h1 (by omega) hp (autosA_mono l k)
    exact ⟨this.1, by omega, .inl ha⟩
  · have ha : isAuto f l = false := by simpa using ha
    by_cases h : j = 3 ∧ 0 < f ∧ 1 < l.length
    · obtain ⟨hj, h0, h2⟩ := h
      rw [gaps_betw h0 h1 hl ha hj h2 k hk]
      have := ratA_le (f := f) (m := l.length - 1) (k := min k (l.length - 1)) (by omega) h1 (by omega) (by omega) (by omega)
      refine ⟨this.1, by omega, .inr (.inl ?_)⟩
      unfold startA; rw [ha]; simp only [Bool.false_eq_true, if_false]; rw [if_neg (by omega), if_neg (by omega)]
    · by_cases h' : j = 4 ∧ 0 < f
      · obtain ⟨hj, h0⟩ := h'
        rw [gaps_arnd h0 h1 hl ha hj k hk]
        by_cases hz : l.length = 0
        · have : k = 0 := by omega
          subst this
          rw [show ((2 * 0 : Nat) : Int) = 0 from rfl, ratZ_zero]
          refine ⟨by omega, by omega, .inr (.inr rfl)⟩
        · have := ratA_le (f := f) (m := 2 * l.length) (k := 2 * k) (by omega) h1 (by omega) (by omega) (by omega)
          refine ⟨this.1, by omega, .inr (.inl ?_)⟩
          unfold startA; rw [ha]; simp only [Bool.false_eq_true, if_false]; rw [if_neg (by omega), if_neg (by omega)]
      · rw [gaps_nil ha h h' k]; exact ⟨by omega, by omega, .inr (.inr rfl)⟩
theorem gap_nn {f : Int} {l : List Al} {j : Int} (h1 : f ≤ 1152921504606846976) (hl : l.length ≤ 500) {k : Nat} (hk : k < l.length) : 0 ≤ gap1 f l j k ∧ 0 ≤ gap2 f l j k := by
  unfold gap1 gap2
  by_cases ha : isAuto f l = true
  · have hf : 0 < f := by unfold isAuto at ha; simp at ha; exact ha.1
    have hm := autosA_le l
    have hle := autosA_mono l (k + 1)
    rw [autosA_take l hk] at hle
    rw [if_pos ha, if_pos ha, getA Al.ab false hk, getA Al.aa false hk]
    constructor
    · cases h2 : l[k].ab
      · simp
      · rw [h2] at hle; simp only [if_true]; exact partA_nn (by omega) h1 (by omega) (by simp only [bN, if_true] at hle; omega)
    · cases h2 : l[k].aa
      · simp
      · rw [h2] at hle; simp only [if_true]; exact partA_nn (by omega) h1 (by omega) (by simp only [bN, if_true] at hle ⊢; omega)
  · rw [if_neg ha, if_neg ha]
    constructor
    · split
      · exact partA_nn (by omega) h1 (by omega) (by omega)
      · omega
    · split
      · split
        · exact partA_nn (by omega) h1 (by omega) (by omega)
        · omega
      · split
        · exact partA_nn (by omega) h1 (by omega) (by omega)
        · omega
theorem startA_bd (f : Int) (l : List Al) (j : Int) : min f 0 ≤ startA f l j ∧ startA f l j ≤ max f 0 ∧ (0 ≤ f → 0 ≤ startA f l j) := by
  unfold startA
  split
  · omega
  · split
    · omega
    · split <;> omega
/-- With room all is within it. -/
theorem atA_fit {f : Int} {l : List Al} {j : Int} (h0 : 0 ≤ f) (h1 : f ≤ 1152921504606846976) (hl : l.length ≤ 500) : atA f l j l.length ≤ f + needA l := by
  have h := gapsA_bd (j := j) h1 hl (Nat.le_refl l.length)
  have hs := startA_bd f l j
  unfold atA
  rw [List.take_length]
  rcases h.2.2 with h3 | h3 | h3
  · have : startA f l j = 0 := by unfold startA; rw [if_pos h3]
    omega
  · omega
  · omega
end Go.Proofs.Yteaenomfighaoaa
/- Items along a line: how far all of it is, and what the laws ask of gaps. No program is named here. -/
namespace Go.Proofs.Yteaenomfighaoaa
open Go.RowKit
set_option linter.unusedVariables false
set_option linter.unusedSimpArgs false

structure AlOk (x : Al) : Prop where
  b0 : -1099511627776 ≤ x.b
  b1 : x.b ≤ 1099511627776
  a0 : -1099511627776 ≤ x.a
  a1 : x.a ≤ 1099511627776
  s0 : 0 ≤ x.s
  s1 : x.s ≤ 1099511627776
  zb : x.ab = true → x.b = 0
  za : x.aa = true → x.a = 0
theorem needA_cons (x : Al) (l : List Al) : needA (x :: l) = x.b + x.s + x.a + needA l := by simp [needA]
theorem needA_bd : ∀ (l : List Al), (∀ x ∈ l, AlOk x) → -(2199023255552 * (l.length : Int)) ≤ needA l ∧ needA l ≤ 3298534883328 * (l.length : Int)
  | [], _ => by simp [needA]
  | x :: l, h => by
    have hx := h x (List.mem_cons_self ..)
    have := needA_bd l fun y hy => h y (List.mem_cons_of_mem _ hy)
    have := hx.b0; have := hx.b1; have := hx.a0; have := hx.a1; have := hx.s0; have := hx.s1
    rw [needA_cons, List.length_cons]; omega
theorem needA_takebd {l : List Al} (h : ∀ x ∈ l, AlOk x) (hl : l.length ≤ 100) (k : Nat) : -219902325555200 ≤ needA (l.take k) ∧ needA (l.take k) ≤ 329853488332800 := by
  have := needA_bd (l.take k) fun x hx => h x (List.mem_of_mem_take hx)
  have : (l.take k).length ≤ 100 := by rw [List.length_take]; omega
  omega
theorem freeA_bd {inner : Int} {l : List Al} (h : ∀ x ∈ l, AlOk x) (hl : l.length ≤ 100) (hi : -35184372088832 ≤ inner ∧ inner ≤ 35184372088832) : -365037860421632 ≤ freeA inner l ∧ freeA inner l ≤ 255086697644032 := by
  have := needA_takebd h hl l.length
  rw [List.take_length] at this
  unfold freeA; omega
/-- How far all of it is. -/
structure PosBd (f : Int) (l : List Al) (j : Int) (k : Nat) : Prop where
  at0 : -1100000000000000 ≤ atA f l j k
  at1 : atA f l j k ≤ 1100000000000000
  g10 : 0 ≤ gap1 f l j k
  g11 : gap1 f l j k ≤ 365037860421632
  g20 : 0 ≤ gap2 f l j k
  g21 : gap2 f l j k ≤ 365037860421632
  p0 : -2000000000000000 ≤ posA f l j k
  p1 : posA f l j k ≤ 2000000000000000
theorem atA_bd {f : Int} {l : List Al} {j : Int} (h : ∀ x ∈ l, AlOk x) (hl : l.length ≤ 100) (hf : -365037860421632 ≤ f ∧ f ≤ 365037860421632) {k : Nat} (hk : k ≤ l.length) : -1100000000000000 ≤ atA f l j k ∧ atA f l j k ≤ 1100000000000000 := by
  have h1 := gapsA_bd (f := f) (l := l) (j := j) (by omega) (by omega) hk
  have h2 := startA_bd f l j
  have h3 := needA_takebd h hl k
  unfold atA
  omega
theorem posA_bd {f : Int} {l : List Al} {j : Int} (h : ∀ x ∈ l, AlOk x) (hl : l.length ≤ 100) (hf : -365037860421632 ≤ f ∧ f ≤ 365037860421632) {k : Nat} (hk : k < l.length) : PosBd f l j k := by
  have h1 := gapsA_bd (f := f) (l := l) (j := j) (by omega) (by omega) (show k ≤ l.length by omega)
  have h4 := gapsA_bd (f := f) (l := l) (j := j) (by omega) (by omega) (show k + 1 ≤ l.length by omega)
  rw [gapsA_succ] at h4
  have h5 := gap_nn (f := f) (l := l) (j := j) (by omega) (by omega) hk
  have h2 := atA_bd (j := j) h hl hf (show k ≤ l.length by omega)
  have hx := h _ (List.getElem_mem hk)
  have hb0 := hx.b0
  have hb1 := hx.b1
  refine ⟨h2.1, h2.2, h5.1, by omega, h5.2, by omega, ?_, ?_⟩ <;> (unfold posA; rw [getA Al.b 0 hk]; omega)
theorem placeA_at {inner : Int} {l : List Al} {j : Int} {rev : Bool} {P : List Int} (hP : placeA inner l j rev = P) {k : Nat} (h : k < l.length) (h' : k < P.length) : P[k] = if rev then inner - posA (freeA inner l) l j k - l[k].s else posA (freeA inner l) l j k := by
  subst hP; exact placeA_get inner l j rev h

/-! ### Gaps -/
theorem posA_zero {f : Int} {l : List Al} {j : Int} (h : 0 < l.length) : posA f l j 0 = startA f l j + gap1 f l j 0 + l[0].b := by unfold posA; rw [atA_zero, getA Al.b 0 h]
theorem posA_succ {f : Int} {l : List Al} {j : Int} {k : Nat} (h : k + 1 < l.length) : posA f l j (k + 1) = posA f l j k + l[k].s + l[k].a + gap2 f l j k + gap1 f l j (k + 1) + l[k + 1].b := by
  unfold posA
  rw [atA_succ f l j (by omega), getA Al.b 0 h]
  unfold posA; omega
def NoAuto (l : List Al) : Prop := autosA l = 0
theorem noAuto_is {f : Int} {l : List Al} (h : autosA l = 0) : isAuto f l = false := by unfold isAuto; rw [h]; simp
theorem auto_gap {f : Int} {l : List Al} {j : Int} (hf : 0 < f) (ha : 0 < autosA l) {k : Nat} (hk : k < l.length) : (l[k].ab = false → gap1 f l j k = 0) ∧ (l[k].aa = false → gap2 f l j k = 0) := by
  have : isAuto f l = true := by unfold isAuto; simp [hf, ha]
  unfold gap1 gap2
  rw [if_pos this, if_pos this, getA Al.ab false hk, getA Al.aa false hk]
  exact ⟨fun h => by rw [h]; rfl, fun h => by rw [h]; rfl⟩
theorem auto_first {f : Int} {l : List Al} {j : Int} (hf : 0 < f) (h1 : f ≤ 1152921504606846976) (hl : l.length ≤ 500) (ha : 0 < autosA l) (hk : 0 < l.length) (hb : l[0].ab = true) : startA f l j = 0 ∧ f / (autosA l : Int) ≤ gap1 f l j 0 ∧ gap1 f l j 0 ≤ f / (autosA l : Int) + 1 := by
  have hi : isAuto f l = true := by unfold isAuto; simp [hf, ha]
  have := autosA_le l
  unfold startA gap1
  rw [if_pos hi, if_pos hi, getA Al.ab false hk, hb]
  simp only [if_true]
  exact ⟨trivial, partA_bd (by omega) h1 (by omega) (by simpa [autosA] using ha)⟩
theorem auto_start {f : Int} {l : List Al} {j : Int} (hf : 0 < f) (ha : 0 < autosA l) : startA f l j = 0 := by
  have hi : isAuto f l = true := by unfold isAuto; simp [hf, ha]
  unfold startA; rw [if_pos hi]
/-- Between two that follow each other, where no margin is automatic. -/
theorem way_gap {f : Int} {l : List Al} {j : Int} (hf : 0 < f) (h1 : f ≤ 1152921504606846976) (hl : l.length ≤ 500) (ha : autosA l = 0) {k : Nat} (hk : k + 1 < l.length) :
    (j < 3 → gap2 f l j k + gap1 f l j (k + 1) = 0) ∧
    (j = 3 → f / ((l.length : Int) - 1) ≤ gap2 f l j k + gap1 f l j (k + 1) ∧ gap2 f l j k + gap1 f l j (k + 1) ≤ f / ((l.length : Int) - 1) + 1) ∧
    (j = 4 → 2 * (f / (2 * (l.length : Int))) ≤ gap2 f l j k + gap1 f l j (k + 1) ∧ gap2 f l j k + gap1 f l j (k + 1) ≤ 2 * (f / (2 * (l.length : Int))) + 2) := by
  have hi := noAuto_is (f := f) ha
  refine ⟨fun hj => ?_, fun hj => ?_, fun hj => ?_⟩
  · have a := gaps_none (j := j) hi (by omega) (by omega) k
    have b := gaps_none (j := j) hi (by omega) (by omega) (k + 1)
    omega
  · have e1 : gap1 f l j (k + 1) = 0 := by unfold gap1; rw [hi]; simp only [Bool.false_eq_true, if_false]; rw [if_neg (by omega)]
    have e2 : gap2 f l j k = partA f (l.length - 1) k := by unfold gap2; rw [hi]; simp only [Bool.false_eq_true, if_false]; rw [if_pos ⟨hj, hf, by omega⟩, if_pos hk]
    have := partA_bd (f := f) (m := l.length - 1) (k := k) (by omega) h1 (by omega) (by omega)
    rw [show ((l.length - 1 : Nat) : Int) = (l.length : Int) - 1 by omega] at this
    rw [e1, e2]; omega
  · have e1 : gap1 f l j (k + 1) = partA f (2 * l.length) (2 * (k + 1)) := by unfold gap1; rw [hi]; simp only [Bool.false_eq_true, if_false]; rw [if_pos ⟨hj, hf⟩]
    have e2 : gap2 f l j k = partA f (2 * l.length) (2 * k + 1) := by unfold gap2; rw [hi]; simp only [Bool.false_eq_true, if_false]; rw [if_neg (by omega), if_pos ⟨hj, hf⟩]
    have a := partA_bd (f := f) (m := 2 * l.length) (k := 2 * (k + 1)) (by omega) h1 (by omega) (by omega)
    have b := partA_bd (f := f) (m := 2 * l.length) (k := 2 * k + 1) (by omega) h1 (by omega) (by omega)
    rw [show ((2 * l.length : Nat) : Int) = 2 * (l.length : Int) by omega] at a b
    rw [e1, e2]; omega
/-- What is ahead of the first and behind the last, where no margin is automatic. -/
theorem way_ends {f : Int} {l : List Al} {j : Int} (hf : 0 < f) (h1 : f ≤ 1152921504606846976) (hl : l.length ≤ 500) (ha : autosA l = 0) {n : Nat} (hn : l.length = n + 1) :
    ((j = 0 ∨ j = 3) → startA f l j + gap1 f l j 0 = 0) ∧ (j = 1 → atA f l j (n + 1) - gap2 f l j n = f + needA l) ∧ (j = 2 → startA f l j + gap1 f l j 0 = f / 2 ∧ atA f l j (n + 1) - gap2 f l j n = f / 2 + needA l) ∧ (j = 3 → 1 < l.length → atA f l j (n + 1) - gap2 f l j n = f + needA l) := by
  have hi := noAuto_is (f := f) ha
  have ht : l.take (n + 1) = l := List.take_of_length_le (by omega)
  refine ⟨fun hj => ?_, fun hj => ?_, fun hj => ?_, fun hj h2 => ?_⟩
  · have e1 : gap1 f l j 0 = 0 := by unfold gap1; rw [hi]; simp only [Bool.false_eq_true, if_false]; rw [if_neg (by omega)]
    unfold startA; rw [hi, e1]; simp only [Bool.false_eq_true, if_false]; rw [if_neg (by omega), if_neg (by omega)]; rfl
  · have a := gaps_none (j := j) hi (by omega) (by omega) n
    have b := gaps_nil (j := j) hi (by omega) (by omega) (n + 1)
    unfold atA startA; rw [hi, a.2, b, ht]; simp only [Bool.false_eq_true, if_false]; rw [if_pos hj]; omega
  · have a := gaps_none (j := j) hi (by omega) (by omega) n
    have a0 := gaps_none (j := j) hi (by omega) (by omega) 0
    have b := gaps_nil (j := j) hi (by omega) (by omega) (n + 1)
    unfold atA startA; rw [hi, a.2, a0.1, b, ht]; simp only [Bool.false_eq_true, if_false]; rw [if_neg (by omega), if_pos hj]; omega
  · have b := gaps_betw hf h1 hl hi hj h2 (n + 1) (by omega)
    rw [show min (n + 1) (l.length - 1) = l.length - 1 by omega, ratZ_eq f _ _ (by omega) h1 (by omega) (by omega) (by omega) (Int.le_refl _), Int.mul_ediv_cancel _ (by omega)] at b
    have e2 : gap2 f l j n = 0 := by unfold gap2; rw [hi]; simp only [Bool.false_eq_true, if_false]; rw [if_pos ⟨hj, hf, h2⟩, if_neg (by omega)]
    unfold atA startA; rw [hi, e2, b, ht]; simp only [Bool.false_eq_true, if_false]; rw [if_neg (by omega), if_neg (by omega)]; omega
end Go.Proofs.Yteaenomfighaoaa
/- One block of the call's own, its cells all told, none frozen: kept over draws, stores, new blocks. No program is named here. -/
namespace Go.Proofs.Yteaenomfighaoaa
set_option linter.unusedVariables false
set_option linter.unusedSimpArgs false
open Go.RowKit

/-- Block g holds just the cells cs (of element type t), and may be written. -/
def Whole (w : World) (g : Nat) (t : TypeId) (cs : List Value) : Prop := w.heap[g]? = some (.cells cs.toArray t (0, 0))

section
variable {w w' : World} {g : Nat} {t : TypeId} {cs : List Value}
theorem Whole.size (h : Whole w g t cs) : g < w.heap.size := (Array.getElem?_eq_some_iff.1 h).1
theorem Whole.cell (h : Whole w g t cs) (i : Nat) : w.cell? ⟨g, i, none⟩ = cs[i]? := by
  rw [cell_of_row w g i cs.toArray t (0, 0) h]; simp
theorem Whole.free (h : Whole w g t cs) (i : Nat) : w.frozen? ⟨g, i, none⟩ = false := by
  have h' : w.heap[g]? = some (.cells cs.toArray t (0, 0)) := h
  simp [World.frozen?, h']
theorem Whole.mk (w : World) (t : TypeId) (cs : Array Value) : Whole (w.alloc (.cells cs t)) w.heap.size t cs.toList := by
  have h := heap_alloc_new w (.cells cs t)
  simpa [Whole] using h
theorem Whole.made (h : Whole w g t cs) (o : Obj) : Whole (w.alloc o) g t cs := (Below.heap_alloc w o g h.size).trans h
theorem Whole.drawn (h : Whole w g t cs) (n : Nat) : Whole (w.drewN n) g t cs := h
theorem Whole.undrawn {n : Nat} (h : Whole (w.drewN n) g t cs) : Whole w g t cs := h
theorem Whole.put (h : Whole w g t cs) (i : Nat) (u : Value) : Whole (w.setCell ⟨g, i, none⟩ u) g t (cs.set i u) := by
  have h' : w.heap[g]? = some (.cells cs.toArray t (0, 0)) := h
  unfold Whole
  simp [World.setCell, Array.getElem?_modify, h']
theorem Whole.other (h : Whole w g t cs) {p : Addr} (hp : g ≠ p.block) (u : Value) : Whole (w.setCell p u) g t cs := (Below.heap_setCell w p u g hp).trans h
theorem Whole.under {B : Nat} (h : Whole w g t cs) (hb : Below B w w') (hg : g < B) : Whole w' g t cs := (hb.block g hg).trans h
/-- Four cells, as the walk asks for them. -/
theorem Whole.four {a b c d : Value} (h : Whole w g t [a, b, c, d]) : w.cell? ⟨g, 0, none⟩ = some a ∧ w.cell? ⟨g, 1, none⟩ = some b ∧ w.cell? ⟨g, 2, none⟩ = some c ∧ w.cell? ⟨g, 3, none⟩ = some d :=
  ⟨h.cell 0, h.cell 1, h.cell 2, h.cell 3⟩
theorem Whole.fourFree {a b c d : Value} (h : Whole w g t [a, b, c, d]) : w.frozen? ⟨g, 0, none⟩ = false ∧ w.frozen? ⟨g, 1, none⟩ = false ∧ w.frozen? ⟨g, 2, none⟩ = false ∧ w.frozen? ⟨g, 3, none⟩ = false :=
  ⟨h.free 0, h.free 1, h.free 2, h.free 3⟩
theorem Whole.putFour {a b c d : Value} (h : Whole w g t [a, b, c, d]) (a' b' c' d' : Value) :
    Whole ((((w.setCell ⟨g, 0, none⟩ a').setCell ⟨g, 1, none⟩ b').setCell ⟨g, 2, none⟩ c').setCell ⟨g, 3, none⟩ d') g t [a', b', c', d'] := (((h.put 0 a').put 1 b').put 2 c').put 3 d'
end
end Go.Proofs.Yteaenomfighaoaa
/- A region that draws its order: its head reads, and calls what keeps a class of worlds; its tail (stores, assignments) goes in one forced order. And a class told by a parameter, so that the walk rewrites with what all its worlds have in common. No program is named here. -/
namespace Go.Proofs.Yteaenomfighaoaa
set_option linter.unusedVariables false
set_option linter.unusedSimpArgs false
open Go Go.RowKit

section
variable {P : Program} {ops : Array Oper} {md : Region.Mode} {C : World → Prop}

/-- The head's operations in whatever order they come up, each before the n-th; L behind them. -/
def headAny (P : Program) (md : Region.Mode) (ops : Array Oper) (C : World → Prop) (n : Nat) (L : Array Bool → Act → Prop) : Nat → Array Bool → Act → Prop
  | 0, listed, a => L listed a
  | f + 1, listed, a => Region.ready md ops listed ≠ [] ∧ ∀ i ∈ Region.ready md ops listed, i < n ∧ qOp P ops C i (headAny P md ops C n L f (listed.setIfInBounds i true)) a

theorem any_of_headAny {n g : Nat} {L : Array Bool → Act → Prop} {Q' : Exit → Act → World → Prop} (hL : ∀ listed a w, C w → L listed a → wpAny P md ops Q' g listed a w) :
    ∀ (f : Nat) (listed : Array Bool) (a : Act) (w : World), C w → headAny P md ops C n L f listed a → wpAny P md ops Q' (f + g) listed a w := by
  intro f
  induction f with
  | zero => intro listed a w hw h; rw [Nat.zero_add]; exact hL _ _ _ hw h
  | succ f ih =>
    intro listed a w hw h
    rw [show f + 1 + g = (f + g) + 1 by omega]
    exact ⟨fun h0 => absurd h0 h.1, fun i hi => wpOp_of_qOp hw (fun a' w' hw' h' => ih _ a' w' hw' h') (h.2 i hi).2⟩

theorem headAny_first {n i : Nat} {oi : Oper} {v : Value} {L : Array Bool → Act → Prop} (hi : ops[i]? = some oi) (hsel : ∀ (j : Nat) (o : Oper) cs b, ops[j]? = some o → o.op ≠ .select cs b)
    (hs : Region.sinkB md ops n = true) (hc : Region.chainB md ops n = true) (hn : n < ops.size) (hin : i < n) (hdone : ∀ listed a, L listed a → ∀ j ∈ Region.ready md ops listed, n ≤ j) (f : Nat) :
    ∀ (listed : Array Bool) (a : Act), HeadInv md ops n listed →
      (∀ j oj, ops[j]? = some oj → j ≠ i → listed.getD j true = false → (∀ e ∈ oj.after, Region.binds md e = true → e.on ≠ i) → oi.apart ops oj = true) →
      i ∈ Region.ready md ops listed → YieldsIn P ops C oi v a →
      headAny P md ops C n L f (listed.setIfInBounds i true) (a.put oi.dst v) → headAny P md ops C n L (f + 1) listed a := by
  induction f with
  | zero =>
    intro listed a inv _ hr hy H
    have hun := (mem_ready.1 hr).1
    refine ⟨fun h => (by rw [h] at hr; cases hr), fun j hj => ?_⟩
    have hjn : j < n := Nat.lt_of_not_le fun h => tail_waits hs hc hn inv _ i rfl hin hun j h hj
    by_cases e : j = i
    · subst e; exact ⟨hjn, hy.qOp hi H⟩
    · have := hdone _ _ H j (ready_mono hj e); omega
  | succ f ih =>
    intro listed a inv hfree hr hy H
    have hun := (mem_ready.1 hr).1
    refine ⟨fun h => (by rw [h] at hr; cases hr), fun j hj => ?_⟩
    have hjn : j < n := Nat.lt_of_not_le fun h => tail_waits hs hc hn inv _ i rfl hin hun j h hj
    by_cases e : j = i
    · subst e; exact ⟨hjn, hy.qOp hi H⟩
    · obtain ⟨hjun, oj, hoj, hall⟩ := mem_ready.1 hj
      have hnot : ∀ e ∈ oj.after, Region.binds md e = true → e.on ≠ i := fun e he hb heq => by
        have h1 := hall e he hb
        rw [heq, getD_both hun] at h1
        cases h1
      refine ⟨hjn, qOp_mono (fun a' h3 => ih (listed.setIfInBounds j true) a' (inv.set hj hjn) (fun k ok hk hki hk1 hno => hfree k ok hk hki ?_ hno) (ready_mono hr (Ne.symm e)) h3.1 ?_)
        (qOp_put hoj (hfree j oj hoj e hjun hnot) (fun cs b => hsel i oi cs b hi) (fun cs b => hsel j oj cs b hoj) hy (H.2 j (ready_mono hj e)).2)⟩
      · by_cases hjk : j = k
        · subst hjk; exact hjun
        · rw [getD_set_ne true hjk] at hk1; exact hk1
      · rw [Array.setIfInBounds_comm _ _ e]; exact h3.2

theorem headAny_lex {n g : Nat} {Lq : Act → Prop} (hsel : Region.noSelect ops = true) (hs : Region.sinkB md ops n = true) (hc : Region.chainB md ops n = true) (hn : n < ops.size) (l : List Oper) :
    ∀ (k : Nat) (listed : Array Bool) (a : Act), (∀ j, j < l.length → l[j]? = ops[k + j]?) → k + l.length = n → HeadInv md ops n listed →
    Region.lexHead md ops g l.length k listed = true → wpQuiet P ops C Lq l a → headAny P md ops C n (fun listed' a' => Region.seqB md ops g n listed' = true ∧ Lq a') l.length listed a := by
  induction l with
  | nil =>
    intro k listed a _ hk _ hB h
    obtain rfl : k = n := by simpa using hk
    exact ⟨by simpa [Region.lexHead] using hB, h⟩
  | cons o l ih =>
    intro k listed a hl hk inv hB h
    have h0 : ops[k]? = some o := by simpa using (hl 0 (by simp)).symm
    simp only [List.length_cons, Region.lexHead, Bool.and_eq_true] at hB
    obtain ⟨⟨hr, hf⟩, hB'⟩ := hB
    simp only [List.length_cons] at hk
    have hr' : k ∈ Region.ready md ops listed := by simpa using hr
    have hst : qOp P ops C k (wpQuiet P ops C Lq l) a := by unfold qOp; simp only [h0]; exact h
    obtain ⟨v, hy, hK⟩ := yieldsIn_of_qOp h0 hst
    refine headAny_first h0 (Region.noSelect_spec hsel) hs hc hn (by omega) (fun listed' a' hL => seqB_ready hL.1) l.length listed a inv (Region.free_spec h0 hf) hr' hy
      (ih (k + 1) _ _ (fun j hj => ?_) (by omega) (inv.set hr' (by omega)) hB' hK)
    have := hl (j + 1) (by simp; omega)
    simpa [Nat.add_assoc, Nat.add_comm 1 j] using this

/-- The head in the text's order, once, over the class; then the tail as a list. -/
theorem region_class_tail {id : Nat} {Q : Exit → Act → World → Prop} {a : Act} {w : World} {l : List Oper} (n : Nat) (hm : P.follows .mixedOrders = true) (hB : Region.lexTailB .any l.toArray n = true) (hC : C { w with drawn := w.drawn + 1 })
    (h : wpQuiet P l.toArray C (fun a' => ∀ w', C w' → wpList P l.toArray Q (l.drop n) a' w') (l.take n) a) : (Code.region id l.toArray true).wp P Q a w := by
  simp only [Region.lexTailB, Bool.and_eq_true, decide_eq_true_eq] at hB
  obtain ⟨⟨⟨⟨hsel, hn⟩, hs⟩, hc⟩, hlex⟩ := hB
  have hn' : n < l.length := by simpa using hn
  have htl : (l.take n).length = n := by simp; omega
  have hdl : (l.drop n).length = l.toArray.size - n := by simp
  have inv0 : HeadInv .any l.toArray n (Array.replicate l.toArray.size false) :=
    ⟨by simp, fun j oj _ hl => (by rw [getD_replicate_false] at hl; cases hl), fun t _ ht => getD_in (by simpa using ht) (getD_replicate_false _ _)⟩
  have H := headAny_lex (md := .any) (g := l.toArray.size - n) hsel hs hc hn (l.take n) 0 _ a (fun j hj => by
    have hj' : j < n := by rw [htl] at hj; exact hj
    simp [hj']) (by simpa using htl) inv0 (by rw [htl]; exact hlex) h
  refine wp_region_any hm ?_
  have := any_of_headAny (Q' := Q) (g := l.toArray.size - n) (fun listed a' w' hw' hL => by
    have := wpAny_of_seq (md := .any) (Q' := Q) (l.drop n) n listed a' w' (fun j => by simp [List.getElem?_drop]) (by rw [hdl]; exact hL.1) (hL.2 w' hw')
    rwa [hdl] at this) _ _ _ _ hC H
  rw [htl, show n + (l.toArray.size - n) = l.toArray.size by omega] at this
  exact this
end

/-- A world that differs from w0 in blocks from B on alone. -/
structure Later (B : Nat) (w0 : World) where
  w : World
  h : Below B w0 w
instance laterSome {B : Nat} {w0 : World} : Nonempty (Later B w0) := ⟨⟨w0, Below.refl _ _⟩⟩
theorem Later.drawn {B : Nat} {w0 : World} (hb : Below B w0 w0) : ∃ s : Later B w0, ({ w0 with drawn := w0.drawn + 1 } : World) = s.w := ⟨⟨{ w0 with drawn := w0.drawn + 1 }, ⟨hb.os, hb.tape, hb.output, hb.size, hb.block⟩⟩, rfl⟩
theorem later_call {P : Program} {f : FuncId} {args : Array Value} {B : Nat} {w0 : World} {v : Value} (s : Later B w0) (hB : B ≤ w0.heap.size) (h : Calls P f args s.w fun e w' => e = .returned v ∧ Below s.w.heap.size s.w w') :
    Calls P f args s.w fun e w'' => e = .returned v ∧ ∃ s' : Later B w0, w'' = s'.w :=
  h.mono fun _ w' ⟨he, hb⟩ => ⟨he, ⟨w', s.h.trans (hb.mono (Nat.le_trans hB s.h.size))⟩, rfl⟩
theorem later_same {P : Program} {f : FuncId} {args : Array Value} {B : Nat} {w0 : World} {v : Value} (s : Later B w0) (h : Calls P f args s.w fun e w' => e = .returned v ∧ s.w = w') :
    Calls P f args s.w fun e w'' => e = .returned v ∧ ∃ s' : Later B w0, w'' = s'.w :=
  h.mono fun _ _ ⟨he, hb⟩ => ⟨he, s, hb.symm⟩
theorem region_later {P : Program} {id : Nat} {Q : Exit → Act → World → Prop} {a : Act} {w : World} {l : List Oper} (hm : P.follows .mixedOrders = true) (hB : Region.lexB .any l.toArray = true)
    (h : wpQuiet P l.toArray (fun w' => ∃ s : Later w.heap.size w, w' = s.w) (fun a' => ∀ w', (∃ s : Later w.heap.size w, w' = s.w) → Q .normal a' w') l a) : (Code.region id l.toArray true).wp P Q a w :=
  wp_region_quiet (C := fun w' => ∃ s : Later w.heap.size w, w' = s.w) hm hB (Later.drawn (Below.refl _ _)) (by simpa using h)
theorem region_later_tail {P : Program} {id : Nat} {Q : Exit → Act → World → Prop} {a : Act} {w : World} {l : List Oper} (n : Nat) (hm : P.follows .mixedOrders = true) (hB : Region.lexTailB .any l.toArray n = true)
    (h : wpQuiet P l.toArray (fun w' => ∃ s : Later w.heap.size w, w' = s.w) (fun a' => ∀ w', (∃ s : Later w.heap.size w, w' = s.w) → wpList P l.toArray Q (l.drop n) a' w') (l.take n) a) : (Code.region id l.toArray true).wp P Q a w :=
  region_class_tail n hm hB (Later.drawn (Below.refl _ _)) h
end Go.Proofs.Yteaenomfighaoaa
/- Regions that draw their order, met by promises: each operation of the head tells, of what it looks at alone, what it yields; then any order goes. No program is named here. -/
namespace Go.Proofs.Yteaenomfighaoaa
set_option linter.unusedVariables false
set_option linter.unusedSimpArgs false
open Go Go.RowKit

section
variable {P : Program} {ops : Array Oper}

/-- w' lies behind w: what was there is there. -/
def Behind (w w' : World) : Prop := Below w.heap.size w w'
theorem Behind.refl (w : World) : Behind w w := Below.refl _ _
theorem Behind.trans {a b c : World} (h : Behind a b) (k : Behind b c) : Behind a c := Below.trans h (Below.mono k h.size)
theorem Behind.drawn (w : World) : Behind w { w with drawn := w.drawn + 1 } := ⟨rfl, rfl, rfl, Nat.le_refl _, fun _ _ => rfl⟩

/-- What is told of a slot's value. -/
abbrev Told := Value → World → Prop
def Steady (T : Told) : Prop := ∀ v w w', Behind w w' → T v w → T v w'
theorem steady_eq (u : Value) : Steady fun v _ => v = u := fun _ _ _ _ h => h

def gives (P : Program) (o : Oper) (a : Act) (w : World) (T : Told) : Prop :=
  match (execOp a.eval o).run P w with
  | .ok (.value v) w' => Behind w w' ∧ T v w'
  | .ok .skip w' => Behind w w' ∧ T undef w'
  | .ok (.enter f args) w' => Behind w w' ∧ Calls P f args w' fun e w'' => ∃ v, e = .returned v ∧ Behind w' w'' ∧ T v w''
  | _ => False
def givesIf (P : Program) (ops : Array Oper) (o : Oper) (a : Act) (w : World) (T : Told) : Prop :=
  (Region.wanted o (yielded ops a.tmps) = true ∧ gives P o a w T) ∨ (Region.wanted o (yielded ops a.tmps) = false ∧ T undef w)

theorem wpOp_of_gives {Q : Exit → Act → World → Prop} {i : Nat} {o : Oper} {K : Act → World → Prop} {a : Act} {w : World} {T : Told} (hi : ops[i]? = some o) (h : givesIf P ops o a w T)
    (hK : ∀ v w', Behind w w' → T v w' → K (a.put o.dst v) w') : wpOp P ops Q i K a w := by
  unfold wpOp
  simp only [hi]
  rcases h with ⟨hw, h⟩ | ⟨hw, h⟩
  · rw [if_pos hw]
    refine .inl ?_
    unfold Oper.wp
    unfold gives at h
    generalize (execOp a.eval o).run P w = r at *
    cases r with
    | halt x w' => exact h.elim
    | ok n w' =>
      cases n <;> simp only [Oper.upon] at h ⊢
      case value v => exact hK _ _ h.1 h.2
      case skip => exact hK _ _ h.1 h.2
      case enter f args =>
        refine h.2.mono fun e w'' he => ?_
        obtain ⟨v, rfl, h1, h2⟩ := he
        exact hK _ _ (h.1.trans h1) h2
  · rw [if_neg (by rw [hw]; exact Bool.false_ne_true)]
    exact hK _ _ (Behind.refl w) h

/-- .. by the walk's own law, whatever follows. -/
def givesBy (P : Program) (ops : Array Oper) (o : Oper) (a : Act) (w : World) (T : Told) : Prop :=
  Region.wanted o (yielded ops a.tmps) = true ∧ ∀ (K : Act → World → Prop) (Q : Exit → Act → World → Prop), (∀ v w', Behind w w' → T v w' → K (a.put o.dst v) w') → o.wp P a w K Q
theorem wpOp_of_givesBy {Q : Exit → Act → World → Prop} {i : Nat} {o : Oper} {K : Act → World → Prop} {a : Act} {w : World} {T : Told} (hi : ops[i]? = some o) (h : givesBy P ops o a w T)
    (hK : ∀ v w', Behind w w' → T v w' → K (a.put o.dst v) w') : wpOp P ops Q i K a w := by
  unfold wpOp
  simp only [hi]
  rw [if_pos h.1]
  exact .inl (h.2 K Q hK)

/-- What is told of all slots. -/
abbrev Env := Tmp → Told
def upd (E : Env) (d : Option Tmp) (T : Told) : Env := fun t => if d = some t then T else E t
def dstOf (ops : Array Oper) (k : Nat) : Option Tmp := (ops[k]?).bind (·.dst)
def looksOf (ops : Array Oper) (k : Nat) : List Tmp := ((ops[k]?).map (·.looksAt ops)).getD []
def meets (E : Env) (ts : List Tmp) (a : Act) (w : World) : Prop := ∀ t ∈ ts, E t (a.tmps.getD t undef) w
/-- What operation o owes. -/
def owes (P : Program) (ops : Array Oper) (w0 : World) (E : Env) (o : Oper) (T : Told) : Prop :=
  Steady T ∧ ∀ a w, Behind w0 w → meets E (o.looksAt ops) a w → givesIf P ops o a w T ∨ givesBy P ops o a w T

def lane (P : Program) (ops : Array Oper) (w0 : World) (Fin : Env → Prop) : List Nat → Env → Prop
  | [], E => Fin E
  | k :: r, E => ∃ o T, ops[k]? = some o ∧ owes P ops w0 E o T ∧ lane P ops w0 Fin r (upd E o.dst T)

/-- The environment behind the operations pre, by their promises. -/
def envAt (ops : Array Oper) (Ts : Nat → Told) (pre : List Nat) (E : Env) : Env := pre.foldl (fun E j => upd E (dstOf ops j) (Ts j)) E
theorem envAt_congr {Ts Ts' : Nat → Told} (pre : List Nat) : ∀ (E : Env), (∀ j ∈ pre, Ts j = Ts' j) → envAt ops Ts pre E = envAt ops Ts' pre E := by
  induction pre with
  | nil => intro E _; rfl
  | cons j r ih =>
    intro E h
    simp only [envAt, List.foldl_cons]
    rw [h j (by simp)]
    exact ih _ fun i hi => h i (by simp [hi])
theorem lane_all {w0 : World} {Fin : Env → Prop} (hs : List Nat) : ∀ (E : Env), hs.Nodup → lane P ops w0 Fin hs E →
    ∃ Ts : Nat → Told, (∀ pre k post, hs = pre ++ k :: post → ∃ o, ops[k]? = some o ∧ owes P ops w0 (envAt ops Ts pre E) o (Ts k)) ∧ Fin (envAt ops Ts hs E) := by
  induction hs with
  | nil =>
    intro E _ h
    exact ⟨fun _ _ _ => True, fun pre k post e => by simp at e, h⟩
  | cons k r ih =>
    intro E hn h
    obtain ⟨o, T, ho, hT, hr⟩ := h
    obtain ⟨hk, hn⟩ := List.nodup_cons.1 hn
    have hd : dstOf ops k = o.dst := by simp [dstOf, ho]
    obtain ⟨Ts, h1, h2⟩ := ih _ hn hr
    have hne : ∀ j ∈ r, j ≠ k := fun j hj e => hk (e ▸ hj)
    refine ⟨fun i => if i = k then T else Ts i, fun pre k' post e => ?_, ?_⟩
    · cases pre with
      | nil =>
        simp only [List.nil_append, List.cons.injEq] at e
        obtain ⟨rfl, rfl⟩ := e
        exact ⟨o, ho, by simpa [envAt] using hT⟩
      | cons j pre =>
        simp only [List.cons_append, List.cons.injEq] at e
        obtain ⟨rfl, rfl⟩ := e
        obtain ⟨o', ho', h'⟩ := h1 pre k' post rfl
        have hk' : k' ≠ k := hne k' (by simp)
        refine ⟨o', ho', ?_⟩
        have e1 : envAt ops (fun i => if i = k then T else Ts i) (k :: pre) E = envAt ops Ts pre (upd E o.dst T) := by
          simp only [envAt, List.foldl_cons, if_pos, hd]
          exact envAt_congr pre _ fun j hj => by rw [if_neg (hne j (by simp [hj]))]
        rw [e1]
        simpa [hk'] using h'
    · have e1 : envAt ops (fun i => if i = k then T else Ts i) (k :: r) E = envAt ops Ts r (upd E o.dst T) := by
        simp only [envAt, List.foldl_cons, if_pos, hd]
        exact envAt_congr r _ fun j hj => by rw [if_neg (hne j hj)]
      rw [e1]; exact h2

theorem envAt_at {Ts : Nat → Told} {t : Tmp} {v : Value} {w : World} (pre : List Nat) : ∀ (E : Env), (∀ j ∈ pre, dstOf ops j = some t → Ts j v w) → ((∀ j ∈ pre, dstOf ops j ≠ some t) → E t v w) → envAt ops Ts pre E t v w := by
  induction pre with
  | nil => intro E _ h; exact h (by simp)
  | cons j r ih =>
    intro E h1 h2
    simp only [envAt, List.foldl_cons]
    refine ih _ (fun i hi => h1 i (by simp [hi])) fun h3 => ?_
    unfold upd
    split
    · rename_i e; exact h1 j (by simp) e
    · rename_i e; exact h2 fun i hi => by
        rcases List.mem_cons.1 hi with rfl | hi
        · exact e
        · exact h3 i hi

/-- The operations that must come up ahead of the t-th. -/
def edges (md : Region.Mode) (ops : Array Oper) (t : Nat) : List Nat := ((ops[t]?).map fun o => (o.after.toList.filter fun e => Region.binds md e).map (·.on)).getD []
def needsFrom (md : Region.Mode) (ops : Array Oper) : Nat → List Nat → List Nat
  | 0, acc => acc
  | i + 1, acc => needsFrom md ops i (if acc.contains i then edges md ops i ++ acc else acc)
def needs (md : Region.Mode) (ops : Array Oper) (t : Nat) : List Nat := needsFrom md ops ops.size (edges md ops t)

variable {md : Region.Mode}
theorem mem_edges {t j : Nat} : j ∈ edges md ops t ↔ ∃ o, ops[t]? = some o ∧ ∃ e ∈ o.after, Region.binds md e = true ∧ e.on = j := by
  unfold edges
  cases h : ops[t]? with
  | none => simp
  | some o => simp [and_assoc]
theorem mem_ready' {t : Nat} {listed : Array Bool} : t ∈ Region.ready md ops listed ↔ listed.getD t true = false ∧ t < ops.size ∧ ∀ j ∈ edges md ops t, listed.getD j false = true := by
  rw [mem_ready]
  constructor
  · rintro ⟨h0, o, ho, h⟩
    refine ⟨h0, (Array.getElem?_eq_some_iff.1 ho).1, fun j hj => ?_⟩
    obtain ⟨o', ho', e, he, hb, rfl⟩ := mem_edges.1 hj
    obtain rfl : o' = o := Option.some.inj (ho'.symm.trans ho)
    exact h e he hb
  · rintro ⟨h0, hlt, h⟩
    exact ⟨h0, ops[t], Array.getElem?_eq_getElem hlt, fun e he hb => h _ (mem_edges.2 ⟨_, Array.getElem?_eq_getElem hlt, e, he, hb, rfl⟩)⟩
def Closed (md : Region.Mode) (ops : Array Oper) (listed : Array Bool) : Prop := ∀ i, listed.getD i false = true → ∀ j ∈ edges md ops i, listed.getD j false = true
theorem needsFrom_listed {listed : Array Bool} (hc : Closed md ops listed) : ∀ (i : Nat) (acc : List Nat), (∀ j ∈ acc, listed.getD j false = true) → ∀ j ∈ needsFrom md ops i acc, listed.getD j false = true
  | 0, _, h => h
  | i + 1, acc, h => by
    refine needsFrom_listed hc i _ fun j hj => ?_
    split at hj
    · rename_i hi
      rcases List.mem_append.1 hj with hj | hj
      · exact hc i (h i (by simpa using hi)) j hj
      · exact h j hj
    · exact h j hj
theorem needs_listed {listed : Array Bool} (hc : Closed md ops listed) {t : Nat} (h : ∀ j ∈ edges md ops t, listed.getD j false = true) : ∀ j ∈ needs md ops t, listed.getD j false = true := needsFrom_listed hc _ _ h

/-- Who looks at what another one leaves comes behind it, or ahead of it, in every order; no two leave the same. -/
def pairsB (md : Region.Mode) (ops : Array Oper) : List Nat → Bool
  | [] => true
  | k :: r => (r.all fun j => (!((looksOf ops j).any fun t => dstOf ops k == some t) || (needs md ops j).contains k) && (!((looksOf ops k).any fun t => dstOf ops j == some t) || (needs md ops j).contains k) && !(dstOf ops j == dstOf ops k)) && pairsB md ops r
def inTurnB (md : Region.Mode) (ops : Array Oper) (L0 : Array Bool) : List Nat → List Nat → Bool
  | _, [] => true
  | pre, k :: r => ((edges md ops k).all fun j => pre.contains j || L0.getD j false) && inTurnB md ops L0 (pre ++ [k]) r
def headB (ops : Array Oper) (size : Nat) (L0 : Array Bool) (hs : List Nat) : Bool := hs.all fun k => decide (k < ops.size) && (match dstOf ops k with | some d => decide (d < size) | none => false) && !L0.getD k false
def tailB (md : Region.Mode) (ops : Array Oper) (L0 : Array Bool) (hs : List Nat) : Bool := (List.range ops.size).all fun t => hs.contains t || L0.getD t false || hs.all fun k => (needs md ops t).contains k
def laneB (md : Region.Mode) (ops : Array Oper) (size : Nat) (L0 : Array Bool) (hs : List Nat) : Bool := pairsB md ops hs && inTurnB md ops L0 [] hs && headB ops size L0 hs && tailB md ops L0 hs
def listedAll (ops : Array Oper) (L0 : Array Bool) (hs : List Nat) : Array Bool := ((List.range ops.size).map fun i => L0.getD i false || hs.contains i).toArray

theorem pairsB_spec : ∀ (hs : List Nat), pairsB md ops hs = true → hs.Nodup ∧ ∀ pre k post, hs = pre ++ k :: post → ∀ j ∈ post,
    ((∃ t ∈ looksOf ops j, dstOf ops k = some t) → k ∈ needs md ops j) ∧ ((∃ t ∈ looksOf ops k, dstOf ops j = some t) → k ∈ needs md ops j) ∧ dstOf ops j ≠ dstOf ops k
  | [], _ => ⟨List.nodup_nil, fun pre k post e => by simp at e⟩
  | k :: r, h => by
    simp only [pairsB, Bool.and_eq_true, List.all_eq_true] at h
    obtain ⟨h1, h2⟩ := h
    obtain ⟨hn, ih⟩ := pairsB_spec r h2
    have h3 : ∀ j ∈ r, ((∃ t ∈ looksOf ops j, dstOf ops k = some t) → k ∈ needs md ops j) ∧ ((∃ t ∈ looksOf ops k, dstOf ops j = some t) → k ∈ needs md ops j) ∧ dstOf ops j ≠ dstOf ops k := fun j hj => by
      obtain ⟨⟨a1, a2⟩, a3⟩ := h1 j hj
      refine ⟨fun ⟨t, ht, e⟩ => ?_, fun ⟨t, ht, e⟩ => ?_, by simpa using a3⟩
      · simp only [Bool.or_eq_true, Bool.not_eq_true', List.contains_iff_mem] at a1
        exact a1.resolve_left fun hf => by
          rw [List.any_eq_false] at hf
          exact hf t ht (by simp [e])
      · simp only [Bool.or_eq_true, Bool.not_eq_true', List.contains_iff_mem] at a2
        exact a2.resolve_left fun hf => by
          rw [List.any_eq_false] at hf
          exact hf t ht (by simp [e])
    refine ⟨List.nodup_cons.2 ⟨fun hk => (h3 k hk).2.2 rfl, hn⟩, fun pre k' post e j hj => ?_⟩
    cases pre with
    | nil =>
      simp only [List.nil_append, List.cons.injEq] at e
      obtain ⟨rfl, rfl⟩ := e
      exact h3 j hj
    | cons x pre =>
      simp only [List.cons_append, List.cons.injEq] at e
      exact ih pre k' post e.2 j hj
theorem inTurnB_spec (L0 : Array Bool) : ∀ (hs pre0 : List Nat), inTurnB md ops L0 pre0 hs = true → ∀ pre k post, hs = pre ++ k :: post → ∀ j ∈ edges md ops k, j ∈ pre0 ∨ j ∈ pre ∨ L0.getD j false = true
  | [], _, _ => fun pre k post e => by simp at e
  | x :: r, pre0, h => by
    simp only [inTurnB, Bool.and_eq_true, List.all_eq_true, Bool.or_eq_true, List.contains_iff_mem] at h
    obtain ⟨h1, h2⟩ := h
    intro pre k post e j hj
    cases pre with
    | nil =>
      simp only [List.nil_append, List.cons.injEq] at e
      obtain ⟨rfl, rfl⟩ := e
      rcases h1 j hj with h | h
      · exact .inl h
      · exact .inr (.inr h)
    | cons y pre =>
      simp only [List.cons_append, List.cons.injEq] at e
      obtain ⟨rfl, e⟩ := e
      rcases inTurnB_spec L0 r _ h2 pre k post e j hj with h | h | h
      · rcases List.mem_append.1 h with h | h
        · exact .inl h
        · exact .inr (.inl (by simp at h; simp [h]))
      · exact .inr (.inl (by simp [h]))
      · exact .inr (.inr h)

/-- How it stands in the middle of a region, whatever has come up. -/
structure Mid (md : Region.Mode) (ops : Array Oper) (w0 : World) (a0 : Act) (L0 : Array Bool) (hs : List Nat) (E0 : Env) (Ts : Nat → Told) (listed : Array Bool) (a : Act) (w : World) : Prop where
  behind : Behind w0 w
  size : listed.size = ops.size
  defers : a.defers = a0.defers
  tsize : a.tmps.size = a0.tmps.size
  closed : Closed md ops listed
  first : ∀ i, L0.getD i false = true → listed.getD i false = true
  only : ∀ i, listed.getD i false = true → L0.getD i false = true ∨ i ∈ hs
  told : ∀ t, ∀ k ∈ hs, listed.getD k false = true → dstOf ops k = some t → Ts k (a.tmps.getD t undef) w
  rest : ∀ t, (∀ k ∈ hs, listed.getD k false = true → dstOf ops k ≠ some t) → E0 t (a.tmps.getD t undef) w

theorem getD_of_size {listed : Array Bool} {i : Nat} (h : listed.getD i true = false) : listed.getD i false = false := getD_both h
theorem getD_back {listed : Array Bool} {i : Nat} (hi : i < listed.size) (h : ¬ listed.getD i false = true) : listed.getD i true = false := getD_in hi (by simpa using h)
theorem set_getD {listed : Array Bool} {i j : Nat} (hi : i < listed.size) : (listed.setIfInBounds i true).getD j false = true ↔ j = i ∨ listed.getD j false = true := by
  by_cases h : i = j
  · subst h; simp [hi]
  · rw [getD_set_ne false h]; constructor
    · exact .inr
    · rintro (rfl | h')
      · exact absurd rfl h
      · exact h'
theorem put_getD (a : Act) (d t : Tmp) (v : Value) (hd : d < a.tmps.size) : (a.put (some d) v).tmps.getD t undef = if d = t then v else a.tmps.getD t undef := by
  simp only [Act.put]
  by_cases h : d = t
  · subst h; simp [hd]
  · simp [h, Array.getElem?_setIfInBounds_ne h]

section
variable {w0 : World} {a0 : Act} {L0 : Array Bool} {hs : List Nat} {E0 : Env} {Ts : Nat → Told} {g : Nat} {Q : Exit → Act → World → Prop}
theorem Mid.step (hB : laneB md ops a0.tmps.size L0 hs = true) (hE : ∀ t, Steady (E0 t)) (hT : ∀ k ∈ hs, Steady (Ts k)) {listed : Array Bool} {a : Act} {w : World} (m : Mid md ops w0 a0 L0 hs E0 Ts listed a w) {k : Nat} (hk : k ∈ hs)
    (hr : k ∈ Region.ready md ops listed) {v : Value} {w' : World} (hb : Behind w w') (hv : Ts k v w') : Mid md ops w0 a0 L0 hs E0 Ts (listed.setIfInBounds k true) (a.put (dstOf ops k) v) w' := by
  simp only [laneB, Bool.and_eq_true] at hB
  obtain ⟨⟨⟨hp, hi⟩, hh⟩, ht⟩ := hB
  obtain ⟨hn, hpair⟩ := pairsB_spec hs hp
  obtain ⟨hun, hlt, hed⟩ := mem_ready'.1 hr
  have hlt' : k < listed.size := by rw [m.size]; exact hlt
  simp only [headB, List.all_eq_true, Bool.and_eq_true] at hh
  obtain ⟨⟨_, hd⟩, _⟩ := hh k hk
  obtain ⟨d, hd', hds⟩ : ∃ d, dstOf ops k = some d ∧ d < a.tmps.size := by
    cases e : dstOf ops k with
    | none => rw [e] at hd; cases hd
    | some d => rw [e] at hd; exact ⟨d, rfl, by rw [m.tsize]; simpa using hd⟩
  have hne : ∀ j ∈ hs, j ≠ k → dstOf ops j ≠ some d := fun j hj hjk e => by
    obtain ⟨pre, post, rfl⟩ := List.append_of_mem hk
    rcases List.mem_append.1 hj with hj | hj
    · obtain ⟨p1, p2, rfl⟩ := List.append_of_mem hj
      exact (hpair p1 j (p2 ++ k :: post) (by simp) k (by simp)).2.2 (hd'.trans e.symm)
    · rcases List.mem_cons.1 hj with rfl | hj
      · exact hjk rfl
      · exact (hpair pre k post rfl j hj).2.2 (e.trans hd'.symm)
  rw [hd']
  refine ⟨m.behind.trans hb, by simp [m.size], by simp [Act.put, m.defers], by simp [Act.put, m.tsize], fun i hi' j hj => ?_, fun i h => (set_getD hlt').2 (.inr (m.first i h)), fun i h => ?_, fun t j hj hl e => ?_, fun t h => ?_⟩
  · refine (set_getD hlt').2 (.inr ?_)
    rcases (set_getD hlt').1 hi' with rfl | h
    · exact hed j hj
    · exact m.closed i h j hj
  · rcases (set_getD hlt').1 h with rfl | h
    · exact .inr hk
    · exact m.only i h
  · rw [put_getD a d t v hds]
    by_cases hjk : j = k
    · subst hjk
      rw [hd'] at e
      injection e with e
      rw [if_pos e]; exact hv
    · have hjl : listed.getD j false = true := ((set_getD hlt').1 hl).resolve_left hjk
      rw [if_neg (fun e' => hne j hj hjk (e.trans (by rw [e'])))]
      exact hT j hj _ _ _ hb (m.told t j hj hjl e)
  · rw [put_getD a d t v hds]
    have hdt : d ≠ t := fun e => h k hk ((set_getD hlt').2 (.inl rfl)) (by rw [hd', e])
    rw [if_neg hdt]
    exact hE t _ _ _ hb (m.rest t fun j hj hl => h j hj ((set_getD hlt').2 (.inr hl)))

theorem Mid.meets (hB : laneB md ops a0.tmps.size L0 hs = true) {listed : Array Bool} {a : Act} {w : World} (m : Mid md ops w0 a0 L0 hs E0 Ts listed a w) {pre post : List Nat} {k : Nat} (e : hs = pre ++ k :: post) (hr : k ∈ Region.ready md ops listed) :
    meets (envAt ops Ts pre E0) (looksOf ops k) a w := by
  simp only [laneB, Bool.and_eq_true] at hB
  obtain ⟨⟨⟨hp, hi⟩, hh⟩, ht⟩ := hB
  obtain ⟨hn, hpair⟩ := pairsB_spec hs hp
  obtain ⟨hun, hlt, hed⟩ := mem_ready'.1 hr
  have hnk := needs_listed m.closed hed
  intro t hl
  have hpre : ∀ j ∈ pre, dstOf ops j = some t → listed.getD j false = true := fun j hj e' => by
    obtain ⟨p1, p2, rfl⟩ := List.append_of_mem hj
    exact hnk j ((hpair p1 j (p2 ++ k :: post) (by rw [e]; simp) k (by simp)).1 ⟨t, hl, e'⟩)
  refine envAt_at pre E0 (fun j hj e' => m.told t j (by rw [e]; simp [hj]) (hpre j hj e') e') fun h => m.rest t fun j hj hjl e' => ?_
  rw [e] at hj
  rcases List.mem_append.1 hj with hj | hj
  · exact h j hj e'
  · rcases List.mem_cons.1 hj with rfl | hj
    · rw [getD_of_size hun] at hjl; cases hjl
    · have hk := (hpair pre k post e j hj).2.1 ⟨t, hl, e'⟩
      have := needs_listed m.closed (m.closed j hjl) k hk
      rw [getD_of_size hun] at this; cases this

theorem Mid.done {listed : Array Bool} {a : Act} {w : World} (m : Mid md ops w0 a0 L0 hs E0 Ts listed a w) (hf : (hs.filter fun k => !listed.getD k false).length = 0) : listed = listedAll ops L0 hs ∧ ∀ t, envAt ops Ts hs E0 t (a.tmps.getD t undef) w := by
  have hall : ∀ k ∈ hs, listed.getD k false = true := fun k hk => by
    rw [List.length_eq_zero_iff, List.filter_eq_nil_iff] at hf
    simpa using hf k hk
  refine ⟨Array.ext (by simp [listedAll, m.size]) fun i h1 h2 => ?_, fun t => envAt_at hs E0 (fun j hj e => m.told t j hj (hall j hj) e) fun h => m.rest t fun j hj _ => h j hj⟩
  have hg : listed.getD i false = listed[i] := by simp [h1]
  rw [← hg]
  have : (listedAll ops L0 hs)[i] = (L0.getD i false || hs.contains i) := by simp [listedAll]
  rw [this, Bool.eq_iff_iff]
  simp only [Bool.or_eq_true, List.contains_iff_mem]
  exact ⟨m.only i, fun h => h.elim (m.first i) (hall i)⟩
theorem Mid.more (hB : laneB md ops a0.tmps.size L0 hs = true) {listed : Array Bool} {a : Act} {w : World} (m : Mid md ops w0 a0 L0 hs E0 Ts listed a w) (hf : (hs.filter fun k => !listed.getD k false).length ≠ 0) (h0 : Region.ready md ops listed = []) : False := by
  simp only [laneB, Bool.and_eq_true] at hB
  obtain ⟨⟨⟨hp, hi⟩, hh⟩, ht⟩ := hB
  obtain ⟨k, pre, post, e, hkl, hprel⟩ : ∃ k pre post, hs = pre ++ k :: post ∧ listed.getD k false = false ∧ ∀ j ∈ pre, listed.getD j false = true := by
    have : ∀ (l : List Nat), (l.filter fun k => !listed.getD k false).length ≠ 0 → ∃ k pre post, l = pre ++ k :: post ∧ listed.getD k false = false ∧ ∀ j ∈ pre, listed.getD j false = true := by
      intro l
      induction l with
      | nil => intro h; simp at h
      | cons x r ihr =>
        intro h
        by_cases hx : listed.getD x false = true
        · rw [List.filter_cons_of_neg (by simp only [hx, Bool.not_true, Bool.false_eq_true, not_false_eq_true])] at h
          obtain ⟨k, pre, post, e, h1, h2⟩ := ihr h
          exact ⟨k, x :: pre, post, by rw [e]; rfl, h1, fun j hj => (List.mem_cons.1 hj).elim (fun e => e ▸ hx) (h2 j)⟩
        · exact ⟨x, [], r, rfl, by simpa using hx, by simp⟩
    exact this hs hf
  have hk : k ∈ hs := by rw [e]; simp
  simp only [headB, List.all_eq_true, Bool.and_eq_true, decide_eq_true_eq] at hh
  have hlt := (hh k hk).1.1
  have : k ∈ Region.ready md ops listed := mem_ready'.2 ⟨getD_in (by rw [m.size]; exact hlt) hkl, hlt, fun j hj => by
    rcases inTurnB_spec L0 hs [] hi pre k post e j hj with h | h | h
    · cases h
    · exact hprel j h
    · exact m.first j h⟩
  rw [h0] at this
  cases this
theorem Mid.turn (hB : laneB md ops a0.tmps.size L0 hs = true) {listed : Array Bool} {a : Act} {w : World} (m : Mid md ops w0 a0 L0 hs E0 Ts listed a w) (hf : (hs.filter fun k => !listed.getD k false).length ≠ 0) {k : Nat} (hk : k ∈ Region.ready md ops listed) :
    k ∈ hs ∧ (hs.filter fun j => !(listed.setIfInBounds k true).getD j false).length + 1 = (hs.filter fun j => !listed.getD j false).length := by
  simp only [laneB, Bool.and_eq_true] at hB
  obtain ⟨⟨⟨hp, hi⟩, hh⟩, ht⟩ := hB
  obtain ⟨hun, hlt, hed⟩ := mem_ready'.1 hk
  have hkl := getD_of_size hun
  have hks : k ∈ hs := by
    simp only [tailB, List.all_eq_true, Bool.or_eq_true, List.mem_range, List.contains_iff_mem] at ht
    rcases ht k hlt with (h | h) | h
    · exact h
    · rw [m.first k h] at hkl; cases hkl
    · exfalso
      have hall := needs_listed m.closed hed
      have : (hs.filter fun k => !listed.getD k false) = [] := List.filter_eq_nil_iff.2 fun j hj => by
        have := hall j (by simpa using h j hj)
        simp only [this, Bool.not_true, Bool.false_eq_true, not_false_eq_true]
      rw [this] at hf
      exact hf rfl
  have hlt' : k < listed.size := by rw [m.size]; exact hlt
  obtain ⟨hn, _⟩ := pairsB_spec hs hp
  have h1 : ∀ (l : List Nat), l.Nodup → k ∈ l → (l.filter fun j => !(listed.setIfInBounds k true).getD j false).length + 1 = (l.filter fun j => !listed.getD j false).length := by
    intro l
    induction l with
    | nil => intro _ h; cases h
    | cons x r ihr =>
      intro hnd hx
      obtain ⟨hxr, hnr⟩ := List.nodup_cons.1 hnd
      by_cases hxk : x = k
      · subst hxk
        rw [List.filter_cons_of_neg (by rw [(set_getD hlt').2 (.inl rfl)]; simp), List.filter_cons_of_pos (by rw [hkl]; rfl)]
        have : (r.filter fun j => !(listed.setIfInBounds x true).getD j false) = r.filter fun j => !listed.getD j false := by
          refine List.filter_congr fun j hj => ?_
          rw [getD_set_ne false (fun e => hxr (by rw [e]; exact hj))]
        rw [this, List.length_cons]
      · have hkr : k ∈ r := (List.mem_cons.1 hx).resolve_left (Ne.symm hxk)
        have hg : (listed.setIfInBounds k true).getD x false = listed.getD x false := getD_set_ne false (Ne.symm hxk)
        by_cases hxl : listed.getD x false = true
        · rw [List.filter_cons_of_neg (by rw [hg, hxl]; simp), List.filter_cons_of_neg (by rw [hxl]; simp)]
          exact ihr hnr hkr
        · have hxl' : listed.getD x false = false := by simpa using hxl
          rw [List.filter_cons_of_pos (by rw [hg, hxl']; rfl), List.filter_cons_of_pos (by rw [hxl']; rfl), List.length_cons, List.length_cons]
          have := ihr hnr hkr
          omega
  exact ⟨hks, h1 hs hn hks⟩

/-- A tail that comes up in one order: its numbers. -/
def turnB (md : Region.Mode) (ops : Array Oper) : List Nat → Array Bool → Bool
  | [], L => (Region.ready md ops L).isEmpty
  | t :: r, L => decide (Region.ready md ops L = [t]) && turnB md ops r (L.setIfInBounds t true)
theorem wpAny_of_turn : ∀ (ts : List Nat) (L : Array Bool) (a : Act) (w : World), turnB md ops ts L = true → wpList P ops Q (ts.filterMap (ops[·]?)) a w → wpAny P md ops Q ts.length L a w
  | [], _, _, _, hB, h => ⟨by simpa [turnB] using hB, h⟩
  | t :: r, L, a, w, hB, h => by
    simp only [turnB, Bool.and_eq_true, decide_eq_true_eq] at hB
    have ht : t ∈ Region.ready md ops L := by rw [hB.1]; simp
    have ho : ops[t]? = some (ops[t]'(mem_ready'.1 ht).2.1) := Array.getElem?_eq_getElem _
    rw [List.filterMap_cons_some ho] at h
    refine ⟨fun h1 => (by rw [hB.1] at h1; cases h1), fun i hi => ?_⟩
    rw [hB.1] at hi
    obtain rfl : i = t := by simpa using hi
    have hw : wpOp P ops Q i (wpList P ops Q (r.filterMap (ops[·]?))) a w := by unfold wpOp; simp only [ho]; exact h
    exact wpOp_mono (fun a' w' h' => wpAny_of_turn r _ a' w' hB.2 h') hw

theorem wpAny_of_mid (hB : laneB md ops a0.tmps.size L0 hs = true) (hE : ∀ t, Steady (E0 t)) (hO : ∀ pre k post, hs = pre ++ k :: post → ∃ o, ops[k]? = some o ∧ owes P ops w0 (envAt ops Ts pre E0) o (Ts k))
    (hF : ∀ a w, Behind w0 w → a.defers = a0.defers → a.tmps.size = a0.tmps.size → (∀ t, envAt ops Ts hs E0 t (a.tmps.getD t undef) w) → wpAny P md ops Q g (listedAll ops L0 hs) a w) :
    ∀ (f : Nat) (listed : Array Bool) (a : Act) (w : World), (hs.filter fun k => !listed.getD k false).length = f → Mid md ops w0 a0 L0 hs E0 Ts listed a w → wpAny P md ops Q (f + g) listed a w := by
  have hT : ∀ k ∈ hs, Steady (Ts k) := fun k hk => by
    obtain ⟨pre, post, e⟩ := List.append_of_mem hk
    obtain ⟨o, _, h⟩ := hO pre k post e
    exact h.1
  intro f
  induction f with
  | zero =>
    intro listed a w hf m
    obtain ⟨hL, hend⟩ := m.done hf
    rw [Nat.zero_add, hL]
    exact hF a w m.behind m.defers m.tsize hend
  | succ f ih =>
    intro listed a w hf m
    rw [show f + 1 + g = (f + g) + 1 by omega]
    refine ⟨fun h0 => (m.more hB (by omega) h0).elim, fun k hk => ?_⟩
    obtain ⟨hks, hlen⟩ := m.turn hB (by omega) hk
    obtain ⟨pre, post, e⟩ := List.append_of_mem hks
    obtain ⟨o, ho, _, hob⟩ := hO pre k post e
    have hm := m.meets hB e hk
    have hlk : looksOf ops k = o.looksAt ops := by simp [looksOf, ho]
    have hdk : dstOf ops k = o.dst := by simp [dstOf, ho]
    rw [hlk] at hm
    have hgo : ∀ K : Act → World → Prop, (∀ v w', Behind w w' → Ts k v w' → K (a.put o.dst v) w') → wpOp P ops Q k K a w := fun K hK => (hob a w m.behind hm).elim (fun h => wpOp_of_gives ho h hK) fun h => wpOp_of_givesBy ho h hK
    refine hgo _ fun v w' hb hv => ?_
    rw [← hdk]
    exact ih _ _ _ (by omega) (m.step hB hE hT hks hk hb hv)
end
end
end Go.Proofs.Yteaenomfighaoaa
/- .. as it is walked: a literal frame, told slots beside it. No program is named here. -/
namespace Go.Proofs.Yteaenomfighaoaa
set_option linter.unusedVariables false
set_option linter.unusedSimpArgs false
open Go Go.RowKit

section
variable {P : Program} {ops : Array Oper}

/-- Operations that yield a value and leave the world alone. -/
def simpleOp : Op → Bool
  | .move _ | .assign _ | .pick _ _ _ | .binOp _ _ _ _ _ | .unOp _ _ _ | .convert _ _ _ | .extract _ _ | .fieldAddr _ _ _ | .indexAddr _ _ _ | .field _ _ _ | .load _ _ | .index _ _ _ | .slice _ _ _ _ _ | .nilCheck _ | .typeAssert _ _ _ _ | .makeInterface _ _ => true
  | _ => false
theorem quiet_value {C : World → Prop} {w : World} {u : Value} {s : Sem Value} (h : Oper.quietUpon P C w u ((do pure (Next.value (← s)) : Sem Next).run P w)) : (do pure (Next.value (← s)) : Sem Next).run P w = .ok (.value u) w := by
  rw [Sem.run_bind] at h ⊢
  generalize s.run P w = r at *
  cases r with
  | halt x w' => exact h.elim
  | ok v w' =>
    simp only [Result.andThen_ok, Sem.run_pure, Oper.quietUpon] at h ⊢
    rw [h.1, h.2]
theorem quiet_map {α : Type} {C : World → Prop} {w : World} {u : Value} {s : Sem α} {f : α → Value} (h : Oper.quietUpon P C w u ((do let x ← s; pure (Next.value (f x)) : Sem Next).run P w)) : (do let x ← s; pure (Next.value (f x)) : Sem Next).run P w = .ok (.value u) w := by
  rw [Sem.run_bind] at h ⊢
  generalize s.run P w = r at *
  cases r with
  | halt x w' => exact h.elim
  | ok v w' =>
    simp only [Result.andThen_ok, Sem.run_pure, Oper.quietUpon] at h ⊢
    rw [h.1, h.2]
theorem simple_run {C : World → Prop} {o : Oper} {a : Act} {w : World} {u : Value} (hs : simpleOp o.op = true) (h : o.quietAt P a C w u) : (execOp a.eval o).run P w = .ok (.value u) w := by
  unfold Oper.quietAt at h
  obtain ⟨d, op, ty, pos, af, gd⟩ := o
  cases op <;> simp only [simpleOp, Bool.false_eq_true] at hs
  all_goals simp only [execOp] at h ⊢
  all_goals
    first
      | exact quiet_value h
      | exact quiet_map h
      | (simp only [Sem.run_pure, Oper.quietUpon] at h ⊢; rw [h.2])
      | (rename_i x
         generalize a.eval x = z at *
         rcases z with _ | _ | _ | _ | _ | p | _ | _ | _ | ⟨f, first, captured⟩ | _ | _ | _ | _ | _
         case pointer =>
           cases p with
           | none => exfalso; simp [go_sem, Oper.quietUpon] at h
           | some p => simp only [Sem.run_pure, Oper.quietUpon] at h ⊢; rw [h.2]
         case nilFunc => exfalso; simp [go_sem, Oper.quietUpon] at h
         case nilIface => exfalso; simp [go_sem, Oper.quietUpon] at h
         case func =>
           cases f
           case method name =>
             simp only at h ⊢
             split at h
             · exfalso; simp [go_sem, Oper.quietUpon] at h
             · rename_i t v he
               simp only [Sem.run_bind] at h ⊢
               generalize program.run P w = r1 at *
               cases r1 with
               | halt y w' => exact h.elim
               | ok pr w1 =>
                 simp only [Result.andThen_ok] at h ⊢
                 generalize (nilAhead (pr.types.size + Made.depth) t v name).run P w1 = r2 at *
                 cases r2 with
                 | halt y w' => exact h.elim
                 | ok q w2 =>
                   simp only [Result.andThen_ok] at h ⊢
                   split at h
                   · exfalso; simp [go_sem, Oper.quietUpon] at h
                   · rename_i hq
                     rw [if_neg hq]
                     simp only [Sem.run_pure, Oper.quietUpon] at h ⊢
                     rw [h.1, h.2]
             · simp only [Sem.run_pure, Oper.quietUpon] at h
               rw [h.2, Sem.run_pure]
           all_goals (simp only [Sem.run_pure, Oper.quietUpon] at h ⊢; rw [h.2])
         all_goals (simp only [Sem.run_pure, Oper.quietUpon] at h ⊢; rw [h.2]))

variable {md : Region.Mode} {Q : Exit → Act → World → Prop}
/-- What hangs on no world at all, taken ahead of all. -/
def pureB (md : Region.Mode) (ops : Array Oper) : List Nat → Array Bool → Bool
  | [], _ => true
  | k :: r, L => (Region.ready md ops L).contains k && Region.free md ops L k && ((ops[k]?).map fun o => simpleOp o.op).getD false && pureB md ops r (L.setIfInBounds k true)
theorem pure_first {w : World} {f : Nat} {K : Act → Prop} (hs : Region.noSelect ops = true) (hQ : ∀ c (a : Act) (d : Tmp) v w, Q (.panic c) (a.put (some d) v) w → Q (.panic c) a w) : ∀ (ps : List Nat) (L : Array Bool) (a : Act), pureB md ops ps L = true →
    wpQuiet P ops (fun _ => True) K (ps.filterMap (ops[·]?)) a → (∀ a', K a' → wpAny P md ops Q f (ps.foldl (fun L k => L.setIfInBounds k true) L) a' w) → wpAny P md ops Q (ps.length + f) L a w
  | [], L, a, _, h, hK => by rw [show ([] : List Nat).length + f = f by simp]; exact hK a h
  | k :: r, L, a, hB, h, hK => by
    simp only [pureB, Bool.and_eq_true] at hB
    obtain ⟨⟨⟨hr, hf⟩, hp⟩, hB⟩ := hB
    cases ho : ops[k]? with
    | none => rw [ho] at hp; simp at hp
    | some o =>
      rw [ho] at hp
      simp only [Option.map_some, Option.getD_some] at hp
      rw [List.filterMap_cons_some ho] at h
      have hst : ∃ v, Yields P ops o v a ∧ wpQuiet P ops (fun _ => True) K (r.filterMap (ops[·]?)) (a.put o.dst v) := by
        simp only [wpQuiet] at h
        by_cases hw : Region.wanted o (yielded ops a.tmps) = true
        · rw [if_pos hw] at h
          obtain ⟨v, h1, h2⟩ := h
          exact ⟨v, .inl ⟨hw, fun w => simple_run hp (h1 w trivial)⟩, h2⟩
        · rw [if_neg hw] at h
          exact ⟨undef, .inr ⟨by simpa using hw, rfl⟩, h⟩
      obtain ⟨v, hy, hrest⟩ := hst
      rw [show (k :: r).length + f = (r.length + f) + 1 by simp; omega]
      exact wpAny_take ho hs hf hr (fun c a w h' => by cases hd : o.dst with | none => rw [hd] at h'; exact h' | some d => rw [hd] at h'; exact hQ c a d v w h') hy (pure_first hs hQ r _ _ hB hrest (by simpa using hK))

theorem wpQuiet_class {C C' : World → Prop} (h : ∀ w, C' w ↔ C w) {K : Act → Prop} : ∀ (l : List Oper) (a : Act), wpQuiet P ops C K l a → wpQuiet P ops C' K l a := by
  have e : C' = C := funext fun w => propext (h w)
  subst e
  exact fun _ _ h => h
/-- The lane over the operations themselves. -/
def laneO (P : Program) (ops : Array Oper) (w0 : World) (Fin : Env → Prop) : List Oper → Env → Prop
  | [], E => Fin E
  | o :: r, E => ∃ T, owes P ops w0 E o T ∧ laneO P ops w0 Fin r (upd E o.dst T)
theorem lane_of_laneO {w0 : World} {Fin : Env → Prop} : ∀ (hs : List Nat) (E : Env), (∀ k ∈ hs, k < ops.size) → laneO P ops w0 Fin (hs.filterMap (ops[·]?)) E → lane P ops w0 Fin hs E
  | [], _, _, h => h
  | k :: r, E, hl, h => by
    have ho : ops[k]? = some (ops[k]'(hl k (by simp))) := Array.getElem?_eq_getElem (hl k (by simp))
    rw [List.filterMap_cons_some ho] at h
    obtain ⟨T, h1, h2⟩ := h
    exact ⟨_, T, ho, h1, lane_of_laneO r _ (fun j hj => hl j (by simp [hj])) h2⟩

/-- A literal frame, some of whose slots are told another way. -/
def envOf (a : Act) (F : List (Tmp × Told)) : Env := fun t v w => match F.lookup t with | some T => T v w | none => v = a.tmps.getD t undef
def SteadyAll (F : List (Tmp × Told)) : Prop := ∀ x ∈ F, Steady x.2
theorem envOf_steady {a : Act} {F : List (Tmp × Told)} (h : SteadyAll F) (t : Tmp) : Steady (envOf a F t) := fun v w w' hb hv => by
  unfold envOf at hv ⊢
  cases hl : F.lookup t with
  | none => rw [hl] at hv; exact hv
  | some T =>
    rw [hl] at hv
    refine h (t, T) ?_ v w w' hb hv
    obtain ⟨l1, l2, e, _⟩ := List.lookup_eq_some_iff.1 hl
    rw [e]; simp
def clearB (F : List (Tmp × Told)) (ts : List Tmp) : Bool := ts.all fun t => (F.lookup t).isNone
theorem clear_spec {F : List (Tmp × Told)} {ts : List Tmp} (h : clearB F ts = true) {t : Tmp} (ht : t ∈ ts) : F.lookup t = none := by
  simp only [clearB, List.all_eq_true] at h
  simpa using h t ht
def isBool : Value → Option Bool
  | .bool b => some b
  | _ => none
theorem boolAt (x : Array Value) (t : Tmp) : (match x[t]? with | some (.bool b) => some b | _ => none) = isBool (x.getD t undef) := by
  rw [Array.getD_eq_getD_getElem?]
  cases x[t]? with
  | none => rfl
  | some v => cases v <;> rfl
theorem same_exec {a a' : Act} {w : World} {F : List (Tmp × Told)} {o : Oper} (hsel : ∀ cs b, o.op ≠ .select cs b) (hc : clearB F (o.looksAt ops) = true) (h : meets (envOf a F) (o.looksAt ops) a' w) :
    execOp a'.eval o = execOp a.eval o ∧ Region.wanted o (yielded ops a'.tmps) = Region.wanted o (yielded ops a.tmps) := by
  have hg : ∀ t ∈ o.looksAt ops, a'.tmps.getD t undef = a.tmps.getD t undef := fun t ht => by
    have := h t ht
    unfold envOf at this
    rw [clear_spec hc ht] at this
    exact this
  refine ⟨execOp_congr o hsel fun x hx => ?_, ?_⟩
  · cases x with
    | tmp t => exact hg t (List.mem_append_left _ (List.mem_filterMap.2 ⟨.tmp t, by simpa using hx, rfl⟩))
    | _ => rfl
  · unfold Region.wanted
    cases hgd : o.guard with
    | none => rfl
    | some gw =>
      obtain ⟨j, want⟩ := gw
      have hy : yielded ops a'.tmps j = yielded ops a.tmps j := by
        unfold yielded
        cases ht : (ops[j]?).bind (·.dst) with
        | none => rfl
        | some t =>
          have := hg t (List.mem_append_right _ (by simp [hgd, ht]))
          simp only [Option.bind_some]
          exact (boolAt a'.tmps t).trans ((congrArg isBool this).trans (boolAt a.tmps t).symm)
      simp only [hy]
theorem upd_fixed {a : Act} {F : List (Tmp × Told)} {d : Tmp} {v : Value} (hd : d < a.tmps.size) (hF : F.lookup d = none) : upd (envOf a F) (some d) (fun u _ => u = v) = envOf (a.put (some d) v) F := by
  funext t u w
  unfold upd envOf
  by_cases h : d = t
  · subst h
    rw [if_pos rfl, hF]
    simp only [put_getD a d d v hd, if_true]
  · rw [if_neg (fun e => h (Option.some.inj e))]
    cases F.lookup t with
    | some T => rfl
    | none => simp only [put_getD a d t v hd, if_neg h]
theorem upd_told {a : Act} {F : List (Tmp × Told)} {d : Tmp} {T : Told} : upd (envOf a F) (some d) T = envOf a ((d, T) :: F) := by
  funext t u w
  unfold upd envOf
  by_cases h : d = t
  · subst h; simp
  · rw [if_neg (fun e => h (Option.some.inj e)), List.lookup_cons]
    have : (t == d) = false := by rw [beq_eq_false_iff_ne]; exact fun e => h e.symm
    rw [this]

variable {w0 : World} {Fin : Env → Prop} {a : Act} {F : List (Tmp × Told)} {o : Oper} {r : List Oper} {d : Tmp}
def notSelect (o : Oper) : Bool := match o.op with | .select _ _ => false | _ => true
theorem notSelect_spec (h : notSelect o = true) : ∀ cs b, o.op ≠ .select cs b := fun cs b e => by simp [notSelect, e] at h
/-- The operation's own words: it has a slot, within the frame, that nothing is told of; nothing is told of what it looks at. -/
def plainB (ops : Array Oper) (size : Nat) (F : List (Tmp × Told)) (o : Oper) : Bool := notSelect o && clearB F (o.looksAt ops) && match o.dst with | some d => decide (d < size) && (F.lookup d).isNone | none => false
theorem laneO_fixed {v : Value} (hp : plainB ops a.tmps.size F o = true) (h : ∀ w, Behind w0 w → givesIf P ops o a w fun u _ => u = v) (hr : laneO P ops w0 Fin r (envOf (a.put o.dst v) F)) : laneO P ops w0 Fin (o :: r) (envOf a F) := by
  simp only [plainB, Bool.and_eq_true] at hp
  obtain ⟨⟨hsel, hc⟩, hd⟩ := hp
  cases ho : o.dst with
  | none => rw [ho] at hd; simp at hd
  | some d =>
    rw [ho] at hd hr
    simp only [Bool.and_eq_true, decide_eq_true_eq, Option.isNone_iff_eq_none] at hd
    refine ⟨_, ⟨steady_eq v, fun a' w hb hm => .inl ?_⟩, ?_⟩
    · obtain ⟨e1, e2⟩ := same_exec (notSelect_spec hsel) hc hm
      have := h w hb
      unfold givesIf gives at this ⊢
      rw [e1, e2]
      exact this
    · rw [ho, upd_fixed hd.1 hd.2]; exact hr
theorem laneO_told (T : Told) (hT : Steady T) (hp : plainB ops a.tmps.size F o = true) (ho : o.dst = some d) (h : ∀ w, Behind w0 w → givesIf P ops o a w T) (hr : laneO P ops w0 Fin r (envOf a ((d, T) :: F))) : laneO P ops w0 Fin (o :: r) (envOf a F) := by
  simp only [plainB, Bool.and_eq_true] at hp
  obtain ⟨⟨hsel, hc⟩, _⟩ := hp
  refine ⟨T, ⟨hT, fun a' w hb hm => .inl ?_⟩, ?_⟩
  · obtain ⟨e1, e2⟩ := same_exec (notSelect_spec hsel) hc hm
    have := h w hb
    unfold givesIf gives at this ⊢
    rw [e1, e2]
    exact this
  · rw [ho, upd_told]; exact hr
/-- A run of operations that leave the world alone, by the quiet walk. -/
theorem laneO_quiet : ∀ (l : List Oper) (a : Act), (l.all fun o => simpleOp o.op && plainB ops a.tmps.size F o) = true →
    wpQuiet P ops (fun w' => ∃ s : Later w0.heap.size w0, w' = s.w) (fun a' => laneO P ops w0 Fin r (envOf a' F)) l a → laneO P ops w0 Fin (l ++ r) (envOf a F)
  | [], a, _, h => h
  | o :: l, a, hB, h => by
    simp only [List.all_cons, Bool.and_eq_true] at hB
    obtain ⟨⟨hs, hp⟩, hB⟩ := hB
    simp only [wpQuiet] at h
    have hsz : ∀ v, (a.put o.dst v).tmps.size = a.tmps.size := fun v => by cases o.dst <;> simp [Act.put]
    by_cases hw : Region.wanted o (yielded ops a.tmps) = true
    · rw [if_pos hw] at h
      obtain ⟨v, h1, h2⟩ := h
      refine laneO_fixed hp (fun w hb => .inl ⟨hw, ?_⟩) (laneO_quiet l _ (by rw [hsz]; exact hB) h2)
      have := simple_run hs (h1 w ⟨⟨w, hb⟩, rfl⟩)
      unfold gives
      rw [this]
      exact ⟨Behind.refl w, rfl⟩
    · rw [if_neg hw] at h
      exact laneO_fixed hp (fun w hb => .inr ⟨by simpa using hw, rfl⟩) (laneO_quiet l _ (by rw [hsz]; exact hB) h)
theorem laneO_run (n : Nat) {l : List Oper} (hB : ((l.take n).all fun o => simpleOp o.op && plainB ops a.tmps.size F o) = true)
    (h : wpQuiet P ops (fun w' => ∃ s : Later w0.heap.size w0, w' = s.w) (fun a' => laneO P ops w0 Fin (l.drop n) (envOf a' F)) (l.take n) a) : laneO P ops w0 Fin l (envOf a F) := by
  have := laneO_quiet (r := l.drop n) (l.take n) a hB h
  rwa [List.take_append_drop] at this
/-- A call whose arguments are told by the frame: one value, in whatever world that lies behind. -/
theorem laneO_call {v : Value} (hp : plainB ops a.tmps.size F o = true) (hw : Region.wanted o (yielded ops a.tmps) = true)
    (h : ∀ C : World → Prop, (∀ w w', C w → Behind w w' → C w') → (∀ w, C w → Behind w0 w) → o.quiet P a C fun a' => a' = a.put o.dst v) (hr : laneO P ops w0 Fin r (envOf (a.put o.dst v) F)) : laneO P ops w0 Fin (o :: r) (envOf a F) := by
  refine laneO_fixed hp (fun w hb => .inl ⟨hw, ?_⟩) hr
  obtain ⟨u, h1, h2⟩ := h (Behind w) (fun w1 w2 h1 h2 => h1.trans h2) (fun w1 h1 => hb.trans h1)
  have hq := h1 w (Behind.refl w)
  have hu : u = v := by
    simp only [plainB, Bool.and_eq_true] at hp
    obtain ⟨_, hd⟩ := hp
    cases ho : o.dst with
    | none => rw [ho] at hd; simp at hd
    | some d =>
      rw [ho] at hd h2
      simp only [Bool.and_eq_true, decide_eq_true_eq] at hd
      have := congrArg (fun x : Act => x.tmps.getD d undef) h2
      simpa only [put_getD a d d _ hd.1, if_true] using this
  subst hu
  unfold Oper.quietAt at hq
  unfold gives
  generalize (execOp a.eval o).run P w = x at *
  cases x with
  | halt x w' => exact hq.elim
  | ok n w' =>
    cases n <;> simp only [Oper.quietUpon] at hq ⊢
    case value x => exact ⟨hq.1 ▸ Behind.refl w, hq.2⟩
    case skip => exact ⟨hq.1 ▸ Behind.refl w, hq.2.symm⟩
    case enter f args =>
      obtain ⟨rfl, hq⟩ := hq
      exact ⟨Behind.refl _, hq.mono fun e w'' ⟨he, hb⟩ => ⟨_, he, hb, rfl⟩⟩
/-- A call that hands back what is told. -/
theorem laneO_use {v : Value} (hsel : notSelect o = true) (ho : o.dst = some d) (hd : d < a.tmps.size) (hF : F.lookup d = none)
    (h : ∀ a' w, Behind w0 w → meets (envOf a F) (o.looksAt ops) a' w → givesIf P ops o a' w fun u _ => u = v) (hr : laneO P ops w0 Fin r (envOf (a.put (some d) v) F)) : laneO P ops w0 Fin (o :: r) (envOf a F) :=
  ⟨_, ⟨steady_eq v, fun a' w hb hm => .inl (h a' w hb hm)⟩, by rw [ho, upd_fixed hd hF]; exact hr⟩
/-- An operation that the walk's own law runs, on what is told. -/
theorem laneO_by (T : Told) (hT : Steady T) (ho : o.dst = some d) (h : ∀ a' w, Behind w0 w → meets (envOf a F) (o.looksAt ops) a' w → givesBy P ops o a' w T) (hr : laneO P ops w0 Fin r (envOf a ((d, T) :: F))) : laneO P ops w0 Fin (o :: r) (envOf a F) :=
  ⟨T, ⟨hT, fun a' w hb hm => .inr (h a' w hb hm)⟩, by rw [ho, upd_told]; exact hr⟩

/-- An operation that is not wanted. -/
theorem laneO_skip (hp : plainB ops a.tmps.size F o = true) (hw : Region.wanted o (yielded ops a.tmps) = false) (hr : laneO P ops w0 Fin r (envOf (a.put o.dst undef) F)) : laneO P ops w0 Fin (o :: r) (envOf a F) :=
  laneO_fixed hp (fun _ _ => .inr ⟨hw, rfl⟩) hr
def guardSlots (ops : Array Oper) (o : Oper) : List Tmp := match o.guard with | some (g, _) => ((ops[g]?).bind (·.dst)).toList | none => []
theorem same_wanted {a' : Act} (h : ∀ t ∈ guardSlots ops o, a'.tmps.getD t undef = a.tmps.getD t undef) : Region.wanted o (yielded ops a'.tmps) = Region.wanted o (yielded ops a.tmps) := by
  unfold Region.wanted
  cases hgd : o.guard with
  | none => rfl
  | some gw =>
    obtain ⟨j, want⟩ := gw
    have hy : yielded ops a'.tmps j = yielded ops a.tmps j := by
      unfold yielded
      cases ht : (ops[j]?).bind (·.dst) with
      | none => rfl
      | some t =>
        have := h t (by simp [guardSlots, hgd, ht])
        simp only [Option.bind_some]
        exact (boolAt a'.tmps t).trans ((congrArg isBool this).trans (boolAt a.tmps t).symm)
    simp only [hy]
theorem run_enter {f : FuncId} {fn : Func} {c : Code} {xs : Array Operand} {ts : Array TypeId} {a' : Act} {w : World} (hop : o.op = .call { callee := .value (.func f), args := xs, argTypes := ts }) (hf : P.funcs[f]? = some fn) (hname : (fn.name == "runtime.NumGoroutine") = false) (hb : fn.body = some c) :
    (execOp a'.eval o).run P w = .ok (.enter f (xs.map a'.eval)) w := by
  have hn : ¬ (fn.name = "runtime.NumGoroutine") := by simpa using hname
  simp [execOp, hop, resolve, Act.eval, Deferred.ofValue, invoke, callFunc, hf, hn, hb]
/-- A call of one argument that is told. -/
theorem laneO_useCall {f : FuncId} {fn : Func} {c : Code} {t : Tmp} {T : Told} {v : Value} {ts : Array TypeId} (hop : o.op = .call { callee := .value (.func f), args := #[.tmp t], argTypes := ts }) (ho : o.dst = some d) (hd : d < a.tmps.size) (hF : F.lookup d = none)
    (hw : Region.wanted o (yielded ops a.tmps) = true) (hg : clearB F (guardSlots ops o) = true) (hT : F.lookup t = some T) (hf : P.funcs[f]? = some fn) (hname : (fn.name == "runtime.NumGoroutine") = false) (hb : fn.body = some c)
    (h : ∀ x w, Behind w0 w → T x w → Calls P f #[x] w fun e w' => e = .returned v ∧ Below w.heap.size w w') (hr : laneO P ops w0 Fin r (envOf (a.put (some d) v) F)) : laneO P ops w0 Fin (o :: r) (envOf a F) := by
  refine laneO_use (by simp [notSelect, hop]) ho hd hF (fun a' w hb' hm => .inl ⟨?_, ?_⟩) hr
  · rw [same_wanted (a := a) fun s hs => ?_]
    · exact hw
    · have h1 := hm s (by
        unfold guardSlots at hs
        unfold Oper.looksAt
        exact List.mem_append_right _ hs)
      unfold envOf at h1
      rw [clear_spec hg hs] at h1
      exact h1
  · unfold gives
    rw [run_enter hop hf hname hb]
    have h1 := hm t (by simp [Oper.looksAt, hop, Op.operands, Call.operands])
    unfold envOf at h1
    rw [hT] at h1
    refine ⟨Behind.refl w, ?_⟩
    have e : (#[Operand.tmp t]).map a'.eval = #[a'.tmps.getD t undef] := by simp [Act.eval]
    rw [e]
    exact (h _ w hb' h1).mono fun e w' ⟨he, hb⟩ => ⟨v, he, hb, rfl⟩
/-- A slice that was just made: a block of its own. -/
def madeT (n : Nat) (t : TypeId) (cs : List Value) : Told := fun v w => ∃ g, v = .slice (some ⟨g, 0, none⟩) n n ∧ w.heap[g]? = some (.cells cs.toArray t (0, 0))
theorem madeT_steady (n : Nat) (t : TypeId) (cs : List Value) : Steady (madeT n t cs) := fun v w w' hb ⟨g, h1, h2⟩ => ⟨g, h1, (hb.block g (Array.getElem?_eq_some_iff.1 h2).1).trans h2⟩
theorem madeT_new (n : Nat) (t : TypeId) (cs : Array Value) (w : World) : Behind w (w.alloc (.cells cs t)) ∧ madeT n t cs.toList (.slice (some ⟨w.heap.size, 0, none⟩) n n) (w.alloc (.cells cs t)) :=
  ⟨(Below.refl _ _).alloc (Nat.le_refl _) _, _, rfl, by simpa using heap_alloc_new w (.cells cs t)⟩

/-- What is told is filled in. -/
def fillAll : List (Tmp × Told) → Act → World → (Act → Prop) → Prop
  | [], a, _, K => K a
  | (t, T) :: F, a, w, K => ∀ x, T x w → fillAll F (a.put (some t) x) w K
theorem fill_spec {w : World} {K : Act → Prop} {a' : Act} : ∀ (F : List (Tmp × Told)) (a : Act), (F.map (·.1)).Nodup → (∀ x ∈ F, x.1 < a.tmps.size) → a'.defers = a.defers → a'.tmps.size = a.tmps.size →
    (∀ t, envOf a F t (a'.tmps.getD t undef) w) → fillAll F a w K → K a'
  | [], a, _, _, hd, hs, hm, h => by
    have : a' = a := by
      obtain ⟨t1, d1⟩ := a'
      obtain ⟨t2, d2⟩ := a
      simp only at hd hs
      subst hd
      congr 1
      refine Array.ext hs fun i h1 h2 => ?_
      have := hm i
      simp only [envOf, List.lookup_nil] at this
      simpa [h1, h2] using this
    rw [this]; exact h
  | (t, T) :: F, a, hn, hl, hd, hs, hm, h => by
    simp only [List.map_cons, List.nodup_cons] at hn
    have ht : t < a.tmps.size := hl (t, T) (by simp)
    have hx : T (a'.tmps.getD t undef) w := by have := hm t; simpa [envOf] using this
    have hnone : F.lookup t = none := by
      rw [List.lookup_eq_none_iff]
      intro p hp
      have : t ≠ p.1 := fun e => hn.1 (List.mem_map.2 ⟨p, hp, e.symm⟩)
      simpa using this
    refine fill_spec F (a.put (some t) (a'.tmps.getD t undef)) hn.2 (fun x hx => by simpa [Act.put] using hl x (by simp [hx])) (by simpa [Act.put] using hd) (by simpa [Act.put] using hs) (fun s => ?_) (h _ hx)
    have := hm s
    unfold envOf at this ⊢
    by_cases hst : s = t
    · subst hst
      rw [hnone]
      simp only [put_getD a s s _ ht, if_true]
    · have hb : (s == t) = false := by rw [beq_eq_false_iff_ne]; exact hst
      rw [List.lookup_cons, hb] at this
      simp only at this
      cases hF : F.lookup s with
      | some U => rw [hF] at this; exact this
      | none => rw [hF] at this; simp only [put_getD a t s _ ht, if_neg (Ne.symm hst)]; exact this

def finOf (P : Program) (ops : Array Oper) (w0 : World) (Q : Exit → Act → World → Prop) (tail : List Oper) (a1 : Act) (E : Env) : Prop :=
  ∀ a' w', Behind w0 w' → a'.defers = a1.defers → a'.tmps.size = a1.tmps.size → (∀ t, E t (a'.tmps.getD t undef) w') → wpList P ops Q tail a' w'
theorem laneO_end {tail : List Oper} {a1 : Act} (hn : (F.map (·.1)).Nodup) (hl : (F.all fun x => decide (x.1 < a.tmps.size)) = true) (hd : a.defers = a1.defers) (hs : a.tmps.size = a1.tmps.size) (h : ∀ w', Behind w0 w' → fillAll F a w' fun a'' => wpList P ops Q tail a'' w') :
    laneO P ops w0 (finOf P ops w0 Q tail a1) [] (envOf a F) := fun a' w' hb h1 h2 hm => fill_spec F a hn (by simpa using hl) (h1.trans hd.symm) (h2.trans hs.symm) hm (h w' hb)
theorem laneO_end0 {tail : List Oper} {a1 : Act} (hd : a.defers = a1.defers) (hs : a.tmps.size = a1.tmps.size) (h : ∀ w', Behind w0 w' → wpList P ops Q tail a w') :
    laneO P ops w0 (finOf P ops w0 Q tail a1) [] (envOf a []) := laneO_end (by simp) rfl hd hs h
end

def firstAll (size : Nat) (ps : List Nat) : Array Bool := ps.foldl (fun L k => L.setIfInBounds k true) (Array.replicate size false)
def topB (ops : Array Oper) (size : Nat) (ps hs ts : List Nat) : Bool :=
  Region.noSelect ops && pureB .any ops ps (Array.replicate ops.size false) && laneB .any ops size (firstAll ops.size ps) hs && turnB .any ops ts (listedAll ops (firstAll ops.size ps) hs) && decide (ps.length + hs.length + ts.length = ops.size)
theorem closed_fold {md : Region.Mode} {ops : Array Oper} : ∀ (ps : List Nat) (L : Array Bool), L.size = ops.size → Closed md ops L → pureB md ops ps L = true → Closed md ops (ps.foldl (fun L k => L.setIfInBounds k true) L) ∧ (ps.foldl (fun L k => L.setIfInBounds k true) L).size = ops.size
  | [], _, hs, h, _ => ⟨h, hs⟩
  | k :: r, L, hs, h, hB => by
    simp only [pureB, Bool.and_eq_true] at hB
    obtain ⟨⟨⟨hr, _⟩, _⟩, hB⟩ := hB
    obtain ⟨_, hlt, hed⟩ := mem_ready'.1 (by simpa using hr)
    refine closed_fold r _ (by simp [hs]) (fun i hi j hj => (set_getD (by rw [hs]; exact hlt)).2 (.inr ?_)) hB
    rcases (set_getD (by rw [hs]; exact hlt)).1 hi with rfl | hi
    · exact hed j hj
    · exact h i hi j hj

def pick (l : List Oper) (ks : List Nat) : List Oper := ks.map fun k => l.getD k default
theorem pick_eq {l : List Oper} : ∀ (ks : List Nat), (∀ k ∈ ks, k < l.length) → ks.filterMap (l.toArray[·]?) = pick l ks
  | [], _ => rfl
  | k :: r, h => by
    have hk := h k (by simp)
    rw [List.filterMap_cons_some (b := l.getD k default) (by simp [hk]), pick_eq r fun j hj => h j (by simp [hj])]
    rfl
theorem pure_lt {md : Region.Mode} {ops : Array Oper} : ∀ (ps : List Nat) (L : Array Bool), pureB md ops ps L = true → ∀ k ∈ ps, k < ops.size
  | [], _, _ => by simp
  | k :: r, L, h => by
    simp only [pureB, Bool.and_eq_true] at h
    intro j hj
    rcases List.mem_cons.1 hj with rfl | hj
    · exact (mem_ready'.1 (by simpa using h.1.1.1)).2.1
    · exact pure_lt r _ h.2 j hj
theorem turn_lt {md : Region.Mode} {ops : Array Oper} : ∀ (ts : List Nat) (L : Array Bool), turnB md ops ts L = true → ∀ k ∈ ts, k < ops.size
  | [], _, _ => by simp
  | k :: r, L, h => by
    simp only [turnB, Bool.and_eq_true, decide_eq_true_eq] at h
    intro j hj
    rcases List.mem_cons.1 hj with rfl | hj
    · exact (mem_ready'.1 (by rw [h.1]; simp)).2.1
    · exact turn_lt r _ h.2 j hj
/-- A region that draws its order: ps hang on no world; hs by promises; then the tail ts in its order. -/
theorem region_lane {P : Program} {id : Nat} {Q : Exit → Act → World → Prop} {a : Act} {w : World} {l : List Oper} (ps hs ts : List Nat) (hm : P.follows .mixedOrders = true) (hB : topB l.toArray a.tmps.size ps hs ts = true)
    (hQ : ∀ c (a : Act) (d : Tmp) v w, Q (.panic c) (a.put (some d) v) w → Q (.panic c) a w)
    (h : wpQuiet P l.toArray (fun _ => True) (fun a1 => a1.tmps.size = a.tmps.size ∧ laneO P l.toArray w (finOf P l.toArray w Q (pick l ts) a1) (pick l hs) (envOf a1 [])) (pick l ps) a) : (Code.region id l.toArray true).wp P Q a w := by
  simp only [topB, firstAll, Bool.and_eq_true, decide_eq_true_eq] at hB
  obtain ⟨⟨⟨⟨hsel, hp⟩, hl⟩, hseq⟩, hlen⟩ := hB
  refine wp_region_any hm ?_
  have hsz : l.toArray.size = ps.length + (hs.length + ts.length) := by omega
  have key : ∀ fuel, fuel = ps.length + (hs.length + ts.length) → wpAny P .any l.toArray Q fuel (Array.replicate l.toArray.size false) a { w with drawn := w.drawn + 1 } := by
    intro fuel hfuel
    rw [hfuel]
    rw [← pick_eq ps (by simpa using pure_lt ps _ hp)] at h
    refine pure_first hsel hQ ps _ a hp h fun a1 ⟨hs1, h1⟩ => ?_
    have hl' : ∀ k ∈ hs, k < l.toArray.size := fun k hk => by
      simp only [laneB, Bool.and_eq_true] at hl
      obtain ⟨⟨⟨_, _⟩, hh⟩, _⟩ := hl
      simp only [headB, List.all_eq_true, Bool.and_eq_true, decide_eq_true_eq] at hh
      exact (hh k hk).1.1
    rw [← pick_eq hs (by simpa using hl'), ← pick_eq ts (by simpa using turn_lt ts _ hseq)] at h1
    have hpairs : hs.Nodup := by
      simp only [laneB, Bool.and_eq_true] at hl
      exact (pairsB_spec hs hl.1.1.1).1
    obtain ⟨Ts, hO, hF⟩ := lane_all hs _ hpairs (lane_of_laneO hs _ hl' h1)
    have hcl := closed_fold (md := .any) (ops := l.toArray) ps (Array.replicate l.toArray.size false) (by simp) (fun i hi => by rw [getD_replicate_false] at hi; cases hi) hp
    have hfil : (hs.filter fun k => !(ps.foldl (fun L k => L.setIfInBounds k true) (Array.replicate l.toArray.size false)).getD k false).length = hs.length := by
      rw [List.filter_eq_self.2]
      intro k hk
      simp only [laneB, Bool.and_eq_true] at hl
      obtain ⟨⟨⟨_, _⟩, hh⟩, _⟩ := hl
      simp only [headB, List.all_eq_true, Bool.and_eq_true] at hh
      exact (hh k hk).2
    refine wpAny_of_mid (w0 := w) (a0 := a1) (E0 := envOf a1 []) (Ts := Ts) (g := ts.length) (by rw [hs1]; exact hl) (envOf_steady (by intro x hx; cases hx)) hO (fun a' w' hb hd hsz' hm' => ?_) hs.length _ a1 _ hfil
      ⟨Behind.drawn w, hcl.2, rfl, rfl, hcl.1, fun _ h => h, fun _ h => .inl h, fun t k hk hlk => ?_, fun t _ => by simp [envOf]⟩
    · exact wpAny_of_turn ts _ a' w' hseq (hF a' w' hb hd hsz' hm')
    · simp only [laneB, Bool.and_eq_true] at hl
      obtain ⟨⟨⟨_, _⟩, hh⟩, _⟩ := hl
      simp only [headB, List.all_eq_true, Bool.and_eq_true] at hh
      have := (hh k hk).2
      rw [hlk] at this
      cases this
  exact key _ hsz
end Go.Proofs.Yteaenomfighaoaa
/- What a call may have turned: some blocks, and new ones. No program is named here. -/
namespace Go.Proofs.Yteaenomfighaoaa
set_option linter.unusedVariables false
set_option linter.unusedSimpArgs false
open Go.RowKit

structure Only (S : List Nat) (w w' : World) : Prop where
  os : w'.os = w.os
  tape : w'.tape = w.tape
  output : w'.output = w.output
  size : w.heap.size ≤ w'.heap.size
  block : ∀ k, k < w.heap.size → k ∉ S → w'.heap[k]? = w.heap[k]?

section
variable {S T : List Nat} {a b c w w' : World}
theorem Only.refl (S : List Nat) (w : World) : Only S w w := ⟨rfl, rfl, rfl, Nat.le_refl _, fun _ _ _ => rfl⟩
/-- What the second may turn, the first may, or it is new. -/
theorem Only.trans (h : Only S a b) (k : Only T b c) (ht : ∀ x ∈ T, x ∈ S ∨ a.heap.size ≤ x) : Only S a c :=
  ⟨k.os.trans h.os, k.tape.trans h.tape, k.output.trans h.output, Nat.le_trans h.size k.size, fun i hi hn =>
    (k.block i (Nat.lt_of_lt_of_le hi h.size) fun hT => by rcases ht i hT with h1 | h1
                                                           · exact hn h1
                                                           · omega).trans (h.block i hi hn)⟩
theorem Only.mono (h : Only S w w') (hs : ∀ x ∈ S, x ∈ T ∨ w.heap.size ≤ x) : Only T w w' := (Only.refl T w).trans h hs
theorem Only.then (h : Only S a b) (k : Only S b c) : Only S a c := h.trans k fun x hx => .inl hx
theorem Only.alloc (h : Only S a w) (o : Obj) : Only S a (w.alloc o) :=
  h.trans (T := []) ⟨rfl, rfl, rfl, by simp, fun k hk _ => Below.heap_alloc _ _ _ hk⟩ (by simp)
theorem Only.drewN (h : Only S a w) (n : Nat) : Only S a (w.drewN n) := ⟨h.os, h.tape, h.output, h.size, h.block⟩
theorem Only.drawn (h : Only S a w) : Only S a { w with drawn := w.drawn + 1 } := ⟨h.os, h.tape, h.output, h.size, h.block⟩
theorem Only.setCell (h : Only S a w) (p : Addr) (hp : p.block ∈ S ∨ a.heap.size ≤ p.block) (u : Value) : Only S a (w.setCell p u) :=
  h.trans (T := [p.block]) ⟨rfl, rfl, rfl, by simp [World.setCell], fun k _ hk => Below.heap_setCell _ _ _ _ (by simpa using hk)⟩ (by simpa using hp)
theorem Only.of_grown {row : Option Nat} (h : w.grownBy w' row) : Only row.toList w w' :=
  ⟨h.os, h.tape, h.output, h.size, fun k hk hn => h.block k hk fun e => hn (by simp [← e])⟩
theorem Only.of_below (h : Below w.heap.size w w') : Only S w w' := ⟨h.os, h.tape, h.output, h.size, fun k hk _ => h.block k hk⟩
theorem Only.below {B : Nat} (h : Only S w w') (hs : ∀ x ∈ S, B ≤ x) (hB : B ≤ w.heap.size) : Below B w w' :=
  ⟨h.os, h.tape, h.output, h.size, fun k hk => h.block k (by omega) fun hm => by have := hs k hm; omega⟩
theorem Only.cell (h : Only S w w') {p : Addr} (hp : p.block < w.heap.size) (hn : p.block ∉ S) : w'.cell? p = w.cell? p := World.cell?_of_block (w := w) (h.block _ hp hn)
theorem Only.frozen (h : Only S w w') {p : Addr} (hp : p.block < w.heap.size) (hn : p.block ∉ S) : w'.frozen? p = w.frozen? p := World.frozen?_of_block (w := w) (h.block _ hp hn)
theorem Only.whole (h : Only S w w') {g : Nat} {t : TypeId} {cs : List Value} (hw : Whole w g t cs) (hn : g ∉ S) : Whole w' g t cs := (h.block g hw.size hn).trans hw
theorem Only.owns (h : Only S w w') {base : Nat} {e : TypeId} {size : Nat} {v : Value} {n : Nat} {xs : List Value} (ho : w.ownsRow base e size v n xs) (hn : ∀ g, v.ownBlock = some g → g ∉ S) : w'.ownsRow base e size v n xs := by
  refine ⟨ho.1, ?_⟩
  rcases ho.2 with h0 | ⟨g, cap, cur, hv, hb, hg, rest⟩
  · exact .inl h0
  · refine .inr ⟨g, cap, cur, hv, hb, ?_, rest⟩
    rw [h.block g (Array.getElem?_eq_some_iff.1 hg).1 (hn g (by simp [hv, Value.ownBlock]))]
    exact hg
theorem Only.row (h : Only S w w') {B : Nat} {A : Option Addr} {xs : List Value} (hr : Row w B A xs) (hB : B ≤ w.heap.size) (hn : ∀ x ∈ S, B ≤ x) : Row w' B A xs :=
  hr.keep fun p hp => h.cell (by omega) fun hm => by have := hn _ hm; omega
end

/-- Two blocks of other element types are two. -/
theorem whole_ne {w : World} {g : Nat} {t : TypeId} {cs : List Value} (h : Whole w g t cs) {base : Nat} {e : TypeId} {size : Nat} {v : Value} {n : Nat} {xs : List Value} (ho : w.ownsRow base e size v n xs) (hne : t ≠ e) : v.ownBlock ≠ some g := by
  intro hv
  rcases ho.2 with ⟨rfl, _⟩ | ⟨g', cap, cur, rfl, _, hg, _⟩
  · simp [Value.ownBlock] at hv
  · simp [Value.ownBlock] at hv
    subst hv
    have h' : w.heap[g']? = some (.cells cs.toArray t (0, 0)) := h
    rw [h'] at hg
    simp at hg
    exact hne hg.2
theorem owns_ne {w : World} {b b' : Nat} {e e' : TypeId} {size size' : Nat} {v v' : Value} {n n' : Nat} {xs xs' : List Value} (h : w.ownsRow b e size v n xs) (h' : w.ownsRow b' e' size' v' n' xs') (hne : e ≠ e') {g : Nat} (hg : v.ownBlock = some g) : v'.ownBlock ≠ some g := by
  intro hv
  rcases h.2 with ⟨rfl, _⟩ | ⟨g1, cap, cur, rfl, _, hg1, _⟩
  · simp [Value.ownBlock] at hg
  · rcases h'.2 with ⟨rfl, _⟩ | ⟨g2, cap2, cur2, rfl, _, hg2, _⟩
    · simp [Value.ownBlock] at hv
    · simp [Value.ownBlock] at hv hg
      subst hv hg
      rw [hg1] at hg2
      simp at hg2
      exact hne hg2.2
theorem owns_lt {w : World} {b : Nat} {e : TypeId} {size : Nat} {v : Value} {n : Nat} {xs : List Value} (h : w.ownsRow b e size v n xs) {g : Nat} (hg : v.ownBlock = some g) : g < w.heap.size := (h.lt g hg).2
theorem owns_nil {w : World} {b : Nat} {e : TypeId} {size : Nat} {v : Value} {n : Nat} {xs : List Value} (h : w.ownsRow b e size v n xs) : ∃ A c, v = .slice A n c ∧ n ≤ c ∧ c ≤ maxLen ∧ (A = none → c = 0) := by
  rcases h.2 with ⟨rfl, rfl⟩ | ⟨g, cap, cur, rfl, _, hg, hn, hc, _⟩
  · exact ⟨none, 0, rfl, Nat.le_refl _, by simp [maxLen], fun _ => rfl⟩
  · exact ⟨_, _, rfl, hn, hc, fun h => by cases h⟩
theorem owns_some {w : World} {b : Nat} {e : TypeId} {size : Nat} {v : Value} {n : Nat} {xs : List Value} (h : w.ownsRow b e size v n xs) (hn : 0 < n) : ∃ g c, v = .slice (some ⟨g, 0, none⟩) n c ∧ n ≤ c ∧ c ≤ maxLen ∧ g < w.heap.size := by
  rcases h.2 with ⟨rfl, rfl⟩ | ⟨g, cap, cur, rfl, _, hg, hc, hm, _⟩
  · omega
  · exact ⟨_, _, rfl, hc, hm, (Array.getElem?_eq_some_iff.1 hg).1⟩
/-- The last elements let go: what is left is owned. -/
theorem owns_cut {w : World} {b : Nat} {e : TypeId} {size g n c : Nat} {xs : List Value} (h : w.ownsRow b e size (.slice (some ⟨g, 0, none⟩) n c) n xs) (m : Nat) (hm : m ≤ n) : w.ownsRow b e size (.slice (some ⟨g, 0, none⟩) m c) m (xs.take (m * size)) := by
  have hl := h.1
  rcases h.2 with ⟨h0, _⟩ | ⟨g', cap, cur, hv, hb, hg, hc, hmx, hcs, ht⟩
  · cases h0
  · injection hv with e1 _ e2
    injection e1 with e1
    injection e1 with e1 _ _
    subst e1 e2
    have hle : m * size ≤ n * size := Nat.mul_le_mul_right _ hm
    refine ⟨by rw [List.length_take, hl]; omega, .inr ⟨g, c, cur, rfl, hb, hg, by omega, hmx, hcs, ?_⟩⟩
    rw [← ht, List.take_take, Nat.min_eq_left hle]

section
variable {P : Program} {w : World} {e size bytes n : Nat} {xs : List Value}
/-- 'append' onto a row of the call's own: its block, or a new one. -/
theorem run_push (t ty : TypeId) (z : Value) (ht : P.underlying t = some (.slice e)) (hinfo : (P.info? e).map (fun i => (i.zero, i.size, i.bytes)) = some (some z, size, bytes))
    (hzs : z.cells.size = size) (hsz : 0 < size) (v : Value) (hown : w.ownsRow 0 e size v n xs) (a : Addr) (m c : Nat) (news : List Value) (hl : news.length = m * size) (hm : 0 < m)
    (hnews : ∀ j u, news[j]? = some u → w.cell? (a.add j) = some u) (h1 : ∀ u ∈ news, u.oneCell' = true) (h63 : n + m ≤ maxLen) (hbytes : (n + m) * bytes ≤ 140737488355328) :
    ∃ v' w', (Builtin.append_ #[t, t] ty #[v, .slice (some a) m c]).run P w = .ok v' w' ∧ w'.ownsRow 0 e size v' (n + m) (xs ++ news) ∧ w.grownBy w' v.ownBlock ∧ (∀ g, v'.ownBlock = some g → v.ownBlock = some g ∨ w.heap.size ≤ g) := by
  obtain ⟨i, hi, hz, hsize, hby⟩ := info_parts hinfo
  obtain ⟨v', w', hr, h2, h3, h4⟩ := run_append_own (P := P) w 0 t ty e i z size bytes ht hi hz hsize hby hzs hsz v n xs hown a m c news hl hnews h1 h63 hbytes (Nat.zero_le _)
  refine ⟨v', w', hr, h2, h3, fun g hg => ?_⟩
  rcases hown.2 with ⟨rfl, rfl⟩ | ⟨g0, cap, cur, rfl, _, hg0, hnc, hcm, hcs, htake⟩
  · have hx : xs = [] := List.eq_nil_of_length_eq_zero (by simpa using hown.1)
    subst hx
    obtain ⟨v2, w2, hr2, h22, _, _⟩ := run_append_own (P := P) w w.heap.size t ty e i z size bytes ht hi hz hsize hby hzs hsz _ 0 [] (World.ownsRow_nil w _ e size) a m c news hl hnews h1 h63 hbytes (Nat.le_refl _)
    rw [hr] at hr2
    injection hr2 with hv hw
    subst hv
    exact .inr (h22.lt g hg).1
  · by_cases hroom : n + m ≤ cap
    · obtain ⟨w2, hr2, _⟩ := run_append_fits (P := P) w 0 t ty e i size ht hi hsize g0 n cap xs hown a m c news hl hnews h1 hroom
      rw [hr] at hr2
      injection hr2 with hv hw
      subst hv
      exact .inl hg
    · have hsmall : n + m ≤ 9223372036854775807 := by simp only [maxLen] at h63; omega
      subst hsize
      have holds : ∀ j u, xs[j]? = some u → w.cell? ((⟨g0, 0, none⟩ : Addr).add j) = some u := hown.cells (g := g0) rfl
      have hr2 := run_append_grow (P := P) w t ty e i z ht hi hz ⟨g0, 0, none⟩ n cap xs hown.1 holds a m c news hl hnews (by omega) (by omega) (growslice_fits (by omega) (by rw [hby]; exact hbytes))
      rw [hr] at hr2
      injection hr2 with hv hw
      subst hv
      simp [Value.ownBlock] at hg
      exact .inr (by omega)
end

/-- A variable that was just made: a block of its own. -/
def newT (lo : Nat) (t : TypeId) (cs : List Value) : Told := fun v w => ∃ g, v = .pointer (some ⟨g, 0, none⟩) ∧ lo ≤ g ∧ Whole w g t cs
theorem newT_steady (lo : Nat) (t : TypeId) (cs : List Value) : Steady (newT lo t cs) := fun v w w' hb ⟨g, h1, h0, h2⟩ => ⟨g, h1, h0, h2.under hb h2.size⟩
theorem newT_new (lo : Nat) (t : TypeId) (cs : Array Value) (w : World) (h : lo ≤ w.heap.size) : Behind w (w.alloc (.cells cs t)) ∧ newT lo t cs.toList (.pointer (some ⟨w.heap.size, 0, none⟩)) (w.alloc (.cells cs t)) :=
  ⟨(Below.refl _ _).alloc (Nat.le_refl _) _, _, rfl, h, Whole.mk w t cs⟩
/-- .. a slice. -/
def rowT (lo n : Nat) (t : TypeId) (cs : List Value) : Told := fun v w => ∃ g, v = .slice (some ⟨g, 0, none⟩) n n ∧ lo ≤ g ∧ Whole w g t cs
theorem rowT_steady (lo n : Nat) (t : TypeId) (cs : List Value) : Steady (rowT lo n t cs) := fun v w w' hb ⟨g, h1, h0, h2⟩ => ⟨g, h1, h0, h2.under hb h2.size⟩
theorem rowT_new (lo n : Nat) (t : TypeId) (cs : Array Value) (w : World) (h : lo ≤ w.heap.size) : Behind w (w.alloc (.cells cs t)) ∧ rowT lo n t cs.toList (.slice (some ⟨w.heap.size, 0, none⟩) n n) (w.alloc (.cells cs t)) :=
  ⟨(Below.refl _ _).alloc (Nat.le_refl _) _, _, rfl, h, Whole.mk w t cs⟩
end Go.Proofs.Yteaenomfighaoaa
/- A block of integers of any type, read and written whole. No program is named here. -/
namespace Go.Proofs.Yteaenomfighaoaa
open Go Go.RowKit
set_option linter.unusedVariables false
set_option linter.unusedSimpArgs false

theorem flat_set (zs : List Int) (k : Nat) (n : Int) : (i64s zs).set k (.int .i64 n) = i64s (zs.set k n) := by simp [i64s, List.map_set]
theorem flat_one (zs : List Int) : (i64s zs).toArray.all (·.oneCell') = true :=
  Array.all_eq_true_iff_forall_mem.2 fun v hv => by
    have hv' : v ∈ i64s zs := by simpa using hv
    obtain ⟨z, _, rfl⟩ := List.mem_map.1 hv'
    rfl
section
variable {P : Program} {ops : Array Oper} {rest : List Oper} {o : Oper} {a : Act} {w : World} {Q : Exit → Act → World → Prop}
/-- Type t is a struct, or an array, of n cells. -/
def FlatT (P : Program) (t : TypeId) (n : Nat) : Prop := (∃ d, P.underlying t = some d ∧ (match d with | .struct _ | .array _ _ => true | _ => false) = true) ∧ (P.info? t).map (·.size) = some n
theorem flat_load {t : TypeId} {n : Nat} (ht : FlatT P t n) (x : Operand) (hgd : o.guard = none) (ho : o.op = .load t x) (g : Nat) (hx : a.eval x = .pointer (some ⟨g, 0, none⟩)) (zs : List Int) (hz : zs.length = n) (t0 : TypeId)
    (hw : Whole w g t0 (i64s zs)) (h : wpList P ops Q rest (a.put o.dst (.agg (i64s zs).toArray)) w) : wpList P ops Q (o :: rest) a w := by
  obtain ⟨⟨d, hd, hm⟩, hs⟩ := ht
  exact wpList_load_row hgd t x ho g hx t0 (i64s zs).toArray (0, 0) d hw hd (by cases d <;> first | rfl | exact hm) (by rw [hs]; simp [i64s_length, hz]) h
/-- .. of an operation that a guard has let through. -/
theorem flat_loadW {t : TypeId} {n : Nat} (ht : FlatT P t n) (x : Operand) (hgd : Region.wanted o (yielded ops a.tmps) = true) (ho : o.op = .load t x) (g : Nat) (hx : a.eval x = .pointer (some ⟨g, 0, none⟩)) (zs : List Int) (hz : zs.length = n) (t0 : TypeId)
    (hw : Whole w g t0 (i64s zs)) (h : wpList P ops Q rest (a.put o.dst (.agg (i64s zs).toArray)) w) : wpList P ops Q (o :: rest) a w := by
  obtain ⟨⟨d, hd, hm⟩, hs⟩ := ht
  exact wpList_wanted hgd fun _ hK => wp_load_row t x ho g hx t0 (i64s zs).toArray (0, 0) d hw hd (by cases d <;> first | rfl | exact hm) (by rw [hs]; simp [i64s_length, hz]) (hK _ _ h)
theorem flat_store {t : TypeId} {n : Nat} (ht : FlatT P t n) (x y : Operand) (hgd : o.guard = none) (ho : o.op = .store t x y) (g : Nat) (hx : a.eval x = .pointer (some ⟨g, 0, none⟩)) (zs : List Int) (hz : zs.length = n) (hy : a.eval y = .agg (i64s zs).toArray) (t0 : TypeId)
    (old : List Int) (hw : Whole w g t0 (i64s old)) (hold : old.length = n) (h : ∀ w', Whole w' g t0 (i64s zs) → Only [g] w w' → wpList P ops Q rest (a.put o.dst undef) w') : wpList P ops Q (o :: rest) a w :=
  wpList_plain hgd fun K hK => wp_store_row t x y ho g (i64s zs).toArray hx hy t0 (i64s old).toArray hw (by rw [ht.2]; simp [i64s_length, hz]) (by simp [i64s_length, hz, hold]) (flat_one zs)
    (hK _ _ (h _ (setRow_heap w g _ _ _ _ hw) ⟨rfl, rfl, rfl, by simp, fun k _ hk => setRow_other w g k _ (by simpa using hk)⟩))
theorem flat_end {t : TypeId} {n : Nat} (ht : FlatT P t n) {fn : Func} {p : Tmp} {R : Ending → World → Prop} (hr : fn.results = #[.cell p t]) (g : Nat) (hp : a.tmps.getD p undef = .pointer (some ⟨g, 0, none⟩)) (zs : List Int) (hz : zs.length = n) (t0 : TypeId)
    (hw : Whole w g t0 (i64s zs)) (hd : a.defers = []) (hR : R (.returned (.agg (i64s zs).toArray)) w) : bodyPost P fn R .ret a w := by
  obtain ⟨⟨d, hd', hm⟩, hs⟩ := ht
  exact bodyPost_ret (v := .agg (i64s zs).toArray) (results_cell_row hr a.tmps w g t0 (i64s zs).toArray (0, 0) d hp hw hd' (by cases d <;> first | rfl | exact hm) (by rw [hs]; simp [i64s_length, hz])) hd hR
theorem flat_gives {t : TypeId} {n : Nat} (ht : FlatT P t n) {o : Oper} {a : Act} {w : World} (x : Operand) (ho : o.op = .load t x) (g : Nat) (hx : a.eval x = .pointer (some ⟨g, 0, none⟩)) (zs : List Int) (hz : zs.length = n) (t0 : TypeId)
    (hw : Whole w g t0 (i64s zs)) : gives P o a w fun u _ => u = .agg (i64s zs).toArray := by
  obtain ⟨⟨d, hd', hm⟩, hs⟩ := ht
  have hr := run_loadVar_row (P := P) w g t0 t (i64s zs).toArray (0, 0) d hw hd' (by cases d <;> first | rfl | exact hm) (by rw [hs]; simp [i64s_length, hz])
  unfold gives execOp
  simp only [ho, hx, Instr.loadAt, Instr.sureAddr, Sem.run_bind, Sem.run_pure, Result.andThen_ok, hr]
  exact ⟨Behind.refl w, trivial⟩
end
/-- A text's length, in a region that draws its order. -/
theorem gives_len {P : Program} {o : Oper} {a : Act} {w : World} (x : Operand) (t : TypeId) (ho : o.op = .call { callee := .builtin .len, args := #[x], argTypes := #[t] }) (ht : P.underlying t = some .string) (s : ByteArray) (hx : a.eval x = .string s) :
    gives P o a w fun u _ => u = .int .i64 s.size := by
  have h := run_len_string (P := P) w t o.type s ht
  unfold gives execOp
  simp only [ho, resolve, invoke, builtin, Sem.run_bind, Sem.run_pure, Result.andThen_ok, List.map_toArray, List.map_cons, List.map_nil, hx, h]
  exact ⟨Behind.refl w, rfl⟩
/-- 'a[i]' of an array of integers, by value. -/
theorem run_index_ints {P : Program} {t e : TypeId} {n : Nat} {k : IntKind} (h : P.underlying t = some (.array n e)) (he : P.underlying e = some (.int .i64)) (hs : (P.info? e).map (·.size) = some 1) (zs : List Int) (hz : zs.length = n) (i : Nat) (hi : i < n) (w : World) :
    (Instr.index t (.agg (i64s zs).toArray) (.int k i)).run P w = .ok (.int .i64 (zs.getD i 0)) w := by
  have h1 : (0 : Int) ≤ i ∧ (i : Int) < n := by omega
  have hg : (i64s zs)[i]? = some (.int .i64 (zs.getD i 0)) := by simp [i64s, List.getD, List.getElem?_eq_getElem (show i < zs.length by omega)]
  have hsz : (sizeOf e).run P w = .ok 1 w := by
    cases hq : P.info? e with
    | none => simp [hq] at hs
    | some j =>
      have : j.size = 1 := by simpa [hq] using hs
      simp [sizeOf, typeInfo, hq, this, go_sem]
  simp [Instr.index, run_underlying h, asIntOf, h1, hsz, part, isAgg, run_underlying he, hg, hi, go_sem]
section
variable {w w' : World} {g : Nat} {t : TypeId} {zs : List Int}
theorem Whole.num (h : Whole w g t (i64s zs)) (i : Nat) (hi : i < zs.length) : w.cell? ⟨g, i, none⟩ = some (.int .i64 (zs.getD i 0)) := by
  rw [h.cell i]
  simp [i64s, List.getD, List.getElem?_eq_getElem hi]
theorem Whole.putNum (h : Whole w g t (i64s zs)) (i : Nat) (n : Int) : Whole (w.setCell ⟨g, i, none⟩ (.int .i64 n)) g t (i64s (zs.set i n)) := by
  rw [← flat_set]; exact h.put i _
end
end Go.Proofs.Yteaenomfighaoaa
/- A block of cells of any kinds read and written whole. No program is named here. -/
namespace Go.Proofs.Yteaenomfighaoaa
open Go Go.RowKit
set_option linter.unusedVariables false
set_option linter.unusedSimpArgs false

theorem cells_one {cs : List Value} (h : ∀ v ∈ cs, v.oneCell' = true) : cs.toArray.all (·.oneCell') = true := Array.all_eq_true_iff_forall_mem.2 fun v hv => h v (by simpa using hv)
section
variable {P : Program} {ops : Array Oper} {rest : List Oper} {o : Oper} {a : Act} {w : World} {Q : Exit → Act → World → Prop}
theorem cells_load {t : TypeId} {n : Nat} (ht : FlatT P t n) (x : Operand) (hgd : o.guard = none) (ho : o.op = .load t x) (g : Nat) (hx : a.eval x = .pointer (some ⟨g, 0, none⟩)) (cs : List Value) (hz : cs.length = n) (t0 : TypeId)
    (hw : Whole w g t0 cs) (h : wpList P ops Q rest (a.put o.dst (.agg cs.toArray)) w) : wpList P ops Q (o :: rest) a w := by
  obtain ⟨⟨d, hd, hm⟩, hs⟩ := ht
  exact wpList_load_row hgd t x ho g hx t0 cs.toArray (0, 0) d hw hd (by cases d <;> first | rfl | exact hm) (by rw [hs]; simp [hz]) h
theorem cells_loadW {t : TypeId} {n : Nat} (ht : FlatT P t n) (x : Operand) (hgd : Region.wanted o (yielded ops a.tmps) = true) (ho : o.op = .load t x) (g : Nat) (hx : a.eval x = .pointer (some ⟨g, 0, none⟩)) (cs : List Value) (hz : cs.length = n) (t0 : TypeId)
    (hw : Whole w g t0 cs) (h : wpList P ops Q rest (a.put o.dst (.agg cs.toArray)) w) : wpList P ops Q (o :: rest) a w := by
  obtain ⟨⟨d, hd, hm⟩, hs⟩ := ht
  exact wpList_wanted hgd fun _ hK => wp_load_row t x ho g hx t0 cs.toArray (0, 0) d hw hd (by cases d <;> first | rfl | exact hm) (by rw [hs]; simp [hz]) (hK _ _ h)
theorem cells_store {t : TypeId} {n : Nat} (ht : FlatT P t n) (x y : Operand) (hgd : o.guard = none) (ho : o.op = .store t x y) (g : Nat) (hx : a.eval x = .pointer (some ⟨g, 0, none⟩)) (cs : List Value) (hz : cs.length = n) (h1 : ∀ v ∈ cs, v.oneCell' = true) (hy : a.eval y = .agg cs.toArray) (t0 : TypeId)
    (old : List Value) (hw : Whole w g t0 old) (hold : old.length = n) (h : ∀ w', Whole w' g t0 cs → Only [g] w w' → wpList P ops Q rest (a.put o.dst undef) w') : wpList P ops Q (o :: rest) a w :=
  wpList_plain hgd fun K hK => wp_store_row t x y ho g cs.toArray hx hy t0 old.toArray hw (by rw [ht.2]; simp [hz]) (by simp [hz, hold]) (cells_one h1)
    (hK _ _ (h _ (setRow_heap w g _ _ _ _ hw) ⟨rfl, rfl, rfl, by simp, fun k _ hk => setRow_other w g k _ (by simpa using hk)⟩))
theorem cells_gives {t : TypeId} {n : Nat} (ht : FlatT P t n) {o : Oper} {a : Act} {w : World} (x : Operand) (ho : o.op = .load t x) (g : Nat) (hx : a.eval x = .pointer (some ⟨g, 0, none⟩)) (cs : List Value) (hz : cs.length = n) (t0 : TypeId)
    (hw : Whole w g t0 cs) : gives P o a w fun u _ => u = .agg cs.toArray := by
  obtain ⟨⟨d, hd', hm⟩, hs⟩ := ht
  have hr := run_loadVar_row (P := P) w g t0 t cs.toArray (0, 0) d hw hd' (by cases d <;> first | rfl | exact hm) (by rw [hs]; simp [hz])
  unfold gives execOp
  simp only [ho, hx, Instr.loadAt, Instr.sureAddr, Sem.run_bind, Sem.run_pure, Result.andThen_ok, hr]
  exact ⟨Behind.refl w, trivial⟩
theorem cells_end {t : TypeId} {n : Nat} (ht : FlatT P t n) {fn : Func} {p : Tmp} {R : Ending → World → Prop} (hr : fn.results = #[.cell p t]) (g : Nat) (hp : a.tmps.getD p undef = .pointer (some ⟨g, 0, none⟩)) (cs : List Value) (hz : cs.length = n) (t0 : TypeId)
    (hw : Whole w g t0 cs) (hd : a.defers = []) (hR : R (.returned (.agg cs.toArray)) w) : bodyPost P fn R .ret a w := by
  obtain ⟨⟨d, hd', hm⟩, hs⟩ := ht
  exact bodyPost_ret (v := .agg cs.toArray) (results_cell_row hr a.tmps w g t0 cs.toArray (0, 0) d hp hw hd' (by cases d <;> first | rfl | exact hm) (by rw [hs]; simp [hz])) hd hR
theorem cells_end2 {t : TypeId} {n : Nat} (ht : FlatT P t n) {fn : Func} {p u : Tmp} {R : Ending → World → Prop} (hr : fn.results = #[.cell p t, .tmp u]) (g : Nat) (hp : a.tmps.getD p undef = .pointer (some ⟨g, 0, none⟩)) (cs : List Value) (hz : cs.length = n) (t0 : TypeId)
    (hw : Whole w g t0 cs) (hd : a.defers = []) (hR : R (.returned (.tuple #[.agg cs.toArray, a.tmps.getD u undef])) w) : bodyPost P fn R .ret a w := by
  obtain ⟨⟨d, hd', hm⟩, hs⟩ := ht
  have h1 := run_loadVar_row (P := P) w g t0 t cs.toArray (0, 0) d hw hd' (by cases d <;> first | rfl | exact hm) (by rw [hs]; simp [hz])
  exact bodyPost_ret (v := .tuple #[.agg cs.toArray, a.tmps.getD u undef]) (by rw [results_cell_tmp hr, hp]; simp [asAddr, h1, Result.andThen]) hd hR
theorem cells_build (t : TypeId) (parts : Array (Nat × Operand)) (hgd : o.guard = none) (ho : o.op = .build t parts) (cs : List Value) (hf : P.built t (parts.map fun (i, x) => (i, a.eval x)).toList = some cs.toArray) (h : wpList P ops Q rest (a.put o.dst (.agg cs.toArray)) w) : wpList P ops Q (o :: rest) a w :=
  wpList_plain hgd fun K hK => wp_build t parts ho (by rw [hf]; rfl) (by rw [hf]; exact hK _ _ h)
theorem cells_buildW (t : TypeId) (parts : Array (Nat × Operand)) (hgd : Region.wanted o (yielded ops a.tmps) = true) (ho : o.op = .build t parts) (cs : List Value) (hf : P.built t (parts.map fun (i, x) => (i, a.eval x)).toList = some cs.toArray) (h : wpList P ops Q rest (a.put o.dst (.agg cs.toArray)) w) : wpList P ops Q (o :: rest) a w :=
  wpList_wanted hgd fun K hK => wp_build t parts ho (by rw [hf]; rfl) (by rw [hf]; exact hK _ _ h)
theorem built_gives {o : Oper} {a : Act} {w : World} (t : TypeId) (parts : Array (Nat × Operand)) (ho : o.op = .build t parts) (cells : Array Value) (hf : P.built t (parts.map fun (i, x) => (i, a.eval x)).toList = some cells) : gives P o a w fun u _ => u = .agg cells := by
  unfold gives execOp
  simp only [ho, Sem.run_bind, run_build w t _ cells hf, Result.andThen_ok, Sem.run_pure]
  exact ⟨Behind.refl w, trivial⟩
end
end Go.Proofs.Yteaenomfighaoaa
/- Regions that draw: calls whose arguments are told, and whose answer is told or known. No program is named here. -/
namespace Go.Proofs.Yteaenomfighaoaa
set_option linter.unusedVariables false
set_option linter.unusedSimpArgs false
open Go.RowKit

section
variable {P : Program} {ops : Array Oper} {w0 : World} {Fin : Env → Prop} {o : Oper} {r : List Oper} {a : Act} {F : List (Tmp × Told)} {d : Tmp}
theorem wanted_told {a' : Act} {w : World} (hw : Region.wanted o (yielded ops a.tmps) = true) (hg : clearB F (guardSlots ops o) = true) (hm : meets (envOf a F) (o.looksAt ops) a' w) : Region.wanted o (yielded ops a'.tmps) = true := by
  rw [same_wanted (a := a) fun s hs => ?_]
  · exact hw
  · have h1 := hm s (by
      unfold guardSlots at hs
      unfold Oper.looksAt
      exact List.mem_append_right _ hs)
    unfold envOf at h1
    rw [clear_spec hg hs] at h1
    exact h1
/-- What a slot is told to hold, at a frame that meets all that is told. -/
theorem told_at {a' : Act} {w : World} {t : Tmp} {f : FuncId} {xs : Array Operand} {ts : Array TypeId} (hop : o.op = .call { callee := .value (.func f), args := xs, argTypes := ts }) (hm : meets (envOf a F) (o.looksAt ops) a' w) (ht : Operand.tmp t ∈ xs) : envOf a F t (a'.tmps.getD t undef) w :=
  hm t (by
    unfold Oper.looksAt
    refine List.mem_append_left _ (List.mem_filterMap.2 ⟨.tmp t, ?_, rfl⟩)
    simp only [hop, Op.operands, Call.operands]
    simpa using ht)
theorem laneO_callT {f : FuncId} {fn : Func} {c : Code} {xs : Array Operand} {ts : Array TypeId} (T : Told) (hT : Steady T) (hop : o.op = .call { callee := .value (.func f), args := xs, argTypes := ts }) (ho : o.dst = some d)
    (hw : Region.wanted o (yielded ops a.tmps) = true) (hg : clearB F (guardSlots ops o) = true) (hf : P.funcs[f]? = some fn) (hname : (fn.name == "runtime.NumGoroutine") = false) (hb : fn.body = some c)
    (h : ∀ (a' : Act) (w : World), Behind w0 w → (∀ t, Operand.tmp t ∈ xs → envOf a F t (a'.tmps.getD t undef) w) → Calls P f (xs.map a'.eval) w fun e w' => ∃ v, e = .returned v ∧ Behind w w' ∧ T v w')
    (hr : laneO P ops w0 Fin r (envOf a ((d, T) :: F))) : laneO P ops w0 Fin (o :: r) (envOf a F) := by
  refine ⟨T, ⟨hT, fun a' w hb' hm => .inl (.inl ⟨wanted_told hw hg hm, ?_⟩)⟩, by rw [ho, upd_told]; exact hr⟩
  unfold gives
  rw [run_enter hop hf hname hb]
  exact ⟨Behind.refl w, h a' w hb' fun t ht => told_at hop hm ht⟩
theorem laneO_callV {f : FuncId} {fn : Func} {c : Code} {xs : Array Operand} {ts : Array TypeId} {v : Value} (hop : o.op = .call { callee := .value (.func f), args := xs, argTypes := ts }) (ho : o.dst = some d) (hd : d < a.tmps.size) (hF : F.lookup d = none)
    (hw : Region.wanted o (yielded ops a.tmps) = true) (hg : clearB F (guardSlots ops o) = true) (hf : P.funcs[f]? = some fn) (hname : (fn.name == "runtime.NumGoroutine") = false) (hb : fn.body = some c)
    (h : ∀ (a' : Act) (w : World), Behind w0 w → (∀ t, Operand.tmp t ∈ xs → envOf a F t (a'.tmps.getD t undef) w) → Calls P f (xs.map a'.eval) w fun e w' => e = .returned v ∧ Behind w w')
    (hr : laneO P ops w0 Fin r (envOf (a.put (some d) v) F)) : laneO P ops w0 Fin (o :: r) (envOf a F) := by
  refine laneO_use (by simp [notSelect, hop]) ho hd hF (fun a' w hb' hm => .inl ⟨wanted_told hw hg hm, ?_⟩) hr
  unfold gives
  rw [run_enter hop hf hname hb]
  exact ⟨Behind.refl w, (h a' w hb' fun t ht => told_at hop hm ht).mono fun e w' ⟨he, hb⟩ => ⟨v, he, hb, rfl⟩⟩
theorem gives_mono {P : Program} {o : Oper} {a : Act} {w : World} {T T' : Told} (h : gives P o a w T) (hT : ∀ v w', Behind w w' → T v w' → T' v w') : gives P o a w T' := by
  unfold gives at h ⊢
  split at h
  · exact ⟨h.1, hT _ _ h.1 h.2⟩
  · exact ⟨h.1, hT _ _ h.1 h.2⟩
  · obtain ⟨h1, h2⟩ := h
    exact ⟨h1, h2.mono fun e w'' ⟨v, he, hb, ht⟩ => ⟨v, he, hb, hT _ _ (Behind.trans h1 hb) ht⟩⟩
  · exact h.elim
/-- An operation on what is told, whose answer is told. -/
theorem laneO_gives (T : Told) (hT : Steady T) (ho : o.dst = some d) (hw : Region.wanted o (yielded ops a.tmps) = true) (hg : clearB F (guardSlots ops o) = true)
    (h : ∀ (a' : Act) (w : World), Behind w0 w → meets (envOf a F) (o.looksAt ops) a' w → gives P o a' w T) (hr : laneO P ops w0 Fin r (envOf a ((d, T) :: F))) : laneO P ops w0 Fin (o :: r) (envOf a F) := by
  refine ⟨T, ⟨hT, fun a' w hb' hm => .inl (.inl ⟨wanted_told hw hg hm, h a' w hb' hm⟩)⟩, by rw [ho, upd_told]; exact hr⟩
end
end Go.Proofs.Yteaenomfighaoaa
/- 'append' onto a row of the call's own, its place told: the old block, or a new one. No program is named here. -/
namespace Go.Proofs.Yteaenomfighaoaa
set_option linter.unusedVariables false
set_option linter.unusedSimpArgs false
open Go.RowKit

theorem own_raise {w : World} {b b' e size : Nat} {v : Value} {n : Nat} {xs : List Value} (h : w.ownsRow b e size v n xs) (hb : ∀ g, v.ownBlock = some g → b' ≤ g) : w.ownsRow b' e size v n xs := by
  refine ⟨h.1, ?_⟩
  rcases h.2 with h0 | ⟨g, cap, cur, hv, hg, rest⟩
  · exact .inl h0
  · exact .inr ⟨g, cap, cur, hv, hb g (by simp [hv, Value.ownBlock]), rest⟩
theorem own_zero {w : World} {b e size : Nat} {v : Value} {n : Nat} {xs : List Value} (h : w.ownsRow b e size v n xs) : w.ownsRow 0 e size v n xs := own_raise h fun _ _ => Nat.zero_le _
theorem own_low {w : World} {b e size : Nat} {v : Value} {n : Nat} {xs : List Value} (h : w.ownsRow b e size v n xs) : ∀ g, v.ownBlock = some g → b ≤ g := fun g hg => (h.lt g hg).1
theorem wpList_pushB {ops : Array Oper} {rest : List Oper} {o : Oper} {a : Act} {w : World} {Q : Exit → Act → World → Prop} {P : Program} (hw : Region.wanted o (yielded ops a.tmps) = true) (s x : Operand) (t : TypeId)
    (ho : o.op = .call { callee := .builtin .append, args := #[s, x], argTypes := #[t, t] })
    (base e size bytes : Nat) (z : Value) (ht : P.underlying t = some (.slice e)) (hinfo : (P.info? e).map (fun i => (i.zero, i.size, i.bytes)) = some (some z, size, bytes))
    (hzs : z.cells.size = size) (hsz : 0 < size) (n : Nat) (v : Value) (xs : List Value) (hs : a.eval s = v) (hown : w.ownsRow base e size v n xs) (hbase : base ≤ w.heap.size)
    (ad : Addr) (m c : Nat) (news : List Value) (hx : a.eval x = .slice (some ad) m c) (hl : news.length = m * size) (hm : 0 < m) (hnews : ∀ j u, news[j]? = some u → w.cell? (ad.add j) = some u) (h1 : ∀ u ∈ news, u.oneCell' = true)
    (h63 : n + m ≤ maxLen) (hbytes : (n + m) * bytes ≤ 140737488355328)
    (h : ∀ A' c' w', w'.ownsRow base e size (.slice A' (n + m) c') (n + m) (xs ++ news) → Only v.ownBlock.toList w w' → (∀ g, (Value.slice A' (n + m) c').ownBlock = some g → v.ownBlock = some g ∨ w.heap.size ≤ g) → wpList P ops Q rest (a.put o.dst (.slice A' (n + m) c')) w') : wpList P ops Q (o :: rest) a w :=
  wpList_wanted hw fun K hK => by
    obtain ⟨v', w', hr, h2, h3, h4⟩ := run_push (P := P) (w := w) t o.type z ht hinfo hzs hsz v (own_zero hown) ad m c news hl hm hnews h1 h63 hbytes
    obtain ⟨A', c', rfl, _⟩ := owns_nil h2
    have h5 := own_raise (b' := base) h2 fun g hg => by
      rcases h4 g hg with h6 | h6
      · exact own_low hown g h6
      · omega
    unfold Oper.wp execOp
    simp only [ho, resolve, invoke, builtin, Sem.run_bind, Sem.run_pure, Result.andThen_ok, List.map_toArray, List.map_cons, List.map_nil, hs, hx, hr]
    exact hK _ _ (h A' c' w' h5 (Only.of_grown h3) h4)
/-- One element of a literal that was just made. -/
theorem wpList_pushOne {ops : Array Oper} {rest : List Oper} {o : Oper} {a : Act} {w : World} {Q : Exit → Act → World → Prop} {P : Program} (hw : Region.wanted o (yielded ops a.tmps) = true) (s x : Operand) (t : TypeId)
    (ho : o.op = .call { callee := .builtin .append, args := #[s, x], argTypes := #[t, t] })
    (base e size bytes : Nat) (z : Value) (ht : P.underlying t = some (.slice e)) (hinfo : (P.info? e).map (fun i => (i.zero, i.size, i.bytes)) = some (some z, size, bytes))
    (hzs : z.cells.size = size) (hsz : 0 < size) (n : Nat) (v : Value) (xs : List Value) (hs : a.eval s = v) (hown : w.ownsRow base e size v n xs) (hbase : base ≤ w.heap.size)
    (g : Nat) (news : List Value) (hx : a.eval x = .slice (some ⟨g, 0, none⟩) 1 1) (hg : Whole w g e news) (hl : news.length = size) (h1 : ∀ u ∈ news, u.oneCell' = true)
    (h63 : n + 1 ≤ maxLen) (hbytes : (n + 1) * bytes ≤ 140737488355328)
    (h : ∀ A' c' w', w'.ownsRow base e size (.slice A' (n + 1) c') (n + 1) (xs ++ news) → Only v.ownBlock.toList w w' → (∀ g, (Value.slice A' (n + 1) c').ownBlock = some g → v.ownBlock = some g ∨ w.heap.size ≤ g) → wpList P ops Q rest (a.put o.dst (.slice A' (n + 1) c')) w') : wpList P ops Q (o :: rest) a w :=
  wpList_pushB hw s x t ho base e size bytes z ht hinfo hzs hsz n v xs hs hown hbase ⟨g, 0, none⟩ 1 1 news hx (by omega) (by decide) (fun j u hu => by rw [head_add, hg.cell j]; exact hu) h1 h63 hbytes h
theorem own_push {W w w' : World} {B : Nat} {v : Value} {e size n : Nat} {xs : List Value} (ho : w.ownsRow B e size v n xs) (hB : Below B W w) (hw : B ≤ w.heap.size) (h : Only v.ownBlock.toList w w') : Below B W w' :=
  hB.trans (h.below (fun x hx => (ho.lt x (by simpa using hx)).1) hw)
end Go.Proofs.Yteaenomfighaoaa
/- Items along a line in memory. -/
namespace Go.Proofs.Yteaenomfighaoaa
open Go Go.RowKit
set_option linter.unusedVariables false
set_option linter.unusedSimpArgs false

def alC (x : Al) : List Value := [.int .i64 x.b, .int .i64 x.a, .int .i64 x.s, .bool x.ab, .bool x.aa]
theorem alC_five : ∀ x, (alC x).length = 5 := fun _ => rfl
abbrev alV0 : Value := .agg #[.int .i64 0, .int .i64 0, .int .i64 0, .bool false, .bool false]
theorem al_info : (Try.prog.info? 27).map (fun i => (i.zero, i.size, i.bytes)) = some (some alV0, 5, 32) := by kernel_rfl
theorem Row.al {w : World} {B : Nat} {A : Option Addr} {L : List Al} (h : Row w B A (L.flatMap alC)) {k : Nat} (hk : k < L.length) : ∃ ad, A = some ad ∧ ad.block < B ∧ w.cell? (ad.add (k * 5)) = some (.int .i64 L[k].b) ∧
    w.cell? ⟨(ad.add (k * 5)).block, (ad.add (k * 5)).off + 1, none⟩ = some (.int .i64 L[k].a) ∧ w.cell? ⟨(ad.add (k * 5)).block, (ad.add (k * 5)).off + 2, none⟩ = some (.int .i64 L[k].s) ∧
    w.cell? ⟨(ad.add (k * 5)).block, (ad.add (k * 5)).off + 3, none⟩ = some (.bool L[k].ab) ∧ w.cell? ⟨(ad.add (k * 5)).block, (ad.add (k * 5)).off + 4, none⟩ = some (.bool L[k].aa) := by
  obtain ⟨ad, e, hb, h0, hj⟩ := h.rc alC_five (by decide) hk
  exact ⟨ad, e, hb, h0 _ rfl, hj 1 _ (by decide) rfl, hj 2 _ (by decide) rfl, hj 3 _ (by decide) rfl, hj 4 _ (by decide) rfl⟩
/-- What Place answers: an own row of the places. -/
def AlPost (inner : Int) (l : List Al) (j : Int) (rev : Bool) (W : World) (e : Ending) (w' : World) : Prop :=
  ∃ A c, e = .returned (.slice A l.length c) ∧ w'.ownsRow W.heap.size 2 1 (.slice A l.length c) l.length (i64s (placeA inner l j rev)) ∧ Below W.heap.size W w'
end Go.Proofs.Yteaenomfighaoaa
/- Slices of items along a line, opened. -/
namespace Go.Proofs.Yteaenomfighaoaa
open Go.Joins Go.ChangeShapes Go.WideShapes Go.RowKit Go.ChangeAt Go.Deep
set_option linter.unusedVariables false
set_option linter.unusedSimpArgs false

instance : Inhabited Al := ⟨⟨0, 0, false, false, 0⟩⟩
theorem un_alC (cs : List Value) (hl : cs.length = 5) (h : ∀ (i : Nat) (h : i < cs.length) (h' : i < [true, true, true, false, false].length), IsKind [true, true, true, false, false][i] cs[i]) : ∃ x : Al, cs = alC x := by
  match cs, hl, h with
  | [a, b, c, d, e], _, h =>
    obtain ⟨a', rfl, -⟩ := h 0 (by simp) (by simp)
    obtain ⟨b', rfl, -⟩ := h 1 (by simp) (by simp)
    obtain ⟨c', rfl, -⟩ := h 2 (by simp) (by simp)
    obtain ⟨d', rfl⟩ := h 3 (by simp) (by simp)
    obtain ⟨e', rfl⟩ := h 4 (by simp) (by simp)
    exact ⟨⟨a', b', d', e', c'⟩, rfl⟩
theorem open_als {H : Type} {enc : TypeId × Value → H} {w : World} {base : Nat} {spare : Nat → Bool} {held : Bool} {fuel n c : Nat} {A : Option Addr} {x : DataW H × List MemPlace}
    (h : DataW.trod enc Try.prog w base spare held fuel 22 (Value.slice A n c).cells.toList = some x) : ∃ l : List Al, n = l.length ∧ Row w w.heap.size A (l.flatMap alC) ∧ n ≤ c ∧ c ≤ maxLen ∧ (A = none → c = 0) :=
  open_mix_row (P := Try.prog) (f := alC) (C := 5) (d := 9) (e := 27) [true, true, true, false, false] alC_five Try.underlying22 (by kernel_rfl) (by decide) (by kernel_rfl) un_alC h
end Go.Proofs.Yteaenomfighaoaa
/- Two and three rows of the call's own, each made at once, side by side. No program is named here. -/
namespace Go.Proofs.Yteaenomfighaoaa
open Go Go.RowKit
set_option linter.unusedVariables false
set_option linter.unusedSimpArgs false

/-- A row of n cells at the head of block g. -/
abbrev RowG (w : World) (B : Nat) (e : TypeId) (g n : Nat) (xs : List Value) : Prop := w.ownsRow B e 1 (.slice (some ⟨g, 0, none⟩) n n) n xs
structure R2 (W w : World) (e1 e2 : TypeId) (g1 g2 n : Nat) (x1 x2 : List Value) : Prop where
  one : RowG w W.heap.size e1 g1 n x1
  two : RowG w W.heap.size e2 g2 n x2
  n12 : g1 ≠ g2
  low : Below W.heap.size W w
structure R3 (W w : World) (e1 e2 e3 : TypeId) (g1 g2 g3 n : Nat) (x1 x2 x3 : List Value) : Prop where
  one : RowG w W.heap.size e1 g1 n x1
  two : RowG w W.heap.size e2 g2 n x2
  three : RowG w W.heap.size e3 g3 n x3
  n12 : g1 ≠ g2
  n13 : g1 ≠ g3
  n23 : g2 ≠ g3
  low : Below W.heap.size W w
section
variable {W w w' : World} {e1 e2 e3 : TypeId} {g1 g2 g3 n : Nat} {x1 x2 x3 : List Value}
theorem rowG_lt {B : Nat} {e : TypeId} {g : Nat} {xs : List Value} (h : RowG w B e g n xs) : B ≤ g ∧ g < w.heap.size := h.lt g rfl
theorem rowG_put {B : Nat} {e : TypeId} {g : Nat} {xs : List Value} (h : RowG w B e g n xs) (j : Nat) (u : Value) : RowG (w.setCell ⟨g, j, none⟩ u) B e g n (xs.set j u) := (h.stored j u).1
theorem rowG_off {B : Nat} {e : TypeId} {g g' : Nat} {xs : List Value} (h : RowG w B e g n xs) (hn : g ≠ g') (j : Nat) (u : Value) : RowG (w.setCell ⟨g', j, none⟩ u) B e g n xs :=
  ((Only.refl [g'] w).setCell ⟨g', j, none⟩ (.inl (by simp)) u).owns h fun k hk hm => by
    have e1 : g = k := by simpa [Value.ownBlock] using hk
    have e2 : k = g' := by simpa using hm
    exact hn (e1.trans e2)
theorem below_put {B : Nat} {g : Nat} (h : Below B W w) (hg : B ≤ g) (j : Nat) (u : Value) : Below B W (w.setCell ⟨g, j, none⟩ u) := h.setCell (p := ⟨g, j, none⟩) hg u
theorem R2.put1 (h : R2 W w e1 e2 g1 g2 n x1 x2) (j : Nat) (u : Value) : R2 W (w.setCell ⟨g1, j, none⟩ u) e1 e2 g1 g2 n (x1.set j u) x2 :=
  ⟨rowG_put h.one j u, rowG_off h.two (Ne.symm h.n12) j u, h.n12, below_put h.low (rowG_lt h.one).1 j u⟩
theorem R2.put2 (h : R2 W w e1 e2 g1 g2 n x1 x2) (j : Nat) (u : Value) : R2 W (w.setCell ⟨g2, j, none⟩ u) e1 e2 g1 g2 n x1 (x2.set j u) :=
  ⟨rowG_off h.one h.n12 j u, rowG_put h.two j u, h.n12, below_put h.low (rowG_lt h.two).1 j u⟩
theorem R2.behind (h : R2 W w e1 e2 g1 g2 n x1 x2) (hb : Below w.heap.size w w') : R2 W w' e1 e2 g1 g2 n x1 x2 :=
  ⟨own_below h.one hb (Nat.le_refl _), own_below h.two hb (Nat.le_refl _), h.n12, h.low.trans (hb.mono h.low.size)⟩
theorem R2.made (h : R2 W w e1 e2 g1 g2 n x1 x2) (hb : Below w.heap.size w w') (h3 : RowG w' w.heap.size e3 g3 n x3) : R3 W w' e1 e2 e3 g1 g2 g3 n x1 x2 x3 := by
  have k := h.behind hb
  have l1 := rowG_lt h.one
  have l2 := rowG_lt h.two
  have l3 := rowG_lt h3
  exact ⟨k.one, k.two, own_raise h3 fun g hg => Nat.le_trans h.low.size (h3.lt g hg).1, h.n12, by omega, by omega, k.low⟩
theorem R3.two' (h : R3 W w e1 e2 e3 g1 g2 g3 n x1 x2 x3) : R2 W w e1 e2 g1 g2 n x1 x2 := ⟨h.one, h.two, h.n12, h.low⟩
theorem R3.put1 (h : R3 W w e1 e2 e3 g1 g2 g3 n x1 x2 x3) (j : Nat) (u : Value) : R3 W (w.setCell ⟨g1, j, none⟩ u) e1 e2 e3 g1 g2 g3 n (x1.set j u) x2 x3 :=
  ⟨rowG_put h.one j u, rowG_off h.two (Ne.symm h.n12) j u, rowG_off h.three (Ne.symm h.n13) j u, h.n12, h.n13, h.n23, below_put h.low (rowG_lt h.one).1 j u⟩
theorem R3.put2 (h : R3 W w e1 e2 e3 g1 g2 g3 n x1 x2 x3) (j : Nat) (u : Value) : R3 W (w.setCell ⟨g2, j, none⟩ u) e1 e2 e3 g1 g2 g3 n x1 (x2.set j u) x3 :=
  ⟨rowG_off h.one h.n12 j u, rowG_put h.two j u, rowG_off h.three (Ne.symm h.n23) j u, h.n12, h.n13, h.n23, below_put h.low (rowG_lt h.two).1 j u⟩
theorem R3.put3 (h : R3 W w e1 e2 e3 g1 g2 g3 n x1 x2 x3) (j : Nat) (u : Value) : R3 W (w.setCell ⟨g3, j, none⟩ u) e1 e2 e3 g1 g2 g3 n x1 x2 (x3.set j u) :=
  ⟨rowG_off h.one h.n13 j u, rowG_off h.two h.n23 j u, rowG_put h.three j u, h.n12, h.n13, h.n23, below_put h.low (rowG_lt h.three).1 j u⟩
theorem R3.behind (h : R3 W w e1 e2 e3 g1 g2 g3 n x1 x2 x3) (hb : Below w.heap.size w w') : R3 W w' e1 e2 e3 g1 g2 g3 n x1 x2 x3 :=
  ⟨own_below h.one hb (Nat.le_refl _), own_below h.two hb (Nat.le_refl _), own_below h.three hb (Nat.le_refl _), h.n12, h.n13, h.n23, h.low.trans (hb.mono h.low.size)⟩
end
theorem rowG_cell {w : World} {B : Nat} {e : TypeId} {g n : Nat} {xs : List Value} (h : RowG w B e g n xs) {j : Nat} {u : Value} (hj : j < n) (hu : xs[j]? = some u) : w.cell? ⟨g, j, none⟩ = some u := by
  rw [h.cellAt j (by omega)]; exact hu
theorem own_off {w : World} {B e m c : Nat} {Ap : Option Addr} {ps : List Value} (h : w.ownsRow B e 1 (.slice Ap m c) m ps) {g' : Nat} (hn : ∀ g, (Value.slice Ap m c).ownBlock = some g → g ≠ g') (j : Nat) (u : Value) : (w.setCell ⟨g', j, none⟩ u).ownsRow B e 1 (.slice Ap m c) m ps :=
  ((Only.refl [g'] w).setCell ⟨g', j, none⟩ (.inl (by simp)) u).owns h fun k hk hm => hn k hk (by simpa using hm)
end Go.Proofs.Yteaenomfighaoaa
/- Answers that are numbers and truth values. -/
namespace Go.Proofs.Yteaenomfighaoaa
open Go.RowKit

theorem ret_int {k : IntKind} {a b : Int} (h : a = b) : Ending.returned (.int k a) = .returned (.int k b) := by rw [h]
theorem ret_bool {a b : Bool} (h : a = b) : Ending.returned (.bool a) = .returned (.bool b) := by rw [h]
end Go.Proofs.Yteaenomfighaoaa
/- The gaps of items along a line as a list. No program is named here. -/
namespace Go.Proofs.Yteaenomfighaoaa
open Go.RowKit
set_option linter.unusedVariables false
set_option linter.unusedSimpArgs false

def gapT (f : Int) (l : List Al) (j : Int) (t : Nat) : Int := if t < 2 * l.length then (if t % 2 = 0 then gap1 f l j (t / 2) else gap2 f l j (t / 2)) else 0
/-- Two gaps an item, and one more. -/
def gapL (f : Int) (l : List Al) (j : Int) : List Int := (List.range (2 * l.length + 1)).map (gapT f l j)
theorem gapL_len (f : Int) (l : List Al) (j : Int) : (gapL f l j).length = 2 * l.length + 1 := by simp [gapL]
theorem gapV_len (f : Int) (l : List Al) (j : Int) {N : Nat} (h : 2 * l.length + 1 = N) : (i64s (gapL f l j)).length = N := by rw [i64s_length, gapL_len, h]
theorem gapV_get (f : Int) (l : List Al) (j : Int) {t : Nat} (h : t < 2 * l.length + 1) : (i64s (gapL f l j))[t]? = some (.int .i64 (gapT f l j t)) := by simp [i64s, gapL, h]
theorem gapT_1 (f : Int) (l : List Al) (j : Int) {k : Nat} (h : k < l.length) : gapT f l j (2 * k) = gap1 f l j k := by
  unfold gapT; rw [if_pos (by omega), if_pos (by omega), Nat.mul_div_cancel_left _ (by decide)]
theorem gapT_2 (f : Int) (l : List Al) (j : Int) {k : Nat} (h : k < l.length) : gapT f l j (2 * k + 1) = gap2 f l j k := by
  unfold gapT; rw [if_pos (by omega), if_neg (by omega), show (2 * k + 1) / 2 = k by omega]
theorem gapT_end (f : Int) (l : List Al) (j : Int) {t : Nat} (h : 2 * l.length ≤ t) : gapT f l j t = 0 := by unfold gapT; rw [if_neg (by omega)]
def noneV (N : Nat) : List Value := List.replicate N (.int .i64 0)
theorem noneV_len (N : Nat) : (noneV N).length = N := List.length_replicate
theorem noneV_get {N t : Nat} (h : t < N) : (noneV N)[t]? = some (.int .i64 0) := by simp [noneV, h]
/-- Its first t are told. -/
def gapM (f : Int) (l : List Al) (j : Int) (N t : Nat) : List Value := mixL (i64s (gapL f l j)) (noneV N) t
section
variable {f : Int} {l : List Al} {j : Int} {N : Nat}
theorem gapM_len (h : 2 * l.length + 1 = N) {t : Nat} (ht : t ≤ N) : (gapM f l j N t).length = N := by
  unfold gapM
  rw [mixL_len (by rw [gapV_len f l j h, noneV_len]) (by rw [noneV_len]; exact ht), noneV_len]
theorem gapM_zero : gapM f l j N 0 = noneV N := mixL_zero _ _
theorem gapM_set (h : 2 * l.length + 1 = N) {t : Nat} (ht : t < N) {z : Int} (hz : gapT f l j t = z) : (gapM f l j N t).set t (.int .i64 z) = gapM f l j N (t + 1) := by
  have h1 : (i64s (gapL f l j)).length = (noneV N).length := by rw [gapV_len f l j h, noneV_len]
  have h2 : t < (noneV N).length := by rw [noneV_len]; exact ht
  have h3 := mixL_set h1 h2
  have h4 : (i64s (gapL f l j))[t]'(by omega) = .int .i64 z := by
    have := gapV_get f l j (t := t) (by omega)
    rw [List.getElem?_eq_getElem (by omega)] at this
    injection this with e
    rw [e, hz]
  rw [h4] at h3
  exact h3
theorem gapM_stay (h : 2 * l.length + 1 = N) {t : Nat} (ht : t < N) (hz : gapT f l j t = 0) : gapM f l j N (t + 1) = gapM f l j N t := by
  have h1 : (i64s (gapL f l j)).length = (noneV N).length := by rw [gapV_len f l j h, noneV_len]
  have h2 : t < (noneV N).length := by rw [noneV_len]; exact ht
  refine mixL_same h1 h2 ?_
  have e1 := gapV_get f l j (t := t) (by omega)
  have e2 := noneV_get ht
  rw [List.getElem?_eq_getElem (by omega)] at e1 e2
  injection e1 with e1
  injection e2 with e2
  rw [e1, e2, hz]
theorem gapM_all (h : 2 * l.length + 1 = N) {t : Nat} (ht : t ≤ N) (hz : ∀ k, t ≤ k → k < N → gapT f l j k = 0) : gapM f l j N t = i64s (gapL f l j) := by
  have h1 : (i64s (gapL f l j)).length = (noneV N).length := by rw [gapV_len f l j h, noneV_len]
  have key : ∀ d, t + d ≤ N → gapM f l j N (t + d) = gapM f l j N t := by
    intro d
    induction d with
    | zero => intro _; rfl
    | succ d ih => intro hd; rw [← Nat.add_assoc, gapM_stay h (by omega) (hz _ (by omega) (by omega)), ih (by omega)]
  have h3 := key (N - t) (by omega)
  rw [show t + (N - t) = N by omega] at h3
  rw [← h3]
  unfold gapM
  have := mixL_all h1
  rwa [noneV_len] at this
theorem gapT_none (ha : isAuto f l = false) (h : ¬ (j = 3 ∧ 0 < f ∧ 1 < l.length)) (h' : ¬ (j = 4 ∧ 0 < f)) (t : Nat) : gapT f l j t = 0 := by
  have e := gaps_none ha h h' (t / 2)
  unfold gapT
  rw [e.1, e.2]
  split <;> (try split) <;> rfl
end
theorem ones_part {f : Int} {m : Nat} (h0 : 0 < f) (h1 : f ≤ 1152921504606846976) (hm : m ≤ 1000) : (shareZ f (onesA m)).length = m ∧ ∀ k (h : k < (shareZ f (onesA m)).length), (shareZ f (onesA m))[k] = partA f m k := by
  have F := onesA_facts (by omega : 0 ≤ f) h1 hm
  exact ⟨by rw [F.length, onesA_len], fun k h => F.get k h⟩
end Go.Proofs.Yteaenomfighaoaa
/- The gaps of items along a line by the places that get a part. No program is named here. -/
namespace Go.Proofs.Yteaenomfighaoaa
open Go.RowKit
set_option linter.unusedVariables false
set_option linter.unusedSimpArgs false

/-- Its first s are told, the others 0. -/
def mixG (g : Nat → Int) (N s : Nat) : List Int := (List.range N).map fun t => if t < s then g t else 0
theorem mixG_len (g : Nat → Int) (N s : Nat) : (mixG g N s).length = N := by simp [mixG]
theorem mixG_zero (g : Nat → Int) (N : Nat) : mixG g N 0 = List.replicate N 0 := by
  refine List.ext_getElem (by simp [mixG]) fun i h1 h2 => ?_
  simp [mixG]
theorem mixG_all (g : Nat → Int) (N : Nat) : mixG g N N = (List.range N).map g := by
  refine List.ext_getElem (by simp [mixG]) fun i h1 h2 => ?_
  have : i < N := by simpa [mixG] using h1
  simp [mixG, this]
theorem mixG_set (g : Nat → Int) {N s : Nat} {z : Int} (hz : g s = z) : (mixG g N s).set s z = mixG g N (s + 1) := by
  refine List.ext_getElem (by simp [mixG]) fun i h1 h2 => ?_
  rw [List.getElem_set]
  simp only [mixG, List.getElem_map, List.getElem_range]
  by_cases h : s = i
  · subst h; rw [if_pos rfl, if_pos (by omega), hz]
  · rw [if_neg h]
    by_cases h3 : i < s
    · rw [if_pos h3, if_pos (by omega)]
    · rw [if_neg h3, if_neg (by omega)]
theorem mixG_stay (g : Nat → Int) {N s : Nat} (hz : g s = 0) : mixG g N (s + 1) = mixG g N s := by
  refine List.ext_getElem (by simp [mixG]) fun i h1 h2 => ?_
  simp only [mixG, List.getElem_map, List.getElem_range]
  by_cases h3 : i < s
  · rw [if_pos h3, if_pos (by omega)]
  · by_cases h : i = s
    · subst h; rw [if_pos (by omega), if_neg h3, hz]
    · rw [if_neg h3, if_neg (by omega)]
theorem mixG_over (g : Nat → Int) {N s : Nat} (h : N ≤ s) : mixG g N s = mixG g N N := by
  refine List.ext_getElem (by simp [mixG]) fun i h1 h2 => ?_
  have : i < N := by simpa [mixG] using h1
  simp only [mixG, List.getElem_map, List.getElem_range]
  rw [if_pos (by omega), if_pos this]

/-- Places T get parts P, one behind the other. -/
def fillT (N : Nat) (T : List Nat) (P : List Int) : Nat → List Int
  | 0 => List.replicate N 0
  | k + 1 => (fillT N T P k).set (T.getD k 0) (P.getD k 0)
theorem fillT_len (N : Nat) (T : List Nat) (P : List Int) (k : Nat) : (fillT N T P k).length = N := by
  induction k with
  | zero => simp [fillT]
  | succ k ih => simp [fillT, ih]

/-- The places of automatic margins of the first k. -/
def autoI (l : List Al) (i : Nat) : List Nat := (if (l.map Al.ab).getD i false then [2 * i] else []) ++ (if (l.map Al.aa).getD i false then [2 * i + 1] else [])
def autoK (l : List Al) : Nat → List Nat
  | 0 => []
  | k + 1 => autoK l k ++ autoI l k
theorem autoI_len (l : List Al) {i : Nat} (h : i < l.length) : (autoI l i).length = bN l[i].ab + bN l[i].aa := by
  unfold autoI
  rw [getA Al.ab false h, getA Al.aa false h]
  cases l[i].ab <;> cases l[i].aa <;> rfl
theorem autoK_len (l : List Al) : ∀ k, k ≤ l.length → (autoK l k).length = autosA (l.take k)
  | 0, _ => by simp [autoK, autosA]
  | k + 1, h => by
    unfold autoK
    rw [List.length_append, autoK_len l k (by omega), autoI_len l h, autosA_take l h]; omega
theorem autoK_pre (l : List Al) {i : Nat} : ∀ k, i ≤ k → ∃ R, autoK l k = autoK l i ++ R
  | 0, h => ⟨[], by rw [show i = 0 by omega]; rfl⟩
  | k + 1, h => by
    by_cases e : i = k + 1
    · exact ⟨[], by rw [e, List.append_nil]⟩
    · obtain ⟨R, hR⟩ := autoK_pre l k (by omega : i ≤ k)
      exact ⟨R ++ autoI l k, by rw [autoK, hR, List.append_assoc]⟩
theorem autoK_lt (l : List Al) : ∀ k, ∀ t ∈ autoK l k, t < 2 * k
  | 0, t, h => by simp [autoK] at h
  | k + 1, t, h => by
    unfold autoK at h
    rcases List.mem_append.1 h with h | h
    · have := autoK_lt l k t h; omega
    · unfold autoI at h
      rcases List.mem_append.1 h with h | h <;> split at h <;> simp at h <;> omega
/-- The places by a way of justifying, of n items. -/
def betwT (m : Nat) : List Nat := (List.range m).map fun i => 2 * i + 1
def bothT (m : Nat) : List Nat := List.range (2 * m)
theorem betwT_succ (m : Nat) : betwT (m + 1) = betwT m ++ [2 * m + 1] := by unfold betwT; rw [List.range_succ]; simp
theorem bothT_succ (m : Nat) : bothT (m + 1) = bothT m ++ [2 * m, 2 * m + 1] := by
  unfold bothT; rw [show 2 * (m + 1) = 2 * m + 1 + 1 by omega, List.range_succ, List.range_succ, List.append_assoc]; rfl
theorem betwT_len (m : Nat) : (betwT m).length = m := by simp [betwT]
theorem bothT_len (m : Nat) : (bothT m).length = 2 * m := by simp [bothT]
def justT (n : Nat) (j : Int) : List Nat := if j = 3 then betwT (n - 1) else if j = 4 then bothT n else []
theorem justT_len (n : Nat) (j : Int) : (justT n j).length ≤ 2 * n := by
  unfold justT
  split
  · rw [betwT_len]; omega
  · split
    · rw [bothT_len]; omega
    · simp
theorem justT_lt {n : Nat} {j : Int} : ∀ t ∈ justT n j, t < 2 * n := fun t h => by
  unfold justT at h
  split at h
  · unfold betwT at h; simp at h; obtain ⟨a, h1, rfl⟩ := h; omega
  · split at h
    · unfold bothT at h; simpa using h
    · simp at h
def takeT (f : Int) (l : List Al) (j : Int) : List Nat := if isAuto f l then autoK l l.length else justT l.length j
theorem takeT_lt {f : Int} {l : List Al} {j : Int} : ∀ t ∈ takeT f l j, t < 2 * l.length := fun t h => by
  unfold takeT at h
  split at h
  · exact autoK_lt l _ t h
  · exact justT_lt t h
theorem takeT_len (f : Int) (l : List Al) (j : Int) : (takeT f l j).length ≤ 2 * l.length := by
  unfold takeT
  split
  · rw [autoK_len l _ (Nat.le_refl _), List.take_length]; exact autosA_le l
  · exact justT_len _ _
theorem takeT_getD {f : Int} {l : List Al} {j : Int} {k : Nat} (h : k < (takeT f l j).length) : (takeT f l j).getD k 0 < 2 * l.length := by
  have e : (takeT f l j).getD k 0 = (takeT f l j)[k] := by simp [List.getD, h]
  rw [e]; exact takeT_lt _ (List.getElem_mem h)
/-- Two gaps an item. -/
def gapR (f : Int) (l : List Al) (j : Int) : List Int := (List.range (2 * l.length)).map (gapT f l j)
theorem gapR_len (f : Int) (l : List Al) (j : Int) : (gapR f l j).length = 2 * l.length := by simp [gapR]
theorem gapR_get (f : Int) (l : List Al) (j : Int) {t : Nat} (h : t < 2 * l.length) : (i64s (gapR f l j))[t]? = some (.int .i64 (gapT f l j t)) := by simp [i64s, gapR, h]
theorem getD_app {A R : List Nat} {k : Nat} {x : Nat} {B : List Nat} (hk : A.length = k) : ((A ++ x :: B) ++ R).getD k 0 = x := by
  subst hk; simp [List.getD]
theorem getD_app2 {A R : List Nat} {k : Nat} {x y : Nat} {B : List Nat} (hk : A.length = k) : ((A ++ x :: y :: B) ++ R).getD (k + 1) 0 = y := by
  subst hk
  have : A ++ x :: y :: B = (A ++ [x]) ++ y :: B := by simp
  rw [this, getD_app (by simp)]
section
variable {f : Int} {l : List Al} {j : Int}
theorem fill_auto (h0 : 0 < f) (h1 : f ≤ 1152921504606846976) (hl : l.length ≤ 500) (ha : isAuto f l = true) (P : List Int) (hP : ∀ k, k < autosA l → P.getD k 0 = partA f (autosA l) k) :
    ∀ i, i ≤ l.length → fillT (2 * l.length) (autoK l l.length) P (autosA (l.take i)) = mixG (gapT f l j) (2 * l.length) (2 * i)
  | 0, _ => by
    rw [show autosA (l.take 0) = 0 by simp [autosA], Nat.mul_zero, mixG_zero]; rfl
  | i + 1, h => by
    have ih := fill_auto h0 h1 hl ha P hP i (by omega)
    have hk := autoK_len l i (by omega)
    obtain ⟨R, hR⟩ := autoK_pre l (i := i + 1) l.length h
    have hle := autosA_mono l (i + 1)
    rw [autosA_take l h] at hle
    have hI : autoI l i = (if l[i].ab then [2 * i] else []) ++ (if l[i].aa then [2 * i + 1] else []) := by
      unfold autoI; rw [getA Al.ab false h, getA Al.aa false h]
    have G1 : gapT f l j (2 * i) = if l[i].ab then partA f (autosA l) (autosA (l.take i)) else 0 := by
      rw [gapT_1 f l j h]; unfold gap1; rw [if_pos ha, getA Al.ab false h]
    have G2 : gapT f l j (2 * i + 1) = if l[i].aa then partA f (autosA l) (autosA (l.take i) + bN l[i].ab) else 0 := by
      rw [gapT_2 f l j h]; unfold gap2; rw [if_pos ha, getA Al.ab false h, getA Al.aa false h]
    rw [autosA_take l h, show 2 * (i + 1) = 2 * i + 1 + 1 by omega]
    rw [show autoK l (i + 1) = autoK l i ++ autoI l i from rfl, hI] at hR
    cases hab : l[i].ab <;> cases haa : l[i].aa <;> simp only [hab, haa, bN, if_true, if_false, Bool.false_eq_true, Nat.add_zero, List.nil_append, List.append_nil, List.cons_append] at hR hle G1 G2 ⊢
    · rw [mixG_stay _ G2, mixG_stay _ G1]; exact ih
    · have e : (autoK l l.length).getD (autosA (l.take i)) 0 = 2 * i + 1 := by rw [hR]; exact getD_app hk
      rw [fillT, ih, e, hP _ (by omega), ← mixG_stay _ G1, mixG_set _ G2]
    · have e : (autoK l l.length).getD (autosA (l.take i)) 0 = 2 * i := by rw [hR]; exact getD_app hk
      rw [fillT, ih, e, hP _ (by omega), mixG_set _ G1, mixG_stay _ G2]
    · have e : (autoK l l.length).getD (autosA (l.take i)) 0 = 2 * i := by rw [hR]; exact getD_app hk
      have e2 : (autoK l l.length).getD (autosA (l.take i) + 1) 0 = 2 * i + 1 := by rw [hR]; exact getD_app2 hk
      rw [fillT, fillT, ih, e, e2, hP _ (by omega), hP _ (by omega), mixG_set _ G1, mixG_set _ G2]
theorem fill_betw (h0 : 0 < f) (ha : isAuto f l = false) (hj : j = 3) (h2 : 1 < l.length) (P : List Int) (hP : ∀ k, k < l.length - 1 → P.getD k 0 = partA f (l.length - 1) k) :
    ∀ i, i ≤ l.length - 1 → fillT (2 * l.length) (betwT (l.length - 1)) P i = mixG (gapT f l j) (2 * l.length) (2 * i)
  | 0, _ => by rw [Nat.mul_zero, mixG_zero]; rfl
  | i + 1, h => by
    have ih := fill_betw h0 ha hj h2 P hP i (by omega)
    have G1 : gapT f l j (2 * i) = 0 := by
      rw [gapT_1 f l j (by omega)]; unfold gap1; rw [ha, if_neg (by simp), if_neg (by omega)]
    have G2 : gapT f l j (2 * i + 1) = partA f (l.length - 1) i := by
      rw [gapT_2 f l j (by omega)]; unfold gap2; rw [ha, if_neg (by simp), if_pos ⟨hj, h0, h2⟩, if_pos (by omega)]
    have e : (betwT (l.length - 1)).getD i 0 = 2 * i + 1 := by simp [betwT, List.getD, (by omega : i < l.length - 1)]
    rw [fillT, ih, e, hP _ (by omega), ← mixG_stay _ G1, mixG_set _ G2, show 2 * (i + 1) = 2 * i + 1 + 1 by omega]
theorem fill_both (h0 : 0 < f) (ha : isAuto f l = false) (hj : j = 4) (P : List Int) (hP : ∀ k, k < 2 * l.length → P.getD k 0 = partA f (2 * l.length) k) :
    ∀ i, i ≤ 2 * l.length → fillT (2 * l.length) (bothT l.length) P i = mixG (gapT f l j) (2 * l.length) i
  | 0, _ => by rw [mixG_zero]; rfl
  | i + 1, h => by
    have ih := fill_both h0 ha hj P hP i (by omega)
    have G : gapT f l j i = partA f (2 * l.length) i := by
      unfold gapT
      rw [if_pos (by omega)]
      split
      · unfold gap1; rw [ha, if_neg (by simp), if_pos ⟨hj, h0⟩, show 2 * (i / 2) = i by omega]
      · unfold gap2; rw [ha, if_neg (by simp), if_neg (by omega), if_pos ⟨hj, h0⟩, show 2 * (i / 2) + 1 = i by omega]
    have e : (bothT l.length).getD i 0 = i := by simp [bothT, List.getD, (by omega : i < 2 * l.length)]
    rw [fillT, ih, e, hP _ (by omega), mixG_set _ G]
theorem fill_all (h0 : 0 < f) (h1 : f ≤ 1152921504606846976) (hl : l.length ≤ 500) (m : Nat) (hm : (takeT f l j).length = m) :
    fillT (2 * l.length) (takeT f l j) (shareZ f (onesA m)) m = gapR f l j := by
  have hm2 := takeT_len f l j
  have S := ones_part (m := m) h0 h1 (by omega)
  have hP : ∀ k, k < m → (shareZ f (onesA m)).getD k 0 = partA f m k := fun k hk => by
    rw [← S.2 k (by omega)]; simp [List.getD, (by omega : k < (shareZ f (onesA m)).length)]
  have all : mixG (gapT f l j) (2 * l.length) (2 * l.length) = gapR f l j := mixG_all _ _
  rw [← all]
  by_cases ha : isAuto f l = true
  · have e : takeT f l j = autoK l l.length := by unfold takeT; rw [if_pos ha]
    have em : m = autosA l := by rw [← hm, e, autoK_len l _ (Nat.le_refl _), List.take_length]
    subst em
    have := fill_auto (j := j) h0 h1 hl ha _ hP l.length (Nat.le_refl _)
    rw [List.take_length] at this
    rw [e]; exact this
  · have ha : isAuto f l = false := by simpa using ha
    have e : takeT f l j = justT l.length j := by unfold takeT; rw [ha]; rfl
    rw [e] at hm ⊢
    by_cases h3 : j = 3
    · have e : justT l.length j = betwT (l.length - 1) := by unfold justT; rw [if_pos h3]
      rw [e] at hm ⊢
      rw [betwT_len] at hm
      subst hm
      by_cases h2 : 1 < l.length
      · rw [fill_betw h0 ha h3 h2 _ hP _ (Nat.le_refl _)]
        have G1 : gapT f l j (2 * (l.length - 1)) = 0 := by
          rw [gapT_1 f l j (by omega)]; unfold gap1; rw [ha, if_neg (by simp), if_neg (by omega)]
        have G2 : gapT f l j (2 * (l.length - 1) + 1) = 0 := by
          rw [gapT_2 f l j (by omega)]; unfold gap2; rw [ha, if_neg (by simp), if_pos ⟨h3, h0, h2⟩, if_neg (by omega)]
        rw [← mixG_stay _ G1, ← mixG_stay _ G2, show 2 * (l.length - 1) + 1 + 1 = 2 * l.length by omega]
      · have en : l.length - 1 = 0 := by omega
        rw [en, show fillT (2 * l.length) (betwT 0) (shareZ f (onesA 0)) 0 = List.replicate (2 * l.length) 0 from rfl, ← mixG_zero (gapT f l j)]
        have key : ∀ k, mixG (gapT f l j) (2 * l.length) k = mixG (gapT f l j) (2 * l.length) 0 := fun k => by
          induction k with
          | zero => rfl
          | succ k ih => rw [mixG_stay _ (gapT_none ha (by omega) (by omega) k), ih]
        rw [key (2 * l.length)]
    · by_cases h4 : j = 4
      · have e : justT l.length j = bothT l.length := by unfold justT; rw [if_neg h3, if_pos h4]
        rw [e] at hm ⊢
        rw [bothT_len] at hm
        subst hm
        exact fill_both h0 ha h4 _ hP _ (Nat.le_refl _)
      · have e : justT l.length j = [] := by unfold justT; rw [if_neg h3, if_neg h4]
        rw [e] at hm ⊢
        have hm : m = 0 := by rw [← hm]; rfl
        subst hm
        rw [show fillT (2 * l.length) [] (shareZ f (onesA 0)) 0 = List.replicate (2 * l.length) 0 from rfl, ← mixG_zero (gapT f l j)]
        have key : ∀ k, mixG (gapT f l j) (2 * l.length) k = mixG (gapT f l j) (2 * l.length) 0 := fun k => by
          induction k with
          | zero => rfl
          | succ k ih => rw [mixG_stay _ (gapT_none ha (by omega) (by omega) k), ih]
        rw [key (2 * l.length)]
theorem gapR_none (h0 : ¬ 0 < f) : gapR f l j = List.replicate (2 * l.length) 0 := by
  have ha : isAuto f l = false := by unfold isAuto; simp [h0]
  refine List.ext_getElem (by simp [gapR]) fun i h1 h2 => ?_
  simp only [gapR, List.getElem_map, List.getElem_range, List.getElem_replicate]
  exact gapT_none ha (by omega) (by omega) i
end
end Go.Proofs.Yteaenomfighaoaa
/- The arithmetic under math/bits.Div64: two digits of 32 bits, each found by a guess that is lowered. No program is named here. -/
namespace Go.Proofs.Yteaenomfighaoaa.DivNum

/-- One digit: V = y1 K + y0; the guess q (with r = u - q y1) is too great just if the test says so. -/
theorem test_iff (u d y1 y0 q r : Int) (h : q * y1 + r = u) (hV : 0 < y1 * 4294967296 + y0) :
    4294967296 * r + d < q * y0 ↔ (u * 4294967296 + d) / (y1 * 4294967296 + y0) < q := by
  rw [Int.ediv_lt_iff_lt_mul hV, Int.mul_add, ← Int.mul_assoc]
  subst h
  rw [Int.add_mul]
  omega
theorem digit_lt (u d y1 y0 : Int) (hu : u < y1 * 4294967296 + y0) (h0 : 0 ≤ u) (hd : d < 4294967296) : (u * 4294967296 + d) / (y1 * 4294967296 + y0) < 4294967296 := by
  rw [Int.ediv_lt_iff_lt_mul (by omega)]
  omega
theorem digit_nn (u d y1 y0 : Int) (h1 : 0 < y1 * 4294967296 + y0) (h0 : 0 ≤ u) (hd : 0 ≤ d) : 0 ≤ (u * 4294967296 + d) / (y1 * 4294967296 + y0) :=
  Int.ediv_nonneg (by omega) (by omega)
theorem guess_ge (u d y1 y0 : Int) (h1 : 0 < y1) (h0 : 0 ≤ y0) (hu : 0 ≤ u) (hd0 : 0 ≤ d) (hd : d < 4294967296) : (u * 4294967296 + d) / (y1 * 4294967296 + y0) ≤ u / y1 := by
  have hV : 0 < y1 * 4294967296 + y0 := by omega
  rw [Int.le_ediv_iff_mul_le h1]
  have hq : (u * 4294967296 + d) / (y1 * 4294967296 + y0) * (y1 * 4294967296 + y0) ≤ u * 4294967296 + d := Int.ediv_mul_le _ (by omega)
  have hn := digit_nn u d y1 y0 hV hu hd0
  generalize (u * 4294967296 + d) / (y1 * 4294967296 + y0) = q at hq hn ⊢
  rw [Int.mul_add, ← Int.mul_assoc] at hq
  have := Int.mul_nonneg hn h0
  omega
theorem guess_le (u y1 y0 : Int) (h1 : 2147483648 ≤ y1) (h0 : y0 < 4294967296) (hu : u < y1 * 4294967296 + y0) : u / y1 ≤ 4294967297 := by
  have : u / y1 < 4294967298 := by
    rw [Int.ediv_lt_iff_lt_mul (by omega)]
    omega
  omega
/-- Behind a break: the guess is not above K, and the rest is K or more: the guess is not too great. -/
theorem break_ok (u d y1 y0 q r : Int) (h : q * y1 + r = u) (hV : 0 < y1 * 4294967296 + y0) (hd : 0 ≤ d) (hq : q ≤ 4294967296) (hr : 4294967296 ≤ r) (h0 : 0 ≤ y0) (h0' : y0 < 4294967296) :
    q ≤ (u * 4294967296 + d) / (y1 * 4294967296 + y0) := by
  have := test_iff u d y1 y0 q r h hV
  have : q * y0 ≤ 4294967296 * y0 := Int.mul_le_mul_of_nonneg_right hq h0
  omega
/-- The two digits together. -/
theorem two_digits (u d1 d0 V : Int) (hV : 0 < V) :
    ((u * 4294967296 + d1) * 4294967296 + d0) / V = (u * 4294967296 + d1) / V * 4294967296 + ((u * 4294967296 + d1) % V * 4294967296 + d0) / V ∧
    ((u * 4294967296 + d1) * 4294967296 + d0) % V = ((u * 4294967296 + d1) % V * 4294967296 + d0) % V := by
  have e : (u * 4294967296 + d1) * 4294967296 + d0 = ((u * 4294967296 + d1) % V * 4294967296 + d0) + V * ((u * 4294967296 + d1) / V * 4294967296) := by
    have h := Int.mul_ediv_add_emod (u * 4294967296 + d1) V
    generalize (u * 4294967296 + d1) / V = q at *
    generalize (u * 4294967296 + d1) % V = r at *
    rw [← h, Int.add_mul, ← Int.mul_assoc]
    omega
  rw [e]
  constructor
  · rw [Int.add_mul_ediv_left _ _ (by omega)]; omega
  · rw [Int.add_mul_emod_self_left]
/-- What is left behind a digit, in arithmetic modulo 2^64. -/
theorem rest_wrap (u d V q R : Int) (h : V * q + R = u * 4294967296 + d) (h0 : 0 ≤ R) (h1 : R < 18446744073709551616) :
    ((u * 4294967296 % 18446744073709551616 + d) % 18446744073709551616 - (q * V) % 18446744073709551616) % 18446744073709551616 = R := by
  rw [Int.mul_comm] at h
  omega
theorem bitLen_bd (n : Nat) : ∀ x, x ≤ n → 0 < x → x < 2 ^ 64 → 2 ^ (Go.Lib.bitLen x) ≤ 2 * x ∧ x < 2 ^ (Go.Lib.bitLen x) := by
  induction n with
  | zero => intro x h h0; omega
  | succ n ih =>
    intro x h h0 hx
    have hh := Go.Lib.bitLen_half x (by omega) hx
    rw [hh, Nat.add_comm 1, Nat.pow_succ]
    by_cases h1 : x = 1
    · subst h1
      have : Go.Lib.bitLen (1 / 2) = 0 := by decide +kernel
      rw [this]; decide
    · have := ih (x / 2) (by omega) (by omega) (by omega)
      omega
/-- The shift that brings y's highest bit to the front. -/
theorem shift_of (y : Int) (h0 : 0 < y) (hy : y < 18446744073709551616) :
    ∃ z : Nat, z ≤ 63 ∧ Go.Lib.bitLen y.toNat = 64 - z ∧ 9223372036854775808 ≤ y * 2 ^ z ∧ y * 2 ^ z < 18446744073709551616 ∧ (2 : Int) ^ z * 2 ^ (64 - z) = 18446744073709551616 := by
  obtain ⟨y, rfl⟩ := Int.eq_ofNat_of_zero_le (Int.le_of_lt h0)
  rw [Int.toNat_natCast]
  have hbl := bitLen_bd y y (Nat.le_refl _) (by omega) (by omega)
  have hb64 := Go.Lib.bitLen_le y 64 (by omega) (by omega)
  have hb0 : 1 ≤ Go.Lib.bitLen y := by
    rcases Nat.eq_zero_or_pos (Go.Lib.bitLen y) with h | h
    · rw [h] at hbl; omega
    · exact h
  refine ⟨64 - Go.Lib.bitLen y, by omega, by omega, ?_⟩
  rw [show 64 - (64 - Go.Lib.bitLen y) = Go.Lib.bitLen y by omega]
  have hS : 2 ^ (64 - Go.Lib.bitLen y) * 2 ^ Go.Lib.bitLen y = 18446744073709551616 := by
    rw [← Nat.pow_add, show 64 - Go.Lib.bitLen y + Go.Lib.bitLen y = 64 by omega]
  have hSi : (2 : Int) ^ (64 - Go.Lib.bitLen y) * 2 ^ Go.Lib.bitLen y = 18446744073709551616 := by
    have := congrArg (fun n : Nat => (n : Int)) hS
    simpa using this
  have hp := Nat.two_pow_pos (64 - Go.Lib.bitLen y)
  have h1 := Nat.mul_lt_mul_of_pos_left hbl.2 hp
  have h2 := Nat.mul_le_mul_left (2 ^ (64 - Go.Lib.bitLen y)) hbl.1
  rw [hS, Nat.mul_comm] at h1
  rw [hS, Nat.mul_left_comm, Nat.mul_comm _ y] at h2
  have e : (y : Int) * 2 ^ (64 - Go.Lib.bitLen y) = ((y * 2 ^ (64 - Go.Lib.bitLen y) : Nat) : Int) := by simp
  rw [e]
  refine ⟨by omega, by omega, hSi⟩
theorem norm (h l y S B : Int) (hS : S * B = 18446744073709551616) (hSp : 0 < S) (hBp : 0 < B) (hh : h < y) (hl0 : 0 ≤ l) (hl : l < 18446744073709551616) :
    (h * 18446744073709551616 + l) * S = (h * S + l / B) * 18446744073709551616 + (l * S) % 18446744073709551616 ∧ h * S + l / B < y * S ∧ l / B < S ∧ 0 ≤ l / B := by
  have h1 := Int.mul_ediv_add_emod l B
  have h2 := Int.emod_lt_of_pos l hBp
  have h2' := Int.emod_nonneg l (Int.ne_of_gt hBp)
  have h3 : l * S = l / B * 18446744073709551616 + (l % B) * S := by
    rw [← hS]
    conv => lhs; rw [← h1]
    rw [Int.add_mul, Int.mul_comm B, Int.mul_assoc, Int.mul_comm B S]
  have h4 : (l % B) * S < 18446744073709551616 := by
    rw [← hS, Int.mul_comm]
    exact Int.mul_lt_mul_of_pos_left h2 hSp
  have h4' : 0 ≤ (l % B) * S := Int.mul_nonneg h2' (by omega)
  have h5 : l / B < S := by
    rw [Int.ediv_lt_iff_lt_mul hBp, hS]; exact hl
  have h6 : (h + 1) * S ≤ y * S := Int.mul_le_mul_of_nonneg_right hh (by omega)
  rw [Int.add_mul] at h6
  have h7 : 0 ≤ l / B := Int.ediv_nonneg hl0 (by omega)
  refine ⟨?_, by omega, h5, h7⟩
  rw [Int.add_mul, Int.add_mul, Int.mul_right_comm, h3]
  omega
/-- Shifted by S both sides: the quotient is as it was, the rest is shifted. -/
theorem shifted (N y S : Int) (hS : 0 < S) : (N * S) / (y * S) = N / y ∧ (N * S) % (y * S) / S = N % y := by
  refine ⟨Int.mul_ediv_mul_of_pos_left _ _ hS, ?_⟩
  rw [Int.mul_comm N, Int.mul_comm y, Int.mul_emod_mul_of_pos _ _ hS, Int.mul_ediv_cancel_left _ (by omega)]
end Go.Proofs.Yteaenomfighaoaa.DivNum
/- unit.sharable. -/
namespace Go.Proofs.Yteaenomfighaoaa
open Go Go.RowKit
set_option linter.unusedVariables false
set_option linter.unusedSimpArgs false
set_option maxRecDepth 20000
set_option maxHeartbeats 4000000

theorem sharable_any (n : Int) (w : World) :
    Calls Try.prog 37 #[.int .i64 n] w fun e w' => e = .returned (.bool (decide (-1152921504606846976 ≤ n ∧ n ≤ 1152921504606846976))) ∧ w = w' := by
  go_enter Try.func37, Try.ntmps37
  go_wp2
  all_goals (go_ret; exact ⟨ret_bool (by simp <;> omega), rfl⟩)
end Go.Proofs.Yteaenomfighaoaa
/- 'append([]T{}, xs...)' in a region that draws its order: xs of any length. No program is named here. -/
namespace Go.Proofs.Yteaenomfighaoaa
open Go Go.RowKit
set_option linter.unusedVariables false
set_option linter.unusedSimpArgs false

/-- A slice of the call's own. -/
def ownsT (B0 : Nat) (e : TypeId) (size n : Nat) (xs : List Value) : Told := fun v w => ∃ A c, v = .slice A n c ∧ w.ownsRow B0 e size (.slice A n c) n xs
theorem ownsT_steady (B0 : Nat) (e : TypeId) (size n : Nat) (xs : List Value) : Steady (ownsT B0 e size n xs) := fun v w w' hb ⟨A, c, h1, h2⟩ => ⟨A, c, h1, own_below h2 hb (Nat.le_refl _)⟩
theorem own_none {w : World} {lo g : Nat} {e : TypeId} {size : Nat} (h : Whole w g e []) (hl : lo ≤ g) : w.ownsRow lo e size (.slice (some ⟨g, 0, none⟩) 0 0) 0 [] :=
  ⟨by simp, .inr ⟨g, 0, #[], rfl, hl, h, Nat.le_refl _, by simp [maxLen], by simp, by simp⟩⟩
theorem append_lit0 {P : Program} {ops : Array Oper} {o : Oper} {a : Act} {w : World} {lo : Nat} (hw : Region.wanted o (yielded ops a.tmps) = true) (hlo : lo ≤ w.heap.size) (s x : Operand) (t e : TypeId) (size bytes : Nat) (z : Value) (hop : o.op = .call { callee := .builtin .append, args := #[s, x], argTypes := #[t, t] })
    (ht : P.underlying t = some (.slice e)) (hinfo : (P.info? e).map (fun i => (i.zero, i.size, i.bytes)) = some (some z, size, bytes)) (hzs : z.cells.size = size) (hsz : 0 < size)
    (hs : rowT lo 0 e [] (a.eval s) w) (ao : Option Addr) (m c : Nat) (news : List Value) (hx : a.eval x = .slice ao m c) (hnil : ao = none → m = 0) (hn : news.length = m * size) (hc : ∀ ad, ao = some ad → ∀ j u, news[j]? = some u → w.cell? (ad.add j) = some u) (h1c : ∀ u ∈ news, u.oneCell' = true)
    (hm : m ≤ maxLen) (hb : m * bytes ≤ 140737488355328) : givesBy P ops o a w (ownsT lo e size m news) := by
  refine ⟨hw, fun K Q hK => ?_⟩
  obtain ⟨i0, hi0, hz0, hz1, hz2⟩ := info_parts hinfo
  obtain ⟨g, hs1, hs2, hs3⟩ := hs
  by_cases h0 : m = 0
  · subst h0
    have hnews : news = [] := List.eq_nil_of_length_eq_zero (by simpa using hn)
    subst hnews
    have hsrc : Src P i0.size t (.slice ao 0 c) 0 [] w := by
      cases ao with
      | none => exact Src.ofNil w ht c
      | some ad => exact Src.ofSlice w ht ad 0 c [] (by simp) (by simp) (by simp)
    have hrun := run_append_nothing (P := P) w t t o.type e i0 ht hi0 (some ⟨g, 0, none⟩) 0 0 (Nat.le_refl _) (.slice ao 0 c) hsrc
    unfold Oper.wp execOp
    simp only [hop, resolve, invoke, builtin, Sem.run_bind, Sem.run_pure, Result.andThen_ok, List.map_toArray, List.map_cons, List.map_nil, hs1, hx, hrun]
    exact hK _ _ (Behind.refl w) ⟨_, _, rfl, own_none hs3 hs2⟩
  · cases ao with
    | none => exact absurd (hnil rfl) h0
    | some ad =>
      obtain ⟨v', w', hrun, r1, r2⟩ := run_append_arg_grows (P := P) w t o.type e i0 z size bytes ht hi0 hz0 hz1 hz2 hzs hsz ⟨g, 0, none⟩ 0 0 [] (by simp) (fun j u hu => by simp at hu) ad m c news hn (hc ad rfl) (by omega) (by omega) (by rw [Nat.zero_add]; exact hb)
      rw [Nat.zero_add, List.nil_append] at r1
      obtain ⟨A, cc, rfl⟩ := own_shape r1
      unfold Oper.wp execOp
      simp only [hop, resolve, invoke, builtin, Sem.run_bind, Sem.run_pure, Result.andThen_ok, List.map_toArray, List.map_cons, List.map_nil, hs1, hx, hrun]
      exact hK _ _ ⟨r2.os, r2.tape, r2.output, r2.size, fun b hb => r2.block b hb (by simp)⟩ ⟨A, cc, rfl, own_raise r1 fun g' hg' => Nat.le_trans hlo (own_low r1 g' hg')⟩
theorem own_cap {w : World} {b e size n c : Nat} {A : Option Addr} {xs : List Value} (h : w.ownsRow b e size (.slice A n c) n xs) : n ≤ c := by
  obtain ⟨A', c', e, hc, -⟩ := owns_nil h
  injection e with _ _ e2
  subst e2
  exact hc
theorem own_head {w : World} {b e size n c : Nat} {A : Option Addr} {xs : List Value} (h : w.ownsRow b e size (.slice A n c) n xs) (hn : 0 < n) : ∃ g, A = some ⟨g, 0, none⟩ := by
  obtain ⟨g, c', e, -⟩ := owns_some h hn
  injection e with e _ _
  exact ⟨g, e⟩
end Go.Proofs.Yteaenomfighaoaa
/- quoinlaw16.Same of two rows that are the same: out of StkAwake. -/
namespace Go.Proofs.Yteaenomfighaoaa
open Go Go.RowKit
set_option linter.unusedVariables false
set_option linter.unusedSimpArgs false
set_option maxRecDepth 20000
set_option maxHeartbeats 4000000

theorem ksame_any (A B : Option Addr) (c d n : Nat) (zs : List Int) (w : World) (C D : Nat) (hr : Row w C A (i64s zs)) (hs : Row w D B (i64s zs)) (hn : zs.length = n) (hm : n ≤ 9223372036854775807) :
    Calls Try.prog 10 #[.slice A n c, .slice B n d] w fun e w' => e = .returned (.bool true) ∧ ∃ k, w' = w.drewN k := by
  have HN := Lib.hid hn
  clear hn
  go_enter Try.func10, Try.ntmps10
  go_wp2
  go_loopw [5] (fun i wr => ∃ k q : Nat, k ≤ n ∧ i = .int .i64 k ∧ wr = w.drewN q) (fun i _ => n - (intOf i).toNat)
  case atStart => exact ⟨0, 0, Nat.zero_le _, rfl, rfl⟩
  case round =>
    obtain ⟨k, q, hk, rfl, rfl⟩ := hrel
    by_cases hlt : k < n
    · obtain ⟨ad, rfl, _, hc⟩ := hr.int (show k < zs.length by rw [HN.out]; exact hlt)
      obtain ⟨ae, rfl, _, hd⟩ := hs.int (show k < zs.length by rw [HN.out]; exact hlt)
      clear hr hs
      generalize zs[k]'_ = z at *
      have hlt' : (k : Int) < (n : Int) := by omega
      go_wp2
      go_quiet (fail)
      go_wp2
      go_roundw
      case rel => exact ⟨k + 1, _, by omega, by go_num, rfl⟩
      case measure => simp [intOf]; omega
    · go_wp2
      go_ret
      exact ⟨rfl, _, rfl⟩
end Go.Proofs.Yteaenomfighaoaa
/- int64(uint64(a) % c). No program is named here. -/
namespace Go.Proofs.Yteaenomfighaoaa
open Go Go.RowKit

theorem conv_lt (a c : Int) (h1 : 1 ≤ c) (h2 : c ≤ 4611686018427387904) : ∃ k, wrap64 ((IntKind.u64.wrap a).tmod c) = k ∧ 0 ≤ k ∧ k < c := by
  have hw : 0 ≤ IntKind.u64.wrap a := by rw [IntKind.wrap_u64]; omega
  rw [Int.tmod_eq_emod_of_nonneg hw]
  have h3 := Int.emod_nonneg (IntKind.u64.wrap a) (show c ≠ 0 by omega)
  have h4 := Int.emod_lt_of_pos (IntKind.u64.wrap a) (show 0 < c by omega)
  refine ⟨IntKind.u64.wrap a % c, IntWalk.wrap64_in _ ⟨by omega, by omega⟩, h3, h4⟩
end Go.Proofs.Yteaenomfighaoaa
/- Go's quotient and the floor. No program is named here. -/
namespace Go.Proofs.Yteaenomfighaoaa
open Go Go.RowKit
set_option linter.unusedVariables false
set_option linter.unusedSimpArgs false
set_option maxRecDepth 20000
set_option maxHeartbeats 4000000

theorem tdiv_floor (a m : Int) (hm : 0 < m) : (a.tmod m < 0 → a.tdiv m - 1 = a / m) ∧ (0 ≤ a.tmod m → a.tdiv m = a / m) := by
  have h1 := @Int.tdiv_eq_ediv a m
  have h2 := @Int.tmod_eq_emod a m
  have h3 := Int.emod_nonneg a (Int.ne_of_gt hm)
  have h4 := Int.emod_lt_of_pos a hm
  have h5 : m.sign = 1 := Int.sign_eq_one_of_pos hm
  have h6 : (m.natAbs : Int) = m := by omega
  by_cases h : 0 ≤ a ∨ m ∣ a
  · rw [if_pos h] at h1 h2
    constructor <;> intro h' <;> omega
  · rw [if_neg h, h5] at h1
    rw [if_neg h] at h2
    constructor <;> intro h' <;> omega
theorem tdiv_bd (a m : Int) (hm : 0 < m) (h0 : -6917529027641081856 ≤ a) (h1 : a ≤ 6917529027641081856) : -6917529027641081856 ≤ a / m ∧ a / m ≤ 6917529027641081856 := by
  have h := Int.mul_ediv_add_emod a m
  have h3 := Int.emod_nonneg a (Int.ne_of_gt hm)
  have h4 := Int.emod_lt_of_pos a hm
  constructor
  · by_cases ha : 0 ≤ a
    · have := Int.ediv_nonneg ha (Int.le_of_lt hm); omega
    · have : a ≤ a / m := by
        rw [Int.le_ediv_iff_mul_le hm]
        have : a * m ≤ a * 1 := Int.mul_le_mul_of_nonpos_left (by omega) (by omega)
        omega
      omega
  · by_cases ha : 0 ≤ a
    · have := Int.ediv_le_self m ha; omega
    · have : a / m < 0 := Int.ediv_neg_of_neg_of_pos (by omega) hm
      omega
end Go.Proofs.Yteaenomfighaoaa
/- quoinref1.down: out of RefPx. -/
namespace Go.Proofs.Yteaenomfighaoaa
open Go Go.RowKit
set_option linter.unusedVariables false
set_option linter.unusedSimpArgs false
set_option maxRecDepth 20000
set_option maxHeartbeats 4000000

theorem down_any (n d : Int) (w : World) (h0 : 1 ≤ d) (h1 : d ≤ 4611686018427387904) (hn : -6917529027641081856 ≤ n) (hn' : n ≤ 6917529027641081856) :
    Calls Try.prog 31 #[.int .i64 n, .int .i64 d] w fun e w' => e = .returned (.int .i64 (n / d)) ∧ w = w' := by
  have hd := tdiv_floor n d (by omega)
  have hb := tdiv_bd n d (by omega) hn hn'
  have hq : -9223372036854775807 ≤ n.tdiv d ∧ n.tdiv d ≤ 9223372036854775807 := by
    by_cases hs : n.tmod d < 0
    · have := hd.1 hs; omega
    · have := hd.2 (by omega); omega
  obtain ⟨hq1, hq2⟩ := hq
  by_cases hs : n.tmod d < 0
  · have h := Lib.hid (hd.1 hs)
    clear hd hb
    go_enter Try.func31, Try.ntmps31
    go_wp2
    go_ret
    exact ⟨ret_int h.out, rfl⟩
  · have h := Lib.hid (hd.2 (by omega))
    clear hd hb
    go_enter Try.func31, Try.ntmps31
    go_wp2
    go_ret
    exact ⟨ret_int h.out, rfl⟩
end Go.Proofs.Yteaenomfighaoaa
/- quoinref1.Half, quoinref1.Ones. -/
namespace Go.Proofs.Yteaenomfighaoaa
open Go Go.RowKit
set_option linter.unusedVariables false
set_option linter.unusedSimpArgs false
set_option maxRecDepth 20000
set_option maxHeartbeats 4000000

theorem rhalf_any (n : Int) (w : World) (hn : -6917529027641081856 ≤ n) (hn' : n ≤ 6917529027641081856) : Calls Try.prog 22 #[.int .i64 n] w fun e w' => e = .returned (.int .i64 (n / 2)) ∧ w = w' := by
  go_enter Try.func22, Try.ntmps22
  go_wp2_with (go_at_call 31; refine (down_any _ _ _ (by omega) (by omega) (by omega) (by omega)).mono ?_; rintro e w' ⟨rfl, rfl⟩)
  go_ret
  exact ⟨rfl, rfl⟩
theorem i64o_info : (Try.prog.info? 2).map (fun i => (i.zero, i.size, i.bytes)) = some (some (.int .i64 0), 1, 8) := by kernel_rfl
theorem rones_any (m : Nat) (hm : m ≤ 1000000) (W : World) :
    Calls Try.prog 21 #[.int .i64 m] W fun e w' => ∃ A c, e = .returned (.slice A m c) ∧ w'.ownsRow W.heap.size 2 1 (.slice A m c) m (i64s (onesA m)) ∧ Below W.heap.size W w' := by
  go_enter Try.func21, Try.ntmps21
  go_wp2_with fail
  go_loopw [3, 4] (fun v3 v4 wr => ∃ (k : Nat) (A1 : Option Addr) (c1 : Nat), v3 = .slice A1 k c1 ∧ v4 = .int .i64 k ∧ k ≤ m ∧ Hid (wr.ownsRow W.heap.size 2 1 (.slice A1 k c1) k (i64s (onesA k))) ∧ Hid (Below W.heap.size W wr)) (fun _ v4 _ => m - (intOf v4).toNat)
  case atStart => exact ⟨0, none, 0, rfl, rfl, Nat.zero_le _, Lib.hid ⟨rfl, .inl ⟨rfl, rfl⟩⟩, Lib.hid (Below.refl _ _)⟩
  case round =>
    obtain ⟨k, A1, c1, rfl, rfl, hk, O, B⟩ := hrel
    by_cases hlt : k < m
    · have hltz : (k : Int) < m := by omega
      have ET : Hid (i64s (onesA (k + 1)) = i64s (onesA k) ++ [.int .i64 1]) := Lib.hid (by
        unfold onesA; rw [List.replicate_succ', i64s_append]; rfl)
      have S1 := B.out.size
      have O1 := Lib.hid (own_below O.out ((Below.refl _ wr).alloc (Nat.le_refl _) (.cells #[.int .i64 1] 2)) (Nat.le_refl _))
      have B1 := Lib.hid (B.out.alloc S1 (.cells #[.int .i64 1] 2))
      clear O B
      go_upto_region 4 with (at_builtin; refine wpList_pushOne rfl (.tmp 10) (.tmp 11) _ rfl W.heap.size 2 1 8 (.int .i64 0) Try.underlying24 i64o_info rfl (by decide) k (.slice A1 k c1) _ rfl O1.out B1.out.size wr.heap.size [.int .i64 1] rfl (Whole.mk wr 2 #[.int .i64 1]) rfl (by simp [Value.oneCell']) (by unfold maxLen; omega) (by omega) ?_; intro A5 c5 w5 h5 ho5 hk5)
      have O5 : Hid (w5.ownsRow W.heap.size 2 1 (.slice A5 (k + 1) c5) (k + 1) (i64s (onesA (k + 1)))) := Lib.hid (by rw [ET.out]; exact h5)
      have B5 := Lib.hid (own_push O1.out B1.out B1.out.size ho5)
      clear h5 ho5 hk5 O1 B1
      go_wp2_with fail
      go_roundw
      case rel => exact ⟨k + 1, A5, c5, by go_num, by go_num, by omega, O5, B5⟩
      case measure => simp [intOf] <;> omega
    · obtain rfl : m = k := by omega
      have hltz : ¬ (m : Int) < m := by omega
      go_wp2_with fail
      go_ret
      exact ⟨A1, c1, rfl, O.out, B.out⟩
end Go.Proofs.Yteaenomfighaoaa
