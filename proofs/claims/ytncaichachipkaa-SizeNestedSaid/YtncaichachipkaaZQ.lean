import Derived.WalkKit
import Derived.Below
import Derived.Deep.Draws
import Derived.OwnWalk
import Derived.Laws.OwnMore
import Derived.Laws.AppendOwnNone
import Derived.Lib.Hide
import Derived.Laws.BitsAllLaws
import Derived.Laws.BitsLemmas
import Derived.ProofKit
import Derived.OpenShut
import Derived.ShutString
import Derived.ChangeOld
import Derived.Deep.Slices
import Derived.Lib.SmallJoins
import Derived.Test.YtncaichachipkaaProg
import Derived.WalkLawsBesides
import Derived.WalkSpells
import Derived.Outline
import Derived.Laws.Rows
import Derived.Deep.Quiet
import Derived.StillTail
import Derived.Deep.QuietTactic
import Derived.BigQuiet
import Derived.Deep.Cut
import Derived.Deep.CutBlock
import Derived.Deep.DeepCutAuto
import Derived.Deep.CutRange
import Derived.LoopTactic
import Derived.Laws.Entries
import Derived.Laws.Tables
import Derived.Laws.ResultCell
/- Words for memory: a slice that reads as a list of cells, whatever its address; plain lemmas on lists of numbers. No program is named here. -/
namespace Go.Proofs.Ytncaichachipkaa
set_option linter.unusedVariables false
set_option linter.unusedSimpArgs false
open Go.RowKit

theorem add_block (a : Addr) (n : Nat) : (a.add n).block = a.block := by unfold Addr.add; split <;> rfl
theorem add_zero (a : Addr) : a.add 0 = a := by simp [Addr.add]

/-- The cells from A on are xs, in a block below B; where xs is empty nothing is asked of A. -/
def Row (w : World) (B : Nat) (A : Option Addr) (xs : List Value) : Prop :=
  0 < xs.length → ∃ ad, A = some ad ∧ ad.block < B ∧ ∀ i (h : i < xs.length), w.cell? (ad.add i) = some xs[i]

section
variable {w w' : World} {B B' : Nat} {A : Option Addr} {xs : List Value}
theorem Row.nil (w : World) (B : Nat) (A : Option Addr) : Row w B A [] := fun h => absurd h (by simp)
theorem Row.get (h : Row w B A xs) {k : Nat} (hk : k < xs.length) : ∃ ad, A = some ad ∧ ad.block < B ∧ w.cell? (ad.add k) = some xs[k] := by
  obtain ⟨ad, e, hb, hc⟩ := h (by omega)
  exact ⟨ad, e, hb, hc k hk⟩
theorem Row.keep (h : Row w B A xs) (hk : ∀ p : Addr, p.block < B → w'.cell? p = w.cell? p) : Row w' B A xs := fun hn => by
  obtain ⟨ad, e, hb, hc⟩ := h hn
  exact ⟨ad, e, hb, fun i hi => (hk _ (by rw [add_block]; exact hb)).trans (hc i hi)⟩
theorem Row.more (h : Row w B A xs) (hB : B ≤ B') : Row w B' A xs := fun hn => by
  obtain ⟨ad, e, hb, hc⟩ := h hn
  exact ⟨ad, e, by omega, hc⟩
theorem Row.below (h : Row w B A xs) (hb : Below B w w') : Row w' B A xs := h.keep fun _ hp => hb.cell hp
theorem Row.drew (h : Row w B A xs) : Row w.drew B A xs := h
theorem Row.drewN (h : Row w B A xs) (k : Nat) : Row (w.drewN k) B A xs := h
theorem Row.alloc (h : Row w B A xs) (hB : B ≤ w.heap.size) (o : Obj) : Row (w.alloc o) B A xs := h.keep fun p hp => World.cell?_alloc_lt w o p (by omega)
theorem Row.setCell (h : Row w B A xs) {p : Addr} (hB : B ≤ p.block) (u : Value) : Row (w.setCell p u) B A xs :=
  h.keep fun q hq => World.cell?_setCell_other w p q u (fun e => by subst e; omega)
theorem Row.undrew {n : Nat} (h : Row (w.drewN n) B A xs) : Row w B A xs := h
end


theorem head_add (g i : Nat) : (⟨g, 0, none⟩ : Addr).add i = ⟨g, i, none⟩ := by unfold Addr.add; split <;> simp_all
theorem row_new (w : World) (cs : Array Value) (t : TypeId) : Row (w.alloc (.cells cs t)) (w.heap.size + 1) (some ⟨w.heap.size, 0, none⟩) cs.toList := fun _ =>
  ⟨_, rfl, by simp, fun i hi => by
    rw [head_add, World.cell?_alloc_at _ _ _ _ rfl]
    simp at hi
    simp [hi]⟩

theorem Below.drewN' {B : Nat} {a w : World} (h : Below B a w) (n : Nat) : Below B a (w.drewN n) := ⟨h.os, h.tape, h.output, h.size, h.block⟩
theorem row_at (w : World) (g : Nat) (cs : Array Value) (t : TypeId) (hg : g = w.heap.size) : Row (w.alloc (.cells cs t)) (g + 1) (some ⟨g, 0, none⟩) cs.toList := by
  subst hg; exact row_new w cs t

section
variable {P : Program} {w w' : World} {base e size n c : Nat} {A : Option Addr} {xs : List Value}
theorem own_shape {v : Value} (h : w.ownsRow base e size v n xs) : ∃ A c, v = .slice A n c := by
  rcases h.2 with ⟨rfl, rfl⟩ | ⟨g, cap, cur, rfl, _⟩
  · exact ⟨none, 0, rfl⟩
  · exact ⟨_, _, rfl⟩
theorem row_of_own (h : w.ownsRow base e size (.slice A n c) n xs) : Row w w.heap.size A xs := fun hn => by
  rcases h.2 with ⟨_, h0⟩ | ⟨g, cap, cur, hv, _, hg, _⟩
  · have := h.1; rw [h0, Nat.zero_mul] at this; omega
  · injection hv with hA _ _
    subst hA
    have hlt : g < w.heap.size := (Array.getElem?_eq_some_iff.1 hg).1
    exact ⟨_, rfl, hlt, fun i hi => h.cells (g := g) rfl i _ (List.getElem?_eq_getElem hi)⟩
theorem own_below (h : w.ownsRow base e size (.slice A n c) n xs) {B : Nat} (hb : Below B w w') (hB : w.heap.size ≤ B) : w'.ownsRow base e size (.slice A n c) n xs := by
  refine ⟨h.1, ?_⟩
  rcases h.2 with h0 | ⟨g, cap, cur, hv, h1, h2, h3⟩
  · exact .inl h0
  · have hlt : g < w.heap.size := (Array.getElem?_eq_some_iff.1 h2).1
    exact .inr ⟨g, cap, cur, hv, h1, (hb.block g (by omega)).trans h2, h3⟩
theorem wpList_wanted {ops : Array Oper} {rest : List Oper} {o : Oper} {a : Act} {Q : Exit → Act → World → Prop} (hw : Region.wanted o (yielded ops a.tmps) = true)
    (h : ∀ K : Act → World → Prop, (∀ a w, wpList P ops Q rest a w → K a w) → o.wp P a w K Q) : wpList P ops Q (o :: rest) a w :=
  wpList_step fun K hK => by rw [if_pos hw]; exact h K hK
/-- 'xs = append(xs, ys...)' onto a slice of the call's own, the source a row wherever it lies; nil too. -/
theorem wp_push_all {o : Oper} {a : Act} {K : Act → World → Prop} {Q : Exit → Act → World → Prop} (s x : Operand) (t : TypeId)
    (ho : o.op = .call { callee := .builtin .append, args := #[s, x], argTypes := #[t, t] })
    (base e size bytes : Nat) (z : Value) (ht : P.underlying t = some (.slice e)) (hinfo : (P.info? e).map (fun i => (i.zero, i.size, i.bytes)) = some (some z, size, bytes))
    (hzs : z.cells.size = size) (hsz : 0 < size) (n c : Nat) (A : Option Addr) (xs : List Value) (hs : a.eval s = .slice A n c) (hown : w.ownsRow base e size (.slice A n c) n xs)
    (B m c' : Nat) (A' : Option Addr) (news : List Value) (hx : a.eval x = .slice A' m c') (hnil : A' = none → c' = 0) (hl : news.length = m * size) (hr : Row w B A' news) (h1 : ∀ u ∈ news, u.oneCell' = true)
    (h63 : n + m ≤ maxLen) (hbytes : (n + m) * bytes ≤ 140737488355328) (hbase : base ≤ w.heap.size)
    (h : ∀ A' c' w', w'.ownsRow base e size (.slice A' (n + m) c') (n + m) (xs ++ news) → Below base w w' → K (a.put o.dst (.slice A' (n + m) c')) w') : o.wp P a w K Q := by
  obtain ⟨i, hi, hz, hsize, hby⟩ := info_parts hinfo
  rcases A' with _ | ad
  · have hn : news = [] := by
      rcases Nat.eq_zero_or_pos news.length with h0 | h0
      · exact List.eq_nil_of_length_eq_zero h0
      · obtain ⟨ad, e, _⟩ := hr h0; cases e
    subst hn
    have hm : m = 0 := by
      have : 0 = m * size := hl
      rcases Nat.eq_zero_or_pos m with h0 | h0
      · exact h0
      · have := Nat.mul_pos h0 hsz; omega
    subst hm
    rw [hnil rfl] at hx
    have hrun := run_append_owned_none (P := P) (w := w) base t o.type e i size ht hi (.slice A n c) n xs hown
    have hK := h A c w (by simpa using hown) (Below.refl _ _)
    unfold Oper.wp execOp
    simp only [ho, resolve, invoke, builtin, Sem.run_bind, Sem.run_pure, Result.andThen_ok, List.map_toArray, List.map_cons, List.map_nil, hs, hx, hrun]
    exact hK
  · refine wp_append_own w s x t ho base e i z size bytes ht hi hz hsize hby hzs hsz (.slice A n c) n xs hs hown ad m c' news hx hl (fun j u hu => ?_) h1 h63 hbytes hbase ?_
    · obtain ⟨hj, rfl⟩ := List.getElem?_eq_some_iff.1 hu
      obtain ⟨ad', e', _, hc⟩ := hr (by omega)
      injection e' with e'
      subst e'
      exact hc j hj
    · intro v' w1 h2 h3 _
      obtain ⟨A', c1, rfl⟩ := own_shape h2
      refine h A' c1 w1 h2 ?_
      refine (Below.refl base w).grown h3 hbase fun k hk => ?_
      exact (hown.lt k hk).1
theorem wpList_push_all {ops : Array Oper} {rest : List Oper} {o : Oper} {a : Act} {Q : Exit → Act → World → Prop} (hw : Region.wanted o (yielded ops a.tmps) = true) (s x : Operand) (t : TypeId)
    (ho : o.op = .call { callee := .builtin .append, args := #[s, x], argTypes := #[t, t] })
    (base e size bytes : Nat) (z : Value) (ht : P.underlying t = some (.slice e)) (hinfo : (P.info? e).map (fun i => (i.zero, i.size, i.bytes)) = some (some z, size, bytes))
    (hzs : z.cells.size = size) (hsz : 0 < size) (n c : Nat) (A : Option Addr) (xs : List Value) (hs : a.eval s = .slice A n c) (hown : w.ownsRow base e size (.slice A n c) n xs)
    (B m c' : Nat) (A' : Option Addr) (news : List Value) (hx : a.eval x = .slice A' m c') (hnil : A' = none → c' = 0) (hl : news.length = m * size) (hr : Row w B A' news) (h1 : ∀ u ∈ news, u.oneCell' = true)
    (h63 : n + m ≤ maxLen) (hbytes : (n + m) * bytes ≤ 140737488355328) (hbase : base ≤ w.heap.size)
    (h : ∀ A' c' w', w'.ownsRow base e size (.slice A' (n + m) c') (n + m) (xs ++ news) → Below base w w' → wpList P ops Q rest (a.put o.dst (.slice A' (n + m) c')) w') : wpList P ops Q (o :: rest) a w :=
  wpList_wanted hw fun _ hK => wp_push_all s x t ho base e size bytes z ht hinfo hzs hsz n c A xs hs hown B m c' A' news hx hnil hl hr h1 h63 hbytes hbase fun A' c' w' h2 h3 => hK _ _ (h A' c' w' h2 h3)
/-- .. the element just laid in a block of its own. -/
theorem wpList_new {ops : Array Oper} {rest : List Oper} {o : Oper} {a : Act} {Q : Exit → Act → World → Prop} {cs : Array Value} (hw : Region.wanted o (yielded ops a.tmps) = true) (s x : Operand) (t : TypeId)
    (ho : o.op = .call { callee := .builtin .append, args := #[s, x], argTypes := #[t, t] })
    (base e size bytes : Nat) (z : Value) (ht : P.underlying t = some (.slice e)) (hinfo : (P.info? e).map (fun i => (i.zero, i.size, i.bytes)) = some (some z, size, bytes))
    (hzs : z.cells.size = size) (hsz : 0 < size) (n c : Nat) (A : Option Addr) (xs : List Value) (hs : a.eval s = .slice A n c) (hown : w.ownsRow base e size (.slice A n c) n xs)
    (hx : a.eval x = .slice (some ⟨w.heap.size, 0, none⟩) 1 1) (hb : (n + 1) * bytes ≤ 140737488355328 ∧ n + 1 ≤ maxLen ∧ base ≤ w.heap.size) (hl : cs.toList.length = size) (h1 : ∀ u ∈ cs.toList, u.oneCell' = true)
    (h : ∀ A' c' w', w'.ownsRow base e size (.slice A' (n + 1) c') (n + 1) (xs ++ cs.toList) → Below base w w' → wpList P ops Q rest (a.put o.dst (.slice A' (n + 1) c')) w') :
    wpList P ops Q (o :: rest) a (w.alloc (.cells cs e)) := by
  obtain ⟨hbytes, h63, hbase⟩ := hb
  have hbase' : base ≤ (w.alloc (.cells cs e)).heap.size := by simp; omega
  refine wpList_push_all hw s x t ho base e size bytes z ht hinfo hzs hsz n c A xs hs (hown.alloc _) (w.heap.size + 1) 1 1 (some ⟨w.heap.size, 0, none⟩) cs.toList hx (fun h => by cases h) (by omega) (row_new w cs e) h1 h63 hbytes hbase' (fun A' c' w' h2 h3 => h A' c' w' h2 (((Below.refl base w).alloc hbase _).trans h3))
/-- .. as a step of a region that draws its order. -/
theorem step_new {ops : Array Oper} {o : Oper} {a : Act} {K : Act → World → Prop} {Q : Exit → Act → World → Prop} {E : Prop} {cs : Array Value} (hw : Region.wanted o (yielded ops a.tmps) = true) (s x : Operand) (t : TypeId)
    (ho : o.op = .call { callee := .builtin .append, args := #[s, x], argTypes := #[t, t] })
    (base e size bytes : Nat) (z : Value) (ht : P.underlying t = some (.slice e)) (hinfo : (P.info? e).map (fun i => (i.zero, i.size, i.bytes)) = some (some z, size, bytes))
    (hzs : z.cells.size = size) (hsz : 0 < size) (n c : Nat) (A : Option Addr) (xs : List Value) (hs : a.eval s = .slice A n c) (hown : w.ownsRow base e size (.slice A n c) n xs)
    (hx : a.eval x = .slice (some ⟨w.heap.size, 0, none⟩) 1 1) (hb : (n + 1) * bytes ≤ 140737488355328 ∧ n + 1 ≤ maxLen ∧ base ≤ w.heap.size) (hl : cs.toList.length = size) (h1 : ∀ u ∈ cs.toList, u.oneCell' = true)
    (W : World) (hW : ∃ q, W = (w.alloc (.cells cs e)).drewN q)
    (h : ∀ A' c' w', w'.ownsRow base e size (.slice A' (n + 1) c') (n + 1) (xs ++ cs.toList) → Below base w w' → K (a.put o.dst (.slice A' (n + 1) c')) w') :
    if Region.wanted o (yielded ops a.tmps) = true then Oper.wp P o a W K Q else E := by
  obtain ⟨hbytes, h63, hbase⟩ := hb
  obtain ⟨q, rfl⟩ := hW
  have hbase' : base ≤ ((w.alloc (.cells cs e)).drewN q).heap.size := by show base ≤ (w.alloc (.cells cs e)).heap.size; simp; omega
  rw [if_pos hw]
  refine wp_push_all (w := (w.alloc (.cells cs e)).drewN q) s x t ho base e size bytes z ht hinfo hzs hsz n c A xs hs (show ((w.alloc (.cells cs e)).drewN q).ownsRow base e size _ n xs from hown.alloc _) (w.heap.size + 1) 1 1 (some ⟨w.heap.size, 0, none⟩) cs.toList hx (fun h => by cases h) (by omega) (Row.drewN (row_new w cs e) q) h1 h63 hbytes hbase' (fun A' c' w' h2 h3 => h A' c' w' h2 ((Below.drewN' ((Below.refl base w).alloc hbase _) q).trans h3))
theorem add_of_add (a : Addr) (i j : Nat) : (a.add i).add j = a.add (i + j) := by
  unfold Addr.add
  by_cases hi : i = 0 <;> by_cases hj : j = 0 <;> simp [hi, hj, Nat.add_assoc]
theorem Row.take {B : Nat} (h : Row w B A xs) (k : Nat) : Row w B A (xs.take k) := fun hn => by
  obtain ⟨ad, e, hb, hc⟩ := h (by simp at hn; omega)
  exact ⟨ad, e, hb, fun i hi => by rw [hc i (by simp at hi; omega)]; simp⟩
theorem Row.drop {B : Nat} {ad : Addr} (h : Row w B (some ad) xs) (k : Nat) : Row w B (some (ad.add k)) (xs.drop k) := fun hn => by
  obtain ⟨ad', e, hb, hc⟩ := h (by simp at hn; omega)
  injection e with e
  subst e
  refine ⟨_, rfl, by rw [add_block]; exact hb, fun i hi => ?_⟩
  rw [add_of_add, hc (k + i) (by simp at hi; omega)]
  simp
theorem Row.none_nil {B : Nat} (h : Row w B none xs) : xs = [] := by
  rcases Nat.eq_zero_or_pos xs.length with h0 | h0
  · exact List.eq_nil_of_length_eq_zero h0
  · obtain ⟨ad, e, _⟩ := h h0; cases e
theorem Row.dropMap {B : Nat} (h : Row w B A xs) (k : Nat) : Row w B (A.map (fun x => x.add k)) (xs.drop k) := by
  rcases A with _ | ad
  · rw [h.none_nil]; exact fun hn => absurd hn (by simp)
  · exact h.drop k
/-- 'xs[k:]' as the model writes it. -/
theorem Row.cut {B : Nat} (h : Row w B A xs) (k c : Nat) (hc : xs.length ≤ c) : Row w B (if c = k then A else A.map (fun x => x.add k)) (xs.drop k) := by
  by_cases e : c = k
  · rw [List.drop_of_length_le (by omega)]; exact fun hn => absurd hn (by simp)
  · rw [if_neg e]; exact h.dropMap k
theorem cut_nil {k c : Nat} (hnil : A = none → c = 0) : (if c = k then A else A.map (fun x => x.add k)) = none → c - k = 0 := by
  intro h
  by_cases e : c = k
  · omega
  · rw [if_neg e] at h
    have := hnil (by simpa using h)
    omega
end

theorem below_undrew {w w' : World} {n : Nat} (h : Below (w.drewN n).heap.size (w.drewN n) w') : Below w.heap.size w w' := ⟨h.os, h.tape, h.output, h.size, h.block⟩
theorem below_next {a w : World} (h : Below a.heap.size a w) (o : Obj) : Below a.heap.size a (w.alloc o) := h.alloc h.size o

/-- Numbers as cells. -/
def i64s (zs : List Int) : List Value := zs.map (Value.int .i64)
theorem i64s_length (zs : List Int) : (i64s zs).length = zs.length := by simp [i64s]
theorem Row.int {w : World} {B : Nat} {A : Option Addr} {zs : List Int} (h : Row w B A (i64s zs)) {k : Nat} (hk : k < zs.length) :
    ∃ ad, A = some ad ∧ ad.block < B ∧ w.cell? (ad.add k) = some (.int .i64 (zs[k])) := by
  obtain ⟨ad, e, hb, hc⟩ := h.get (k := k) (by rw [i64s_length]; exact hk)
  exact ⟨ad, e, hb, by rw [hc]; simp [i64s]⟩

theorem take_succ' {α : Type} (l : List α) (k : Nat) (h : k < l.length) : l.take (k + 1) = l.take k ++ [l[k]] := List.take_succ_eq_append_getElem h
theorem i64s_append (a b : List Int) : i64s (a ++ b) = i64s a ++ i64s b := by simp [i64s]
theorem i64s_drop (a : List Int) (k : Nat) : (i64s a).drop k = i64s (a.drop k) := by simp [i64s]
theorem i64s_take (a : List Int) (k : Nat) : (i64s a).take k = i64s (a.take k) := by simp [i64s]
theorem i64s_one (a : List Int) : ∀ u ∈ i64s a, u.oneCell' = true := by
  intro u hu; obtain ⟨z, _, rfl⟩ := List.mem_map.1 hu; rfl
theorem sum_take_succ (l : List Int) (k : Nat) (h : k < l.length) : (l.take (k + 1)).sum = (l.take k).sum + l[k] := by
  rw [take_succ' l k h, List.sum_append]; simp
theorem and_mask_i64 (n : Int) (k : Nat) (hk : k ≤ 62) : bits .and .i64 n ((2 ^ k - 1 : Nat) : Int) = n % (2 ^ k : Nat) := by
  have hp : 2 ^ k ≤ 2 ^ 62 := Nat.pow_le_pow_right (by decide) hk
  have hpos : 0 < 2 ^ k := Nat.two_pow_pos k
  show IntKind.i64.wrap ((BitVec.ofInt 64 n &&& BitVec.ofInt 64 ((2 ^ k - 1 : Nat) : Int)).toNat : Int) = _
  rw [BitVec.toNat_and, BitVec.toNat_ofInt, BitVec.toNat_ofInt]
  have e1 : (((2 ^ k - 1 : Nat) : Int) % ((2 ^ 64 : Nat) : Int)).toNat = 2 ^ k - 1 := by
    rw [Int.emod_eq_of_lt (by omega) (by omega)]; omega
  rw [e1, Nat.and_two_pow_sub_one_eq_mod]
  have hlt : (n % ((2 ^ 64 : Nat) : Int)).toNat % 2 ^ k < 2 ^ k := Nat.mod_lt _ hpos
  rw [IntKind.wrap_i64]
  have e2 : (((n % ((2 ^ 64 : Nat) : Int)).toNat % 2 ^ k : Nat) : Int) = n % ((2 ^ k : Nat) : Int) := by
    rw [Int.natCast_emod, Int.toNat_of_nonneg (Int.emod_nonneg _ (by decide))]
    apply Int.emod_emod_of_dvd
    exact Int.natCast_dvd_natCast.2 (Nat.pow_dvd_pow 2 (by omega))
  rw [← e2]
  omega
end Go.Proofs.Ytncaichachipkaa
/- Arguments opened into what the walks are told of them. No program is named here. -/
namespace Go.Proofs.Ytncaichachipkaa
open Go.ChangeShapes Go.WideShapes Go.ChangeAt Go.RowKit
set_option linter.unusedVariables false

theorem cell_lt {w : World} {a : Addr} {v : Value} (h : w.cell? a = some v) : a.block < w.heap.size := by
  rcases Nat.lt_or_ge a.block w.heap.size with hlt | hge
  · exact hlt
  · have hn : w.heap[a.block]? = none := Array.getElem?_eq_none hge
    simp [World.cell?, hn] at h

section
variable {H : Type} {enc : TypeId × Value → H} {P : Program} {w : World} {base : Nat} {spare : Nat → Bool} {held : Bool}
theorem row_of_cells {A : Addr} {xs : List Value} (h : ∀ i (hi : i < xs.length), w.cell? (A.add i) = some xs[i]) : Row w w.heap.size (some A) xs := fun hn => by
  have h0 := cell_lt (h 0 hn)
  rw [add_block] at h0
  exact ⟨A, rfl, h0, h⟩
/-- A slice of integers of one kind: its numbers, whatever the address. -/
theorem open_int_row {t e : TypeId} {k : IntKind} {fuel : Nat} {A : Option Addr} {n c : Nat} {x : DataW H × List MemPlace} (ht : P.underlying t = some (.slice e)) (he : P.underlying e = some (.int k)) (hc : P.cellsOf e = 1)
    (h : DataW.trod enc P w base spare held fuel t (Value.slice A n c).cells.toList = some x) :
    ∃ zs : List Int, n = zs.length ∧ Row w w.heap.size A (zs.map (Value.int k)) ∧ (∀ z ∈ zs, (Lit.int k z).wf = true) ∧ zs.length ≤ c ∧ c ≤ maxLen ∧ (A = none → c = 0) := by
  rcases open_ints ht he hc h with ⟨hcs, _⟩ | ⟨a, l, cap, zs, hcs, _, hl, hm, hz, _, hcell, hwz⟩
  · simp [Value.cells] at hcs
    obtain ⟨rfl, rfl, rfl⟩ := hcs
    exact ⟨[], rfl, Row.nil _ _ _, by simp, by simp, by simp [maxLen], fun _ => rfl⟩
  · simp [Value.cells] at hcs
    obtain ⟨rfl, rfl, rfl⟩ := hcs
    have hlen : n ≤ zs.length := by rw [hz]; split <;> omega
    refine ⟨zs.take n, by simp; omega, row_of_cells (fun i hi => ?_), fun z hz => hwz z (List.mem_of_mem_take hz), by simp; omega, hm, fun h => by cases h⟩
    have hi' : i < n ∧ i < zs.length := by simp at hi; omega
    rw [hcell i hi'.2]
    simp [hi'.2]
end
theorem i64_bounds {zs : List Int} (h : ∀ z ∈ zs, (Lit.int .i64 z).wf = true) : ∀ k (hk : k < zs.length), -9223372036854775808 ≤ zs[k] ∧ zs[k] ≤ 9223372036854775807 :=
  fun k hk => bounds_i64 (h _ (List.getElem_mem hk))
end Go.Proofs.Ytncaichachipkaa
/- Arguments whose cells are all integers (structs of structs and arrays of such), and slices of such, opened. -/
namespace Go.Proofs.Ytncaichachipkaa
open Go.Joins Go.ChangeShapes Go.WideShapes Go.RowKit Go.ChangeAt Go.Deep
set_option linter.unusedVariables false
set_option linter.unusedSimpArgs false

/-- All cells of a type are integers of kind i64. -/
def flatT (P : Program) : Nat → TypeId → Bool
  | 0, _ => false
  | d + 1, t => match P.underlying t with
    | some (.int .i64) => true
    | some (.struct fs) => (fs.all fun f => flatT P d f.type) && (List.range (P.cellsOf t)).all fun i => fs.any fun f => decide (f.offset ≤ i) && decide (i < f.offset + P.cellsOf f.type)
    | some (.array n e) => flatT P d e && decide (0 < P.cellsOf e) && decide (P.cellsOf t = n * P.cellsOf e)
    | _ => false
def IsInt (v : Value) : Prop := ∃ z : Int, v = .int .i64 z ∧ (Lit.int .i64 z).wf = true
section
variable {H : Type} {enc : TypeId × Value → H} {P : Program} {w : World} {base : Nat} {spare : Nat → Bool} {held : Bool}
theorem trod_flat : ∀ (d : Nat) (t : TypeId) (fuel : Nat) (cs : List Value) (x : DataW H × List MemPlace), flatT P d t = true → DataW.trod enc P w base spare held fuel t cs = some x → ∀ i (hi : i < cs.length), IsInt cs[i] := by
  intro d
  induction d with
  | zero => intro t fuel cs x h; simp [flatT] at h
  | succ d ih =>
    intro t fuel cs x h hx i hi
    unfold flatT at h
    split at h
    · rename_i hu
      obtain ⟨n, rfl, _, hw⟩ := DataW.trod_int hu hx
      have : i = 0 := by simp at hi; exact hi
      subst this
      exact ⟨n, rfl, hw⟩
    · rename_i fs hu
      simp only [Bool.and_eq_true, Array.all_eq_true_iff_forall_mem, List.all_eq_true, List.mem_range, Array.any_eq_true, decide_eq_true_eq] at h
      obtain ⟨h1, h2⟩ := h
      obtain ⟨xs, n, _, _, hl, hlen, hf⟩ := DataW.trod_struct hu hx
      obtain ⟨j, hj, h3, h4⟩ := h2 i (by omega)
      have h5 := hf j fs[j] (by simp [hj])
      rw [show xs[j]? = some (xs[j]'(by omega)) from List.getElem?_eq_getElem (by omega)] at h5
      have hlt : i - fs[j].offset < ((cs.drop fs[j].offset).take (P.cellsOf fs[j].type)).length := by
        rw [List.length_take, List.length_drop]; omega
      have h6 := ih _ _ _ _ (h1 _ (Array.getElem_mem hj)) h5 (i - fs[j].offset) hlt
      rw [List.getElem_take, List.getElem_drop] at h6
      have : fs[j].offset + (i - fs[j].offset) = i := by omega
      simpa [this] using h6
    · rename_i n e hu
      simp only [Bool.and_eq_true, decide_eq_true_eq] at h
      obtain ⟨⟨h1, h2⟩, h3⟩ := h
      obtain ⟨xs, m, _, _, hl, hlen, hf⟩ := DataW.trod_array hu hx
      have hin : i < n * P.cellsOf e := by omega
      have hq : i / P.cellsOf e < n := Nat.div_lt_of_lt_mul (by rw [Nat.mul_comm]; exact hin)
      have h5 := hf _ hq
      rw [show xs[i / P.cellsOf e]? = some (xs[i / P.cellsOf e]'(by omega)) from List.getElem?_eq_getElem (by omega)] at h5
      have hdm : i / P.cellsOf e * P.cellsOf e + i % P.cellsOf e = i := Nat.div_add_mod' i _
      have hm := Nat.mod_lt i h2
      have hle : i / P.cellsOf e * P.cellsOf e + P.cellsOf e ≤ n * P.cellsOf e := by
        have := Nat.mul_le_mul_right (P.cellsOf e) hq
        rw [Nat.succ_mul] at this
        exact this
      have hlt : i % P.cellsOf e < ((cs.drop (i / P.cellsOf e * P.cellsOf e)).take (P.cellsOf e)).length := by
        rw [List.length_take, List.length_drop]; omega
      have h6 := ih _ _ _ _ h1 h5 (i % P.cellsOf e) hlt
      rw [List.getElem_take, List.getElem_drop] at h6
      simpa [hdm] using h6
    · cases h
theorem ints_of (cs : List Value) (h : ∀ i (hi : i < cs.length), IsInt cs[i]) : ∃ zs : List Int, cs = i64s zs ∧ ∀ z ∈ zs, (Lit.int .i64 z).wf = true := by
  induction cs with
  | nil => exact ⟨[], rfl, by simp⟩
  | cons c r ih =>
    obtain ⟨z, e, hz⟩ := h 0 (by simp)
    obtain ⟨zs, e', hzs⟩ := ih fun i hi => by
      have := h (i + 1) (by simpa using hi)
      rw [List.getElem_cons_succ] at this
      exact this
    simp only [List.getElem_cons_zero] at e
    subst e e'
    refine ⟨z :: zs, rfl, fun x hx => ?_⟩
    rcases List.mem_cons.1 hx with rfl | hx
    · exact hz
    · exact hzs x hx
/-- A struct whose cells are all integers. -/
theorem open_flat {r : Reach} {b0 : Nat} {t : TypeId} {fs : Array Field} {v : Value} {x : DataW H} {p : List MemPlace} {C d : Nat} (hs : P.underlying t = some (.struct fs)) (hC : P.cellsOf t = C) (hf : flatT P d t = true)
    (hv : Value.okWide P w r b0 t v) (h : DataW.Trod enc P w base spare held t v x p) : ∃ zs : List Int, v = .agg (i64s zs).toArray ∧ zs.length = C ∧ ∀ z ∈ zs, (Lit.int .i64 z).wf = true := by
  obtain ⟨cs, rfl, hsz⟩ := okWide_struct hs hv
  obtain ⟨fuel, hf'⟩ := h
  have h1 := trod_flat d t fuel _ _ hf hf'
  obtain ⟨zs, e, hz⟩ := ints_of cs.toList (by simpa [Value.cells] using h1)
  have hl := congrArg List.length e
  rw [i64s_length] at hl
  refine ⟨zs, by rw [← e], by rw [← hl]; simp [hsz, hC], hz⟩
/-- A slice of such. -/
theorem open_flat_row {t e : TypeId} {fuel n c C d : Nat} {A : Option Addr} {x : DataW H × List MemPlace} (ht : P.underlying t = some (.slice e)) (hC : P.cellsOf e = C) (hC0 : 0 < C) (hf : flatT P d e = true)
    (h : DataW.trod enc P w base spare held fuel t (Value.slice A n c).cells.toList = some x) :
    ∃ zs : List Int, zs.length = n * C ∧ Row w w.heap.size A (i64s zs) ∧ (∀ z ∈ zs, (Lit.int .i64 z).wf = true) ∧ n ≤ c ∧ c ≤ maxLen ∧ (A = none → c = 0) := by
  rcases open_slice ht h with ⟨hcs, _⟩ | ⟨a, len, cap, m, nn, D, Pl, hcs, _, hl, hm, hmm, _, hi⟩
  · simp [Value.cells] at hcs
    obtain ⟨rfl, rfl, rfl⟩ := hcs
    exact ⟨[], by simp, Row.nil _ _ _, by simp, by simp, by simp [maxLen], fun _ => rfl⟩
  · simp [Value.cells] at hcs
    obtain ⟨rfl, rfl, rfl⟩ := hcs
    have hlen : n ≤ m := by rw [hmm]; split <;> omega
    have each : ∀ j, j < n * C → ∃ z : Int, w.cell? (a.add j) = some (.int .i64 z) ∧ (Lit.int .i64 z).wf = true := fun j hj => by
      have hq : j / C < n := Nat.div_lt_of_lt_mul (by rw [Nat.mul_comm]; exact hj)
      have hr := Nat.mod_lt j hC0
      obtain ⟨cs', hc, htr⟩ := hi (j / C) (by omega)
      rw [hC] at hc
      obtain ⟨_, hcl, hat⟩ := World.cells?_some hc
      obtain ⟨z, e1, hz⟩ := trod_flat d _ _ _ _ hf htr (j % C) (by omega)
      have h1 := hat (j % C) hr
      rw [add_of_add, Nat.div_add_mod' j C, List.getElem?_eq_getElem (by omega), e1] at h1
      exact ⟨z, h1, hz⟩
    have hch : ∃ f : Nat → Int, ∀ j, j < n * C → w.cell? (a.add j) = some (.int .i64 (f j)) ∧ (Lit.int .i64 (f j)).wf = true := by
      refine ⟨fun j => if hj : j < n * C then Classical.choose (each j hj) else 0, fun j hj => ?_⟩
      simp only [hj, dif_pos]
      exact Classical.choose_spec (each j hj)
    obtain ⟨f, hf'⟩ := hch
    refine ⟨(List.range (n * C)).map f, by simp, row_of_cells fun j hj => ?_, fun z hz => ?_, hl, hm, fun h => by cases h⟩
    · have hj' : j < n * C := by simpa [i64s] using hj
      rw [(hf' j hj').1]
      simp [i64s]
    · obtain ⟨j, hj, rfl⟩ := List.mem_map.1 hz
      exact (hf' j (by simpa using hj)).2
end
end Go.Proofs.Ytncaichachipkaa
/- Answers that are numbers and truth values. -/
namespace Go.Proofs.Ytncaichachipkaa
open Go.RowKit

theorem ret_int {k : IntKind} {a b : Int} (h : a = b) : Ending.returned (.int k a) = .returned (.int k b) := by rw [h]
theorem ret_bool {a b : Bool} (h : a = b) : Ending.returned (.bool a) = .returned (.bool b) := by rw [h]
end Go.Proofs.Ytncaichachipkaa
/- Rows of bytes of one sort. No program is named here. -/
namespace Go.Proofs.Ytncaichachipkaa
set_option linter.unusedVariables false
set_option linter.unusedSimpArgs false
open Go.RowKit

def bytesOf (s : ByteArray) : List UInt8 := s.data.toList
theorem bytesOf_length (s : ByteArray) : (bytesOf s).length = s.size := by simp [bytesOf]
theorem bytesOf_get (s : ByteArray) (k : Nat) (h : k < s.size) : (bytesOf s)[k]'(by rw [bytesOf_length]; exact h) = s[k] := rfl
/-- How many bytes of one sort stand from a place on. -/
def rowN (f : UInt8 → Bool) (l : List UInt8) (at_ : Nat) : Nat := ((l.drop at_).takeWhile f).length
theorem takeWhile_step {f : UInt8 → Bool} : ∀ (l : List UInt8) (k : Nat), k ≤ (l.takeWhile f).length →
    (∀ h : k < l.length, f l[k] = true → k + 1 ≤ (l.takeWhile f).length) ∧ (∀ h : k < l.length, f l[k] = false → k = (l.takeWhile f).length) ∧ (l.length ≤ k → k = (l.takeWhile f).length) ∧ (l.takeWhile f).length ≤ l.length
  | [], k, h => by simp at h ⊢; omega
  | c :: r, k, h => by
    by_cases hc : f c = true
    · rw [List.takeWhile_cons_of_pos hc] at h ⊢
      cases k with
      | zero =>
        have := takeWhile_step (f := f) r 0 (Nat.zero_le _)
        refine ⟨fun _ _ => by simp, fun _ h1 => by simp [hc] at h1, fun h1 => by simp at h1, by simp; exact this.2.2.2⟩
      | succ k =>
        obtain ⟨h1, h2, h3, h4⟩ := takeWhile_step r k (by simpa using h)
        refine ⟨fun h hf => ?_, fun h hf => ?_, fun h => ?_, by simpa using h4⟩
        · have := h1 (by simpa using h) (by simpa using hf); simp; omega
        · have := h2 (by simpa using h) (by simpa using hf); simp; omega
        · have := h3 (by simpa using h); simp; omega
    · rw [List.takeWhile_cons_of_neg hc] at h ⊢
      have hk : k = 0 := by simpa using h
      subst hk
      refine ⟨fun _ h1 => by simp at h1; exact absurd h1 hc, fun _ _ => by simp, fun _ => by simp, by simp⟩
section
variable {f : UInt8 → Bool} {l : List UInt8} {a k : Nat}
theorem rowN_le (f : UInt8 → Bool) (l : List UInt8) (a : Nat) (h : a ≤ l.length) : a + rowN f l a ≤ l.length := by
  have := (takeWhile_step (f := f) (l.drop a) 0 (Nat.zero_le _)).2.2.2
  unfold rowN
  simp at this
  omega
theorem rowN_more (hk : k ≤ rowN f l a) (h : a + k < l.length) (hf : f l[a + k] = true) : k + 1 ≤ rowN f l a := by
  have := (takeWhile_step (f := f) (l.drop a) k hk).1 (by simp; omega)
  simp only [List.getElem_drop] at this
  exact this hf
theorem rowN_stop (hk : k ≤ rowN f l a) (h : a + k < l.length) (hf : f l[a + k] = false) : k = rowN f l a := by
  have := (takeWhile_step (f := f) (l.drop a) k hk).2.1 (by simp; omega)
  simp only [List.getElem_drop] at this
  exact this hf
theorem rowN_end (hk : k ≤ rowN f l a) (h : l.length ≤ a + k) : k = rowN f l a :=
  (takeWhile_step (f := f) (l.drop a) k hk).2.2.1 (by simp; omega)
theorem takeWhile_all : ∀ (l : List UInt8) (k : Nat) (h : k < (l.takeWhile f).length), ∃ h' : k < l.length, f l[k] = true
  | [], k, h => by simp at h
  | c :: r, k, h => by
    by_cases hc : f c = true
    · rw [List.takeWhile_cons_of_pos hc] at h
      cases k with
      | zero => exact ⟨by simp, hc⟩
      | succ k =>
        obtain ⟨h1, h2⟩ := takeWhile_all r k (by simpa using h)
        exact ⟨by simp; omega, by simpa using h2⟩
    · rw [List.takeWhile_cons_of_neg hc] at h
      simp at h
theorem rowN_all (h : k < rowN f l a) : ∃ h' : a + k < l.length, f l[a + k] = true := by
  obtain ⟨h1, h2⟩ := takeWhile_all (f := f) (l.drop a) k h
  simp at h1
  refine ⟨by omega, ?_⟩
  simpa only [List.getElem_drop] using h2
end
def isDig (c : UInt8) : Bool := decide (48 ≤ (c.toNat : Int) ∧ (c.toNat : Int) ≤ 57)
def blankB (c : UInt8) : Bool := decide ((c.toNat : Int) = 32 ∨ (c.toNat : Int) = 9 ∨ (c.toNat : Int) = 10)
def nameB (c : UInt8) : Bool := decide ((97 ≤ (c.toNat : Int) ∧ (c.toNat : Int) ≤ 122) ∨ (c.toNat : Int) = 45)
def valB (c : UInt8) : Bool := decide (((97 ≤ (c.toNat : Int) ∧ (c.toNat : Int) ≤ 122) ∨ (c.toNat : Int) = 45) ∨ (48 ≤ (c.toNat : Int) ∧ (c.toNat : Int) ≤ 57) ∨ (c.toNat : Int) = 46 ∨ (c.toNat : Int) = 37)
end Go.Proofs.Ytncaichachipkaa
/- One block of the call's own, its cells all told, none frozen: kept over draws, stores, new blocks. No program is named here. -/
namespace Go.Proofs.Ytncaichachipkaa
set_option linter.unusedVariables false
set_option linter.unusedSimpArgs false
open Go.RowKit

/-- Block g holds just the cells cs (of element type t), and may be written. -/
def Whole (w : World) (g : Nat) (t : TypeId) (cs : List Value) : Prop := w.heap[g]? = some (.cells cs.toArray t (0, 0))

section
variable {w w' : World} {g : Nat} {t : TypeId} {cs : List Value}
theorem Whole.size (h : Whole w g t cs) : g < w.heap.size := (Array.getElem?_eq_some_iff.1 h).1
theorem Whole.cell (h : Whole w g t cs) (i : Nat) : w.cell? ⟨g, i, none⟩ = cs[i]? := by
  rw [cell_of_row w g i cs.toArray t (0, 0) h]; simp
theorem Whole.free (h : Whole w g t cs) (i : Nat) : w.frozen? ⟨g, i, none⟩ = false := by
  have h' : w.heap[g]? = some (.cells cs.toArray t (0, 0)) := h
  simp [World.frozen?, h']
theorem Whole.mk (w : World) (t : TypeId) (cs : Array Value) : Whole (w.alloc (.cells cs t)) w.heap.size t cs.toList := by
  have h := heap_alloc_new w (.cells cs t)
  simpa [Whole] using h
theorem Whole.made (h : Whole w g t cs) (o : Obj) : Whole (w.alloc o) g t cs := (Below.heap_alloc w o g h.size).trans h
theorem Whole.drawn (h : Whole w g t cs) (n : Nat) : Whole (w.drewN n) g t cs := h
theorem Whole.undrawn {n : Nat} (h : Whole (w.drewN n) g t cs) : Whole w g t cs := h
theorem Whole.put (h : Whole w g t cs) (i : Nat) (u : Value) : Whole (w.setCell ⟨g, i, none⟩ u) g t (cs.set i u) := by
  have h' : w.heap[g]? = some (.cells cs.toArray t (0, 0)) := h
  unfold Whole
  simp [World.setCell, Array.getElem?_modify, h']
theorem Whole.other (h : Whole w g t cs) {p : Addr} (hp : g ≠ p.block) (u : Value) : Whole (w.setCell p u) g t cs := (Below.heap_setCell w p u g hp).trans h
theorem Whole.under {B : Nat} (h : Whole w g t cs) (hb : Below B w w') (hg : g < B) : Whole w' g t cs := (hb.block g hg).trans h
/-- Four cells, as the walk asks for them. -/
theorem Whole.four {a b c d : Value} (h : Whole w g t [a, b, c, d]) : w.cell? ⟨g, 0, none⟩ = some a ∧ w.cell? ⟨g, 1, none⟩ = some b ∧ w.cell? ⟨g, 2, none⟩ = some c ∧ w.cell? ⟨g, 3, none⟩ = some d :=
  ⟨h.cell 0, h.cell 1, h.cell 2, h.cell 3⟩
theorem Whole.fourFree {a b c d : Value} (h : Whole w g t [a, b, c, d]) : w.frozen? ⟨g, 0, none⟩ = false ∧ w.frozen? ⟨g, 1, none⟩ = false ∧ w.frozen? ⟨g, 2, none⟩ = false ∧ w.frozen? ⟨g, 3, none⟩ = false :=
  ⟨h.free 0, h.free 1, h.free 2, h.free 3⟩
theorem Whole.putFour {a b c d : Value} (h : Whole w g t [a, b, c, d]) (a' b' c' d' : Value) :
    Whole ((((w.setCell ⟨g, 0, none⟩ a').setCell ⟨g, 1, none⟩ b').setCell ⟨g, 2, none⟩ c').setCell ⟨g, 3, none⟩ d') g t [a', b', c', d'] := (((h.put 0 a').put 1 b').put 2 c').put 3 d'
end
end Go.Proofs.Ytncaichachipkaa
/- A region that draws its order: its head reads, and calls what keeps a class of worlds; its tail (stores, assignments) goes in one forced order. And a class told by a parameter, so that the walk rewrites with what all its worlds have in common. No program is named here. -/
namespace Go.Proofs.Ytncaichachipkaa
set_option linter.unusedVariables false
set_option linter.unusedSimpArgs false
open Go Go.RowKit

section
variable {P : Program} {ops : Array Oper} {md : Region.Mode} {C : World → Prop}

/-- The head's operations in whatever order they come up, each before the n-th; L behind them. -/
def headAny (P : Program) (md : Region.Mode) (ops : Array Oper) (C : World → Prop) (n : Nat) (L : Array Bool → Act → Prop) : Nat → Array Bool → Act → Prop
  | 0, listed, a => L listed a
  | f + 1, listed, a => Region.ready md ops listed ≠ [] ∧ ∀ i ∈ Region.ready md ops listed, i < n ∧ qOp P ops C i (headAny P md ops C n L f (listed.setIfInBounds i true)) a

theorem any_of_headAny {n g : Nat} {L : Array Bool → Act → Prop} {Q' : Exit → Act → World → Prop} (hL : ∀ listed a w, C w → L listed a → wpAny P md ops Q' g listed a w) :
    ∀ (f : Nat) (listed : Array Bool) (a : Act) (w : World), C w → headAny P md ops C n L f listed a → wpAny P md ops Q' (f + g) listed a w := by
  intro f
  induction f with
  | zero => intro listed a w hw h; rw [Nat.zero_add]; exact hL _ _ _ hw h
  | succ f ih =>
    intro listed a w hw h
    rw [show f + 1 + g = (f + g) + 1 by omega]
    exact ⟨fun h0 => absurd h0 h.1, fun i hi => wpOp_of_qOp hw (fun a' w' hw' h' => ih _ a' w' hw' h') (h.2 i hi).2⟩

theorem headAny_first {n i : Nat} {oi : Oper} {v : Value} {L : Array Bool → Act → Prop} (hi : ops[i]? = some oi) (hsel : ∀ (j : Nat) (o : Oper) cs b, ops[j]? = some o → o.op ≠ .select cs b)
    (hs : Region.sinkB md ops n = true) (hc : Region.chainB md ops n = true) (hn : n < ops.size) (hin : i < n) (hdone : ∀ listed a, L listed a → ∀ j ∈ Region.ready md ops listed, n ≤ j) (f : Nat) :
    ∀ (listed : Array Bool) (a : Act), HeadInv md ops n listed →
      (∀ j oj, ops[j]? = some oj → j ≠ i → listed.getD j true = false → (∀ e ∈ oj.after, Region.binds md e = true → e.on ≠ i) → oi.apart ops oj = true) →
      i ∈ Region.ready md ops listed → YieldsIn P ops C oi v a →
      headAny P md ops C n L f (listed.setIfInBounds i true) (a.put oi.dst v) → headAny P md ops C n L (f + 1) listed a := by
  induction f with
  | zero =>
    intro listed a inv _ hr hy H
    have hun := (mem_ready.1 hr).1
    refine ⟨fun h => (by rw [h] at hr; cases hr), fun j hj => ?_⟩
    have hjn : j < n := Nat.lt_of_not_le fun h => tail_waits hs hc hn inv _ i rfl hin hun j h hj
    by_cases e : j = i
    · subst e; exact ⟨hjn, hy.qOp hi H⟩
    · have := hdone _ _ H j (ready_mono hj e); omega
  | succ f ih =>
    intro listed a inv hfree hr hy H
    have hun := (mem_ready.1 hr).1
    refine ⟨fun h => (by rw [h] at hr; cases hr), fun j hj => ?_⟩
    have hjn : j < n := Nat.lt_of_not_le fun h => tail_waits hs hc hn inv _ i rfl hin hun j h hj
    by_cases e : j = i
    · subst e; exact ⟨hjn, hy.qOp hi H⟩
    · obtain ⟨hjun, oj, hoj, hall⟩ := mem_ready.1 hj
      have hnot : ∀ e ∈ oj.after, Region.binds md e = true → e.on ≠ i := fun e he hb heq => by
        have h1 := hall e he hb
        rw [heq, getD_both hun] at h1
        cases h1
      refine ⟨hjn, qOp_mono (fun a' h3 => ih (listed.setIfInBounds j true) a' (inv.set hj hjn) (fun k ok hk hki hk1 hno => hfree k ok hk hki ?_ hno) (ready_mono hr (Ne.symm e)) h3.1 ?_)
        (qOp_put hoj (hfree j oj hoj e hjun hnot) (fun cs b => hsel i oi cs b hi) (fun cs b => hsel j oj cs b hoj) hy (H.2 j (ready_mono hj e)).2)⟩
      · by_cases hjk : j = k
        · subst hjk; exact hjun
        · rw [getD_set_ne true hjk] at hk1; exact hk1
      · rw [Array.setIfInBounds_comm _ _ e]; exact h3.2

theorem headAny_lex {n g : Nat} {Lq : Act → Prop} (hsel : Region.noSelect ops = true) (hs : Region.sinkB md ops n = true) (hc : Region.chainB md ops n = true) (hn : n < ops.size) (l : List Oper) :
    ∀ (k : Nat) (listed : Array Bool) (a : Act), (∀ j, j < l.length → l[j]? = ops[k + j]?) → k + l.length = n → HeadInv md ops n listed →
    Region.lexHead md ops g l.length k listed = true → wpQuiet P ops C Lq l a → headAny P md ops C n (fun listed' a' => Region.seqB md ops g n listed' = true ∧ Lq a') l.length listed a := by
  induction l with
  | nil =>
    intro k listed a _ hk _ hB h
    obtain rfl : k = n := by simpa using hk
    exact ⟨by simpa [Region.lexHead] using hB, h⟩
  | cons o l ih =>
    intro k listed a hl hk inv hB h
    have h0 : ops[k]? = some o := by simpa using (hl 0 (by simp)).symm
    simp only [List.length_cons, Region.lexHead, Bool.and_eq_true] at hB
    obtain ⟨⟨hr, hf⟩, hB'⟩ := hB
    simp only [List.length_cons] at hk
    have hr' : k ∈ Region.ready md ops listed := by simpa using hr
    have hst : qOp P ops C k (wpQuiet P ops C Lq l) a := by unfold qOp; simp only [h0]; exact h
    obtain ⟨v, hy, hK⟩ := yieldsIn_of_qOp h0 hst
    refine headAny_first h0 (Region.noSelect_spec hsel) hs hc hn (by omega) (fun listed' a' hL => seqB_ready hL.1) l.length listed a inv (Region.free_spec h0 hf) hr' hy
      (ih (k + 1) _ _ (fun j hj => ?_) (by omega) (inv.set hr' (by omega)) hB' hK)
    have := hl (j + 1) (by simp; omega)
    simpa [Nat.add_assoc, Nat.add_comm 1 j] using this

/-- The head in the text's order, once, over the class; then the tail as a list. -/
theorem region_class_tail {id : Nat} {Q : Exit → Act → World → Prop} {a : Act} {w : World} {l : List Oper} (n : Nat) (hm : P.follows .mixedOrders = true) (hB : Region.lexTailB .any l.toArray n = true) (hC : C { w with drawn := w.drawn + 1 })
    (h : wpQuiet P l.toArray C (fun a' => ∀ w', C w' → wpList P l.toArray Q (l.drop n) a' w') (l.take n) a) : (Code.region id l.toArray true).wp P Q a w := by
  simp only [Region.lexTailB, Bool.and_eq_true, decide_eq_true_eq] at hB
  obtain ⟨⟨⟨⟨hsel, hn⟩, hs⟩, hc⟩, hlex⟩ := hB
  have hn' : n < l.length := by simpa using hn
  have htl : (l.take n).length = n := by simp; omega
  have hdl : (l.drop n).length = l.toArray.size - n := by simp
  have inv0 : HeadInv .any l.toArray n (Array.replicate l.toArray.size false) :=
    ⟨by simp, fun j oj _ hl => (by rw [getD_replicate_false] at hl; cases hl), fun t _ ht => getD_in (by simpa using ht) (getD_replicate_false _ _)⟩
  have H := headAny_lex (md := .any) (g := l.toArray.size - n) hsel hs hc hn (l.take n) 0 _ a (fun j hj => by
    have hj' : j < n := by rw [htl] at hj; exact hj
    simp [hj']) (by simpa using htl) inv0 (by rw [htl]; exact hlex) h
  refine wp_region_any hm ?_
  have := any_of_headAny (Q' := Q) (g := l.toArray.size - n) (fun listed a' w' hw' hL => by
    have := wpAny_of_seq (md := .any) (Q' := Q) (l.drop n) n listed a' w' (fun j => by simp [List.getElem?_drop]) (by rw [hdl]; exact hL.1) (hL.2 w' hw')
    rwa [hdl] at this) _ _ _ _ hC H
  rw [htl, show n + (l.toArray.size - n) = l.toArray.size by omega] at this
  exact this
end

/-- A world that differs from w0 in blocks from B on alone. -/
structure Later (B : Nat) (w0 : World) where
  w : World
  h : Below B w0 w
instance laterSome {B : Nat} {w0 : World} : Nonempty (Later B w0) := ⟨⟨w0, Below.refl _ _⟩⟩
theorem Later.drawn {B : Nat} {w0 : World} (hb : Below B w0 w0) : ∃ s : Later B w0, ({ w0 with drawn := w0.drawn + 1 } : World) = s.w := ⟨⟨{ w0 with drawn := w0.drawn + 1 }, ⟨hb.os, hb.tape, hb.output, hb.size, hb.block⟩⟩, rfl⟩
theorem later_call {P : Program} {f : FuncId} {args : Array Value} {B : Nat} {w0 : World} {v : Value} (s : Later B w0) (hB : B ≤ w0.heap.size) (h : Calls P f args s.w fun e w' => e = .returned v ∧ Below s.w.heap.size s.w w') :
    Calls P f args s.w fun e w'' => e = .returned v ∧ ∃ s' : Later B w0, w'' = s'.w :=
  h.mono fun _ w' ⟨he, hb⟩ => ⟨he, ⟨w', s.h.trans (hb.mono (Nat.le_trans hB s.h.size))⟩, rfl⟩
theorem later_same {P : Program} {f : FuncId} {args : Array Value} {B : Nat} {w0 : World} {v : Value} (s : Later B w0) (h : Calls P f args s.w fun e w' => e = .returned v ∧ s.w = w') :
    Calls P f args s.w fun e w'' => e = .returned v ∧ ∃ s' : Later B w0, w'' = s'.w :=
  h.mono fun _ _ ⟨he, hb⟩ => ⟨he, s, hb.symm⟩
theorem region_later {P : Program} {id : Nat} {Q : Exit → Act → World → Prop} {a : Act} {w : World} {l : List Oper} (hm : P.follows .mixedOrders = true) (hB : Region.lexB .any l.toArray = true)
    (h : wpQuiet P l.toArray (fun w' => ∃ s : Later w.heap.size w, w' = s.w) (fun a' => ∀ w', (∃ s : Later w.heap.size w, w' = s.w) → Q .normal a' w') l a) : (Code.region id l.toArray true).wp P Q a w :=
  wp_region_quiet (C := fun w' => ∃ s : Later w.heap.size w, w' = s.w) hm hB (Later.drawn (Below.refl _ _)) (by simpa using h)
theorem region_later_tail {P : Program} {id : Nat} {Q : Exit → Act → World → Prop} {a : Act} {w : World} {l : List Oper} (n : Nat) (hm : P.follows .mixedOrders = true) (hB : Region.lexTailB .any l.toArray n = true)
    (h : wpQuiet P l.toArray (fun w' => ∃ s : Later w.heap.size w, w' = s.w) (fun a' => ∀ w', (∃ s : Later w.heap.size w, w' = s.w) → wpList P l.toArray Q (l.drop n) a' w') (l.take n) a) : (Code.region id l.toArray true).wp P Q a w :=
  region_class_tail n hm hB (Later.drawn (Below.refl _ _)) h
end Go.Proofs.Ytncaichachipkaa
/- Regions that draw their order, met by promises: each operation of the head tells, of what it looks at alone, what it yields; then any order goes. No program is named here. -/
namespace Go.Proofs.Ytncaichachipkaa
set_option linter.unusedVariables false
set_option linter.unusedSimpArgs false
open Go Go.RowKit

section
variable {P : Program} {ops : Array Oper}

/-- w' lies behind w: what was there is there. -/
def Behind (w w' : World) : Prop := Below w.heap.size w w'
theorem Behind.refl (w : World) : Behind w w := Below.refl _ _
theorem Behind.trans {a b c : World} (h : Behind a b) (k : Behind b c) : Behind a c := Below.trans h (Below.mono k h.size)
theorem Behind.drawn (w : World) : Behind w { w with drawn := w.drawn + 1 } := ⟨rfl, rfl, rfl, Nat.le_refl _, fun _ _ => rfl⟩

/-- What is told of a slot's value. -/
abbrev Told := Value → World → Prop
def Steady (T : Told) : Prop := ∀ v w w', Behind w w' → T v w → T v w'
theorem steady_eq (u : Value) : Steady fun v _ => v = u := fun _ _ _ _ h => h

def gives (P : Program) (o : Oper) (a : Act) (w : World) (T : Told) : Prop :=
  match (execOp a.eval o).run P w with
  | .ok (.value v) w' => Behind w w' ∧ T v w'
  | .ok .skip w' => Behind w w' ∧ T undef w'
  | .ok (.enter f args) w' => Behind w w' ∧ Calls P f args w' fun e w'' => ∃ v, e = .returned v ∧ Behind w' w'' ∧ T v w''
  | _ => False
def givesIf (P : Program) (ops : Array Oper) (o : Oper) (a : Act) (w : World) (T : Told) : Prop :=
  (Region.wanted o (yielded ops a.tmps) = true ∧ gives P o a w T) ∨ (Region.wanted o (yielded ops a.tmps) = false ∧ T undef w)

theorem wpOp_of_gives {Q : Exit → Act → World → Prop} {i : Nat} {o : Oper} {K : Act → World → Prop} {a : Act} {w : World} {T : Told} (hi : ops[i]? = some o) (h : givesIf P ops o a w T)
    (hK : ∀ v w', Behind w w' → T v w' → K (a.put o.dst v) w') : wpOp P ops Q i K a w := by
  unfold wpOp
  simp only [hi]
  rcases h with ⟨hw, h⟩ | ⟨hw, h⟩
  · rw [if_pos hw]
    refine .inl ?_
    unfold Oper.wp
    unfold gives at h
    generalize (execOp a.eval o).run P w = r at *
    cases r with
    | halt x w' => exact h.elim
    | ok n w' =>
      cases n <;> simp only [Oper.upon] at h ⊢
      case value v => exact hK _ _ h.1 h.2
      case skip => exact hK _ _ h.1 h.2
      case enter f args =>
        refine h.2.mono fun e w'' he => ?_
        obtain ⟨v, rfl, h1, h2⟩ := he
        exact hK _ _ (h.1.trans h1) h2
  · rw [if_neg (by rw [hw]; exact Bool.false_ne_true)]
    exact hK _ _ (Behind.refl w) h

/-- .. by the walk's own law, whatever follows. -/
def givesBy (P : Program) (ops : Array Oper) (o : Oper) (a : Act) (w : World) (T : Told) : Prop :=
  Region.wanted o (yielded ops a.tmps) = true ∧ ∀ (K : Act → World → Prop) (Q : Exit → Act → World → Prop), (∀ v w', Behind w w' → T v w' → K (a.put o.dst v) w') → o.wp P a w K Q
theorem wpOp_of_givesBy {Q : Exit → Act → World → Prop} {i : Nat} {o : Oper} {K : Act → World → Prop} {a : Act} {w : World} {T : Told} (hi : ops[i]? = some o) (h : givesBy P ops o a w T)
    (hK : ∀ v w', Behind w w' → T v w' → K (a.put o.dst v) w') : wpOp P ops Q i K a w := by
  unfold wpOp
  simp only [hi]
  rw [if_pos h.1]
  exact .inl (h.2 K Q hK)

/-- What is told of all slots. -/
abbrev Env := Tmp → Told
def upd (E : Env) (d : Option Tmp) (T : Told) : Env := fun t => if d = some t then T else E t
def dstOf (ops : Array Oper) (k : Nat) : Option Tmp := (ops[k]?).bind (·.dst)
def looksOf (ops : Array Oper) (k : Nat) : List Tmp := ((ops[k]?).map (·.looksAt ops)).getD []
def meets (E : Env) (ts : List Tmp) (a : Act) (w : World) : Prop := ∀ t ∈ ts, E t (a.tmps.getD t undef) w
/-- What operation o owes. -/
def owes (P : Program) (ops : Array Oper) (w0 : World) (E : Env) (o : Oper) (T : Told) : Prop :=
  Steady T ∧ ∀ a w, Behind w0 w → meets E (o.looksAt ops) a w → givesIf P ops o a w T ∨ givesBy P ops o a w T

def lane (P : Program) (ops : Array Oper) (w0 : World) (Fin : Env → Prop) : List Nat → Env → Prop
  | [], E => Fin E
  | k :: r, E => ∃ o T, ops[k]? = some o ∧ owes P ops w0 E o T ∧ lane P ops w0 Fin r (upd E o.dst T)

/-- The environment behind the operations pre, by their promises. -/
def envAt (ops : Array Oper) (Ts : Nat → Told) (pre : List Nat) (E : Env) : Env := pre.foldl (fun E j => upd E (dstOf ops j) (Ts j)) E
theorem envAt_congr {Ts Ts' : Nat → Told} (pre : List Nat) : ∀ (E : Env), (∀ j ∈ pre, Ts j = Ts' j) → envAt ops Ts pre E = envAt ops Ts' pre E := by
  induction pre with
  | nil => intro E _; rfl
  | cons j r ih =>
    intro E h
    simp only [envAt, List.foldl_cons]
    rw [h j (by simp)]
    exact ih _ fun i hi => h i (by simp [hi])
theorem lane_all {w0 : World} {Fin : Env → Prop} (hs : List Nat) : ∀ (E : Env), hs.Nodup → lane P ops w0 Fin hs E →
    ∃ Ts : Nat → Told, (∀ pre k post, hs = pre ++ k :: post → ∃ o, ops[k]? = some o ∧ owes P ops w0 (envAt ops Ts pre E) o (Ts k)) ∧ Fin (envAt ops Ts hs E) := by
  induction hs with
  | nil =>
    intro E _ h
    exact ⟨fun _ _ _ => True, fun pre k post e => by simp at e, h⟩
  | cons k r ih =>
    intro E hn h
    obtain ⟨o, T, ho, hT, hr⟩ := h
    obtain ⟨hk, hn⟩ := List.nodup_cons.1 hn
    have hd : dstOf ops k = o.dst := by simp [dstOf, ho]
    obtain ⟨Ts, h1, h2⟩ := ih _ hn hr
    have hne : ∀ j ∈ r, j ≠ k := fun j hj e => hk (e ▸ hj)
    refine ⟨fun i => if i = k then T else Ts i, fun pre k' post e => ?_, ?_⟩
    · cases pre with
      | nil =>
        simp only [List.nil_append, List.cons.injEq] at e
        obtain ⟨rfl, rfl⟩ := e
        exact ⟨o, ho, by simpa [envAt] using hT⟩
      | cons j pre =>
        simp only [List.cons_append, List.cons.injEq] at e
        obtain ⟨rfl, rfl⟩ := e
        obtain ⟨o', ho', h'⟩ := h1 pre k' post rfl
        have hk' : k' ≠ k := hne k' (by simp)
        refine ⟨o', ho', ?_⟩
        have e1 : envAt ops (fun i => if i = k then T else Ts i) (k :: pre) E = envAt ops Ts pre (upd E o.dst T) := by
          simp only [envAt, List.foldl_cons, if_pos, hd]
          exact envAt_congr pre _ fun j hj => by rw [if_neg (hne j (by simp [hj]))]
        rw [e1]
        simpa [hk'] using h'
    · have e1 : envAt ops (fun i => if i = k then T else Ts i) (k :: r) E = envAt ops Ts r (upd E o.dst T) := by
        simp only [envAt, List.foldl_cons, if_pos, hd]
        exact envAt_congr r _ fun j hj => by rw [if_neg (hne j hj)]
      rw [e1]; exact h2

theorem envAt_at {Ts : Nat → Told} {t : Tmp} {v : Value} {w : World} (pre : List Nat) : ∀ (E : Env), (∀ j ∈ pre, dstOf ops j = some t → Ts j v w) → ((∀ j ∈ pre, dstOf ops j ≠ some t) → E t v w) → envAt ops Ts pre E t v w := by
  induction pre with
  | nil => intro E _ h; exact h (by simp)
  | cons j r ih =>
    intro E h1 h2
    simp only [envAt, List.foldl_cons]
    refine ih _ (fun i hi => h1 i (by simp [hi])) fun h3 => ?_
    unfold upd
    split
    · rename_i e; exact h1 j (by simp) e
    · rename_i e; exact h2 fun i hi => by
        rcases List.mem_cons.1 hi with rfl | hi
        · exact e
        · exact h3 i hi

/-- The operations that must come up ahead of the t-th. -/
def edges (md : Region.Mode) (ops : Array Oper) (t : Nat) : List Nat := ((ops[t]?).map fun o => (o.after.toList.filter fun e => Region.binds md e).map (·.on)).getD []
def needsFrom (md : Region.Mode) (ops : Array Oper) : Nat → List Nat → List Nat
  | 0, acc => acc
  | i + 1, acc => needsFrom md ops i (if acc.contains i then edges md ops i ++ acc else acc)
def needs (md : Region.Mode) (ops : Array Oper) (t : Nat) : List Nat := needsFrom md ops ops.size (edges md ops t)

variable {md : Region.Mode}
theorem mem_edges {t j : Nat} : j ∈ edges md ops t ↔ ∃ o, ops[t]? = some o ∧ ∃ e ∈ o.after, Region.binds md e = true ∧ e.on = j := by
  unfold edges
  cases h : ops[t]? with
  | none => simp
  | some o => simp [and_assoc]
theorem mem_ready' {t : Nat} {listed : Array Bool} : t ∈ Region.ready md ops listed ↔ listed.getD t true = false ∧ t < ops.size ∧ ∀ j ∈ edges md ops t, listed.getD j false = true := by
  rw [mem_ready]
  constructor
  · rintro ⟨h0, o, ho, h⟩
    refine ⟨h0, (Array.getElem?_eq_some_iff.1 ho).1, fun j hj => ?_⟩
    obtain ⟨o', ho', e, he, hb, rfl⟩ := mem_edges.1 hj
    obtain rfl : o' = o := Option.some.inj (ho'.symm.trans ho)
    exact h e he hb
  · rintro ⟨h0, hlt, h⟩
    exact ⟨h0, ops[t], Array.getElem?_eq_getElem hlt, fun e he hb => h _ (mem_edges.2 ⟨_, Array.getElem?_eq_getElem hlt, e, he, hb, rfl⟩)⟩
def Closed (md : Region.Mode) (ops : Array Oper) (listed : Array Bool) : Prop := ∀ i, listed.getD i false = true → ∀ j ∈ edges md ops i, listed.getD j false = true
theorem needsFrom_listed {listed : Array Bool} (hc : Closed md ops listed) : ∀ (i : Nat) (acc : List Nat), (∀ j ∈ acc, listed.getD j false = true) → ∀ j ∈ needsFrom md ops i acc, listed.getD j false = true
  | 0, _, h => h
  | i + 1, acc, h => by
    refine needsFrom_listed hc i _ fun j hj => ?_
    split at hj
    · rename_i hi
      rcases List.mem_append.1 hj with hj | hj
      · exact hc i (h i (by simpa using hi)) j hj
      · exact h j hj
    · exact h j hj
theorem needs_listed {listed : Array Bool} (hc : Closed md ops listed) {t : Nat} (h : ∀ j ∈ edges md ops t, listed.getD j false = true) : ∀ j ∈ needs md ops t, listed.getD j false = true := needsFrom_listed hc _ _ h

/-- Who looks at what another one leaves comes behind it, or ahead of it, in every order; no two leave the same. -/
def pairsB (md : Region.Mode) (ops : Array Oper) : List Nat → Bool
  | [] => true
  | k :: r => (r.all fun j => (!((looksOf ops j).any fun t => dstOf ops k == some t) || (needs md ops j).contains k) && (!((looksOf ops k).any fun t => dstOf ops j == some t) || (needs md ops j).contains k) && !(dstOf ops j == dstOf ops k)) && pairsB md ops r
def inTurnB (md : Region.Mode) (ops : Array Oper) (L0 : Array Bool) : List Nat → List Nat → Bool
  | _, [] => true
  | pre, k :: r => ((edges md ops k).all fun j => pre.contains j || L0.getD j false) && inTurnB md ops L0 (pre ++ [k]) r
def headB (ops : Array Oper) (size : Nat) (L0 : Array Bool) (hs : List Nat) : Bool := hs.all fun k => decide (k < ops.size) && (match dstOf ops k with | some d => decide (d < size) | none => false) && !L0.getD k false
def tailB (md : Region.Mode) (ops : Array Oper) (L0 : Array Bool) (hs : List Nat) : Bool := (List.range ops.size).all fun t => hs.contains t || L0.getD t false || hs.all fun k => (needs md ops t).contains k
def laneB (md : Region.Mode) (ops : Array Oper) (size : Nat) (L0 : Array Bool) (hs : List Nat) : Bool := pairsB md ops hs && inTurnB md ops L0 [] hs && headB ops size L0 hs && tailB md ops L0 hs
def listedAll (ops : Array Oper) (L0 : Array Bool) (hs : List Nat) : Array Bool := ((List.range ops.size).map fun i => L0.getD i false || hs.contains i).toArray

theorem pairsB_spec : ∀ (hs : List Nat), pairsB md ops hs = true → hs.Nodup ∧ ∀ pre k post, hs = pre ++ k :: post → ∀ j ∈ post,
    ((∃ t ∈ looksOf ops j, dstOf ops k = some t) → k ∈ needs md ops j) ∧ ((∃ t ∈ looksOf ops k, dstOf ops j = some t) → k ∈ needs md ops j) ∧ dstOf ops j ≠ dstOf ops k
  | [], _ => ⟨List.nodup_nil, fun pre k post e => by simp at e⟩
  | k :: r, h => by
    simp only [pairsB, Bool.and_eq_true, List.all_eq_true] at h
    obtain ⟨h1, h2⟩ := h
    obtain ⟨hn, ih⟩ := pairsB_spec r h2
    have h3 : ∀ j ∈ r, ((∃ t ∈ looksOf ops j, dstOf ops k = some t) → k ∈ needs md ops j) ∧ ((∃ t ∈ looksOf ops k, dstOf ops j = some t) → k ∈ needs md ops j) ∧ dstOf ops j ≠ dstOf ops k := fun j hj => by
      obtain ⟨⟨a1, a2⟩, a3⟩ := h1 j hj
      refine ⟨fun ⟨t, ht, e⟩ => ?_, fun ⟨t, ht, e⟩ => ?_, by simpa using a3⟩
      · simp only [Bool.or_eq_true, Bool.not_eq_true', List.contains_iff_mem] at a1
        exact a1.resolve_left fun hf => by
          rw [List.any_eq_false] at hf
          exact hf t ht (by simp [e])
      · simp only [Bool.or_eq_true, Bool.not_eq_true', List.contains_iff_mem] at a2
        exact a2.resolve_left fun hf => by
          rw [List.any_eq_false] at hf
          exact hf t ht (by simp [e])
    refine ⟨List.nodup_cons.2 ⟨fun hk => (h3 k hk).2.2 rfl, hn⟩, fun pre k' post e j hj => ?_⟩
    cases pre with
    | nil =>
      simp only [List.nil_append, List.cons.injEq] at e
      obtain ⟨rfl, rfl⟩ := e
      exact h3 j hj
    | cons x pre =>
      simp only [List.cons_append, List.cons.injEq] at e
      exact ih pre k' post e.2 j hj
theorem inTurnB_spec (L0 : Array Bool) : ∀ (hs pre0 : List Nat), inTurnB md ops L0 pre0 hs = true → ∀ pre k post, hs = pre ++ k :: post → ∀ j ∈ edges md ops k, j ∈ pre0 ∨ j ∈ pre ∨ L0.getD j false = true
  | [], _, _ => fun pre k post e => by simp at e
  | x :: r, pre0, h => by
    simp only [inTurnB, Bool.and_eq_true, List.all_eq_true, Bool.or_eq_true, List.contains_iff_mem] at h
    obtain ⟨h1, h2⟩ := h
    intro pre k post e j hj
    cases pre with
    | nil =>
      simp only [List.nil_append, List.cons.injEq] at e
      obtain ⟨rfl, rfl⟩ := e
      rcases h1 j hj with h | h
      · exact .inl h
      · exact .inr (.inr h)
    | cons y pre =>
      simp only [List.cons_append, List.cons.injEq] at e
      obtain ⟨rfl, e⟩ := e
      rcases inTurnB_spec L0 r _ h2 pre k post e j hj with h | h | h
      · rcases List.mem_append.1 h with h | h
        · exact .inl h
        · exact .inr (.inl (by simp at h; simp [h]))
      · exact .inr (.inl (by simp [h]))
      · exact .inr (.inr h)

/-- How it stands in the middle of a region, whatever has come up. -/
structure Mid (md : Region.Mode) (ops : Array Oper) (w0 : World) (a0 : Act) (L0 : Array Bool) (hs : List Nat) (E0 : Env) (Ts : Nat → Told) (listed : Array Bool) (a : Act) (w : World) : Prop where
  behind : Behind w0 w
  size : listed.size = ops.size
  defers : a.defers = a0.defers
  tsize : a.tmps.size = a0.tmps.size
  closed : Closed md ops listed
  first : ∀ i, L0.getD i false = true → listed.getD i false = true
  only : ∀ i, listed.getD i false = true → L0.getD i false = true ∨ i ∈ hs
  told : ∀ t, ∀ k ∈ hs, listed.getD k false = true → dstOf ops k = some t → Ts k (a.tmps.getD t undef) w
  rest : ∀ t, (∀ k ∈ hs, listed.getD k false = true → dstOf ops k ≠ some t) → E0 t (a.tmps.getD t undef) w

theorem getD_of_size {listed : Array Bool} {i : Nat} (h : listed.getD i true = false) : listed.getD i false = false := getD_both h
theorem getD_back {listed : Array Bool} {i : Nat} (hi : i < listed.size) (h : ¬ listed.getD i false = true) : listed.getD i true = false := getD_in hi (by simpa using h)
theorem set_getD {listed : Array Bool} {i j : Nat} (hi : i < listed.size) : (listed.setIfInBounds i true).getD j false = true ↔ j = i ∨ listed.getD j false = true := by
  by_cases h : i = j
  · subst h; simp [hi]
  · rw [getD_set_ne false h]; constructor
    · exact .inr
    · rintro (rfl | h')
      · exact absurd rfl h
      · exact h'
theorem put_getD (a : Act) (d t : Tmp) (v : Value) (hd : d < a.tmps.size) : (a.put (some d) v).tmps.getD t undef = if d = t then v else a.tmps.getD t undef := by
  simp only [Act.put]
  by_cases h : d = t
  · subst h; simp [hd]
  · simp [h, Array.getElem?_setIfInBounds_ne h]

section
variable {w0 : World} {a0 : Act} {L0 : Array Bool} {hs : List Nat} {E0 : Env} {Ts : Nat → Told} {g : Nat} {Q : Exit → Act → World → Prop}
theorem Mid.step (hB : laneB md ops a0.tmps.size L0 hs = true) (hE : ∀ t, Steady (E0 t)) (hT : ∀ k ∈ hs, Steady (Ts k)) {listed : Array Bool} {a : Act} {w : World} (m : Mid md ops w0 a0 L0 hs E0 Ts listed a w) {k : Nat} (hk : k ∈ hs)
    (hr : k ∈ Region.ready md ops listed) {v : Value} {w' : World} (hb : Behind w w') (hv : Ts k v w') : Mid md ops w0 a0 L0 hs E0 Ts (listed.setIfInBounds k true) (a.put (dstOf ops k) v) w' := by
  simp only [laneB, Bool.and_eq_true] at hB
  obtain ⟨⟨⟨hp, hi⟩, hh⟩, ht⟩ := hB
  obtain ⟨hn, hpair⟩ := pairsB_spec hs hp
  obtain ⟨hun, hlt, hed⟩ := mem_ready'.1 hr
  have hlt' : k < listed.size := by rw [m.size]; exact hlt
  simp only [headB, List.all_eq_true, Bool.and_eq_true] at hh
  obtain ⟨⟨_, hd⟩, _⟩ := hh k hk
  obtain ⟨d, hd', hds⟩ : ∃ d, dstOf ops k = some d ∧ d < a.tmps.size := by
    cases e : dstOf ops k with
    | none => rw [e] at hd; cases hd
    | some d => rw [e] at hd; exact ⟨d, rfl, by rw [m.tsize]; simpa using hd⟩
  have hne : ∀ j ∈ hs, j ≠ k → dstOf ops j ≠ some d := fun j hj hjk e => by
    obtain ⟨pre, post, rfl⟩ := List.append_of_mem hk
    rcases List.mem_append.1 hj with hj | hj
    · obtain ⟨p1, p2, rfl⟩ := List.append_of_mem hj
      exact (hpair p1 j (p2 ++ k :: post) (by simp) k (by simp)).2.2 (hd'.trans e.symm)
    · rcases List.mem_cons.1 hj with rfl | hj
      · exact hjk rfl
      · exact (hpair pre k post rfl j hj).2.2 (e.trans hd'.symm)
  rw [hd']
  refine ⟨m.behind.trans hb, by simp [m.size], by simp [Act.put, m.defers], by simp [Act.put, m.tsize], fun i hi' j hj => ?_, fun i h => (set_getD hlt').2 (.inr (m.first i h)), fun i h => ?_, fun t j hj hl e => ?_, fun t h => ?_⟩
  · refine (set_getD hlt').2 (.inr ?_)
    rcases (set_getD hlt').1 hi' with rfl | h
    · exact hed j hj
    · exact m.closed i h j hj
  · rcases (set_getD hlt').1 h with rfl | h
    · exact .inr hk
    · exact m.only i h
  · rw [put_getD a d t v hds]
    by_cases hjk : j = k
    · subst hjk
      rw [hd'] at e
      injection e with e
      rw [if_pos e]; exact hv
    · have hjl : listed.getD j false = true := ((set_getD hlt').1 hl).resolve_left hjk
      rw [if_neg (fun e' => hne j hj hjk (e.trans (by rw [e'])))]
      exact hT j hj _ _ _ hb (m.told t j hj hjl e)
  · rw [put_getD a d t v hds]
    have hdt : d ≠ t := fun e => h k hk ((set_getD hlt').2 (.inl rfl)) (by rw [hd', e])
    rw [if_neg hdt]
    exact hE t _ _ _ hb (m.rest t fun j hj hl => h j hj ((set_getD hlt').2 (.inr hl)))

theorem Mid.meets (hB : laneB md ops a0.tmps.size L0 hs = true) {listed : Array Bool} {a : Act} {w : World} (m : Mid md ops w0 a0 L0 hs E0 Ts listed a w) {pre post : List Nat} {k : Nat} (e : hs = pre ++ k :: post) (hr : k ∈ Region.ready md ops listed) :
    meets (envAt ops Ts pre E0) (looksOf ops k) a w := by
  simp only [laneB, Bool.and_eq_true] at hB
  obtain ⟨⟨⟨hp, hi⟩, hh⟩, ht⟩ := hB
  obtain ⟨hn, hpair⟩ := pairsB_spec hs hp
  obtain ⟨hun, hlt, hed⟩ := mem_ready'.1 hr
  have hnk := needs_listed m.closed hed
  intro t hl
  have hpre : ∀ j ∈ pre, dstOf ops j = some t → listed.getD j false = true := fun j hj e' => by
    obtain ⟨p1, p2, rfl⟩ := List.append_of_mem hj
    exact hnk j ((hpair p1 j (p2 ++ k :: post) (by rw [e]; simp) k (by simp)).1 ⟨t, hl, e'⟩)
  refine envAt_at pre E0 (fun j hj e' => m.told t j (by rw [e]; simp [hj]) (hpre j hj e') e') fun h => m.rest t fun j hj hjl e' => ?_
  rw [e] at hj
  rcases List.mem_append.1 hj with hj | hj
  · exact h j hj e'
  · rcases List.mem_cons.1 hj with rfl | hj
    · rw [getD_of_size hun] at hjl; cases hjl
    · have hk := (hpair pre k post e j hj).2.1 ⟨t, hl, e'⟩
      have := needs_listed m.closed (m.closed j hjl) k hk
      rw [getD_of_size hun] at this; cases this

theorem Mid.done {listed : Array Bool} {a : Act} {w : World} (m : Mid md ops w0 a0 L0 hs E0 Ts listed a w) (hf : (hs.filter fun k => !listed.getD k false).length = 0) : listed = listedAll ops L0 hs ∧ ∀ t, envAt ops Ts hs E0 t (a.tmps.getD t undef) w := by
  have hall : ∀ k ∈ hs, listed.getD k false = true := fun k hk => by
    rw [List.length_eq_zero_iff, List.filter_eq_nil_iff] at hf
    simpa using hf k hk
  refine ⟨Array.ext (by simp [listedAll, m.size]) fun i h1 h2 => ?_, fun t => envAt_at hs E0 (fun j hj e => m.told t j hj (hall j hj) e) fun h => m.rest t fun j hj _ => h j hj⟩
  have hg : listed.getD i false = listed[i] := by simp [h1]
  rw [← hg]
  have : (listedAll ops L0 hs)[i] = (L0.getD i false || hs.contains i) := by simp [listedAll]
  rw [this, Bool.eq_iff_iff]
  simp only [Bool.or_eq_true, List.contains_iff_mem]
  exact ⟨m.only i, fun h => h.elim (m.first i) (hall i)⟩
theorem Mid.more (hB : laneB md ops a0.tmps.size L0 hs = true) {listed : Array Bool} {a : Act} {w : World} (m : Mid md ops w0 a0 L0 hs E0 Ts listed a w) (hf : (hs.filter fun k => !listed.getD k false).length ≠ 0) (h0 : Region.ready md ops listed = []) : False := by
  simp only [laneB, Bool.and_eq_true] at hB
  obtain ⟨⟨⟨hp, hi⟩, hh⟩, ht⟩ := hB
  obtain ⟨k, pre, post, e, hkl, hprel⟩ : ∃ k pre post, hs = pre ++ k :: post ∧ listed.getD k false = false ∧ ∀ j ∈ pre, listed.getD j false = true := by
    have : ∀ (l : List Nat), (l.filter fun k => !listed.getD k false).length ≠ 0 → ∃ k pre post, l = pre ++ k :: post ∧ listed.getD k false = false ∧ ∀ j ∈ pre, listed.getD j false = true := by
      intro l
      induction l with
      | nil => intro h; simp at h
      | cons x r ihr =>
        intro h
        by_cases hx : listed.getD x false = true
        · rw [List.filter_cons_of_neg (by simp only [hx, Bool.not_true, Bool.false_eq_true, not_false_eq_true])] at h
          obtain ⟨k, pre, post, e, h1, h2⟩ := ihr h
          exact ⟨k, x :: pre, post, by rw [e]; rfl, h1, fun j hj => (List.mem_cons.1 hj).elim (fun e => e ▸ hx) (h2 j)⟩
        · exact ⟨x, [], r, rfl, by simpa using hx, by simp⟩
    exact this hs hf
  have hk : k ∈ hs := by rw [e]; simp
  simp only [headB, List.all_eq_true, Bool.and_eq_true, decide_eq_true_eq] at hh
  have hlt := (hh k hk).1.1
  have : k ∈ Region.ready md ops listed := mem_ready'.2 ⟨getD_in (by rw [m.size]; exact hlt) hkl, hlt, fun j hj => by
    rcases inTurnB_spec L0 hs [] hi pre k post e j hj with h | h | h
    · cases h
    · exact hprel j h
    · exact m.first j h⟩
  rw [h0] at this
  cases this
theorem Mid.turn (hB : laneB md ops a0.tmps.size L0 hs = true) {listed : Array Bool} {a : Act} {w : World} (m : Mid md ops w0 a0 L0 hs E0 Ts listed a w) (hf : (hs.filter fun k => !listed.getD k false).length ≠ 0) {k : Nat} (hk : k ∈ Region.ready md ops listed) :
    k ∈ hs ∧ (hs.filter fun j => !(listed.setIfInBounds k true).getD j false).length + 1 = (hs.filter fun j => !listed.getD j false).length := by
  simp only [laneB, Bool.and_eq_true] at hB
  obtain ⟨⟨⟨hp, hi⟩, hh⟩, ht⟩ := hB
  obtain ⟨hun, hlt, hed⟩ := mem_ready'.1 hk
  have hkl := getD_of_size hun
  have hks : k ∈ hs := by
    simp only [tailB, List.all_eq_true, Bool.or_eq_true, List.mem_range, List.contains_iff_mem] at ht
    rcases ht k hlt with (h | h) | h
    · exact h
    · rw [m.first k h] at hkl; cases hkl
    · exfalso
      have hall := needs_listed m.closed hed
      have : (hs.filter fun k => !listed.getD k false) = [] := List.filter_eq_nil_iff.2 fun j hj => by
        have := hall j (by simpa using h j hj)
        simp only [this, Bool.not_true, Bool.false_eq_true, not_false_eq_true]
      rw [this] at hf
      exact hf rfl
  have hlt' : k < listed.size := by rw [m.size]; exact hlt
  obtain ⟨hn, _⟩ := pairsB_spec hs hp
  have h1 : ∀ (l : List Nat), l.Nodup → k ∈ l → (l.filter fun j => !(listed.setIfInBounds k true).getD j false).length + 1 = (l.filter fun j => !listed.getD j false).length := by
    intro l
    induction l with
    | nil => intro _ h; cases h
    | cons x r ihr =>
      intro hnd hx
      obtain ⟨hxr, hnr⟩ := List.nodup_cons.1 hnd
      by_cases hxk : x = k
      · subst hxk
        rw [List.filter_cons_of_neg (by rw [(set_getD hlt').2 (.inl rfl)]; simp), List.filter_cons_of_pos (by rw [hkl]; rfl)]
        have : (r.filter fun j => !(listed.setIfInBounds x true).getD j false) = r.filter fun j => !listed.getD j false := by
          refine List.filter_congr fun j hj => ?_
          rw [getD_set_ne false (fun e => hxr (by rw [e]; exact hj))]
        rw [this, List.length_cons]
      · have hkr : k ∈ r := (List.mem_cons.1 hx).resolve_left (Ne.symm hxk)
        have hg : (listed.setIfInBounds k true).getD x false = listed.getD x false := getD_set_ne false (Ne.symm hxk)
        by_cases hxl : listed.getD x false = true
        · rw [List.filter_cons_of_neg (by rw [hg, hxl]; simp), List.filter_cons_of_neg (by rw [hxl]; simp)]
          exact ihr hnr hkr
        · have hxl' : listed.getD x false = false := by simpa using hxl
          rw [List.filter_cons_of_pos (by rw [hg, hxl']; rfl), List.filter_cons_of_pos (by rw [hxl']; rfl), List.length_cons, List.length_cons]
          have := ihr hnr hkr
          omega
  exact ⟨hks, h1 hs hn hks⟩

/-- A tail that comes up in one order: its numbers. -/
def turnB (md : Region.Mode) (ops : Array Oper) : List Nat → Array Bool → Bool
  | [], L => (Region.ready md ops L).isEmpty
  | t :: r, L => decide (Region.ready md ops L = [t]) && turnB md ops r (L.setIfInBounds t true)
theorem wpAny_of_turn : ∀ (ts : List Nat) (L : Array Bool) (a : Act) (w : World), turnB md ops ts L = true → wpList P ops Q (ts.filterMap (ops[·]?)) a w → wpAny P md ops Q ts.length L a w
  | [], _, _, _, hB, h => ⟨by simpa [turnB] using hB, h⟩
  | t :: r, L, a, w, hB, h => by
    simp only [turnB, Bool.and_eq_true, decide_eq_true_eq] at hB
    have ht : t ∈ Region.ready md ops L := by rw [hB.1]; simp
    have ho : ops[t]? = some (ops[t]'(mem_ready'.1 ht).2.1) := Array.getElem?_eq_getElem _
    rw [List.filterMap_cons_some ho] at h
    refine ⟨fun h1 => (by rw [hB.1] at h1; cases h1), fun i hi => ?_⟩
    rw [hB.1] at hi
    obtain rfl : i = t := by simpa using hi
    have hw : wpOp P ops Q i (wpList P ops Q (r.filterMap (ops[·]?))) a w := by unfold wpOp; simp only [ho]; exact h
    exact wpOp_mono (fun a' w' h' => wpAny_of_turn r _ a' w' hB.2 h') hw

theorem wpAny_of_mid (hB : laneB md ops a0.tmps.size L0 hs = true) (hE : ∀ t, Steady (E0 t)) (hO : ∀ pre k post, hs = pre ++ k :: post → ∃ o, ops[k]? = some o ∧ owes P ops w0 (envAt ops Ts pre E0) o (Ts k))
    (hF : ∀ a w, Behind w0 w → a.defers = a0.defers → a.tmps.size = a0.tmps.size → (∀ t, envAt ops Ts hs E0 t (a.tmps.getD t undef) w) → wpAny P md ops Q g (listedAll ops L0 hs) a w) :
    ∀ (f : Nat) (listed : Array Bool) (a : Act) (w : World), (hs.filter fun k => !listed.getD k false).length = f → Mid md ops w0 a0 L0 hs E0 Ts listed a w → wpAny P md ops Q (f + g) listed a w := by
  have hT : ∀ k ∈ hs, Steady (Ts k) := fun k hk => by
    obtain ⟨pre, post, e⟩ := List.append_of_mem hk
    obtain ⟨o, _, h⟩ := hO pre k post e
    exact h.1
  intro f
  induction f with
  | zero =>
    intro listed a w hf m
    obtain ⟨hL, hend⟩ := m.done hf
    rw [Nat.zero_add, hL]
    exact hF a w m.behind m.defers m.tsize hend
  | succ f ih =>
    intro listed a w hf m
    rw [show f + 1 + g = (f + g) + 1 by omega]
    refine ⟨fun h0 => (m.more hB (by omega) h0).elim, fun k hk => ?_⟩
    obtain ⟨hks, hlen⟩ := m.turn hB (by omega) hk
    obtain ⟨pre, post, e⟩ := List.append_of_mem hks
    obtain ⟨o, ho, _, hob⟩ := hO pre k post e
    have hm := m.meets hB e hk
    have hlk : looksOf ops k = o.looksAt ops := by simp [looksOf, ho]
    have hdk : dstOf ops k = o.dst := by simp [dstOf, ho]
    rw [hlk] at hm
    have hgo : ∀ K : Act → World → Prop, (∀ v w', Behind w w' → Ts k v w' → K (a.put o.dst v) w') → wpOp P ops Q k K a w := fun K hK => (hob a w m.behind hm).elim (fun h => wpOp_of_gives ho h hK) fun h => wpOp_of_givesBy ho h hK
    refine hgo _ fun v w' hb hv => ?_
    rw [← hdk]
    exact ih _ _ _ (by omega) (m.step hB hE hT hks hk hb hv)
end
end
end Go.Proofs.Ytncaichachipkaa
/- .. as it is walked: a literal frame, told slots beside it. No program is named here. -/
namespace Go.Proofs.Ytncaichachipkaa
set_option linter.unusedVariables false
set_option linter.unusedSimpArgs false
open Go Go.RowKit

section
variable {P : Program} {ops : Array Oper}

/-- Operations that yield a value and leave the world alone. -/
def simpleOp : Op → Bool
  | .move _ | .assign _ | .pick _ _ _ | .binOp _ _ _ _ _ | .unOp _ _ _ | .convert _ _ _ | .extract _ _ | .fieldAddr _ _ _ | .indexAddr _ _ _ | .field _ _ _ | .load _ _ | .index _ _ _ | .slice _ _ _ _ _ | .nilCheck _ | .typeAssert _ _ _ _ | .makeInterface _ _ => true
  | _ => false
theorem quiet_value {C : World → Prop} {w : World} {u : Value} {s : Sem Value} (h : Oper.quietUpon P C w u ((do pure (Next.value (← s)) : Sem Next).run P w)) : (do pure (Next.value (← s)) : Sem Next).run P w = .ok (.value u) w := by
  rw [Sem.run_bind] at h ⊢
  generalize s.run P w = r at *
  cases r with
  | halt x w' => exact h.elim
  | ok v w' =>
    simp only [Result.andThen_ok, Sem.run_pure, Oper.quietUpon] at h ⊢
    rw [h.1, h.2]
theorem quiet_map {α : Type} {C : World → Prop} {w : World} {u : Value} {s : Sem α} {f : α → Value} (h : Oper.quietUpon P C w u ((do let x ← s; pure (Next.value (f x)) : Sem Next).run P w)) : (do let x ← s; pure (Next.value (f x)) : Sem Next).run P w = .ok (.value u) w := by
  rw [Sem.run_bind] at h ⊢
  generalize s.run P w = r at *
  cases r with
  | halt x w' => exact h.elim
  | ok v w' =>
    simp only [Result.andThen_ok, Sem.run_pure, Oper.quietUpon] at h ⊢
    rw [h.1, h.2]
theorem simple_run {C : World → Prop} {o : Oper} {a : Act} {w : World} {u : Value} (hs : simpleOp o.op = true) (h : o.quietAt P a C w u) : (execOp a.eval o).run P w = .ok (.value u) w := by
  unfold Oper.quietAt at h
  obtain ⟨d, op, ty, pos, af, gd⟩ := o
  cases op <;> simp only [simpleOp, Bool.false_eq_true] at hs
  all_goals simp only [execOp] at h ⊢
  all_goals
    first
      | exact quiet_value h
      | exact quiet_map h
      | (simp only [Sem.run_pure, Oper.quietUpon] at h ⊢; rw [h.2])
      | (rename_i x
         generalize a.eval x = z at *
         rcases z with _ | _ | _ | _ | _ | p | _ | _ | _ | ⟨f, first, captured⟩ | _ | _ | _ | _ | _
         case pointer =>
           cases p with
           | none => exfalso; simp [go_sem, Oper.quietUpon] at h
           | some p => simp only [Sem.run_pure, Oper.quietUpon] at h ⊢; rw [h.2]
         case nilFunc => exfalso; simp [go_sem, Oper.quietUpon] at h
         case nilIface => exfalso; simp [go_sem, Oper.quietUpon] at h
         case func =>
           cases f
           case method name =>
             simp only at h ⊢
             split at h
             · exfalso; simp [go_sem, Oper.quietUpon] at h
             · rename_i t v he
               simp only [Sem.run_bind] at h ⊢
               generalize program.run P w = r1 at *
               cases r1 with
               | halt y w' => exact h.elim
               | ok pr w1 =>
                 simp only [Result.andThen_ok] at h ⊢
                 generalize (nilAhead (pr.types.size + Made.depth) t v name).run P w1 = r2 at *
                 cases r2 with
                 | halt y w' => exact h.elim
                 | ok q w2 =>
                   simp only [Result.andThen_ok] at h ⊢
                   split at h
                   · exfalso; simp [go_sem, Oper.quietUpon] at h
                   · rename_i hq
                     rw [if_neg hq]
                     simp only [Sem.run_pure, Oper.quietUpon] at h ⊢
                     rw [h.1, h.2]
             · simp only [Sem.run_pure, Oper.quietUpon] at h
               rw [h.2, Sem.run_pure]
           all_goals (simp only [Sem.run_pure, Oper.quietUpon] at h ⊢; rw [h.2])
         all_goals (simp only [Sem.run_pure, Oper.quietUpon] at h ⊢; rw [h.2]))

variable {md : Region.Mode} {Q : Exit → Act → World → Prop}
/-- What hangs on no world at all, taken ahead of all. -/
def pureB (md : Region.Mode) (ops : Array Oper) : List Nat → Array Bool → Bool
  | [], _ => true
  | k :: r, L => (Region.ready md ops L).contains k && Region.free md ops L k && ((ops[k]?).map fun o => simpleOp o.op).getD false && pureB md ops r (L.setIfInBounds k true)
theorem pure_first {w : World} {f : Nat} {K : Act → Prop} (hs : Region.noSelect ops = true) (hQ : ∀ c (a : Act) (d : Tmp) v w, Q (.panic c) (a.put (some d) v) w → Q (.panic c) a w) : ∀ (ps : List Nat) (L : Array Bool) (a : Act), pureB md ops ps L = true →
    wpQuiet P ops (fun _ => True) K (ps.filterMap (ops[·]?)) a → (∀ a', K a' → wpAny P md ops Q f (ps.foldl (fun L k => L.setIfInBounds k true) L) a' w) → wpAny P md ops Q (ps.length + f) L a w
  | [], L, a, _, h, hK => by rw [show ([] : List Nat).length + f = f by simp]; exact hK a h
  | k :: r, L, a, hB, h, hK => by
    simp only [pureB, Bool.and_eq_true] at hB
    obtain ⟨⟨⟨hr, hf⟩, hp⟩, hB⟩ := hB
    cases ho : ops[k]? with
    | none => rw [ho] at hp; simp at hp
    | some o =>
      rw [ho] at hp
      simp only [Option.map_some, Option.getD_some] at hp
      rw [List.filterMap_cons_some ho] at h
      have hst : ∃ v, Yields P ops o v a ∧ wpQuiet P ops (fun _ => True) K (r.filterMap (ops[·]?)) (a.put o.dst v) := by
        simp only [wpQuiet] at h
        by_cases hw : Region.wanted o (yielded ops a.tmps) = true
        · rw [if_pos hw] at h
          obtain ⟨v, h1, h2⟩ := h
          exact ⟨v, .inl ⟨hw, fun w => simple_run hp (h1 w trivial)⟩, h2⟩
        · rw [if_neg hw] at h
          exact ⟨undef, .inr ⟨by simpa using hw, rfl⟩, h⟩
      obtain ⟨v, hy, hrest⟩ := hst
      rw [show (k :: r).length + f = (r.length + f) + 1 by simp; omega]
      exact wpAny_take ho hs hf hr (fun c a w h' => by cases hd : o.dst with | none => rw [hd] at h'; exact h' | some d => rw [hd] at h'; exact hQ c a d v w h') hy (pure_first hs hQ r _ _ hB hrest (by simpa using hK))

theorem wpQuiet_class {C C' : World → Prop} (h : ∀ w, C' w ↔ C w) {K : Act → Prop} : ∀ (l : List Oper) (a : Act), wpQuiet P ops C K l a → wpQuiet P ops C' K l a := by
  have e : C' = C := funext fun w => propext (h w)
  subst e
  exact fun _ _ h => h
/-- The lane over the operations themselves. -/
def laneO (P : Program) (ops : Array Oper) (w0 : World) (Fin : Env → Prop) : List Oper → Env → Prop
  | [], E => Fin E
  | o :: r, E => ∃ T, owes P ops w0 E o T ∧ laneO P ops w0 Fin r (upd E o.dst T)
theorem lane_of_laneO {w0 : World} {Fin : Env → Prop} : ∀ (hs : List Nat) (E : Env), (∀ k ∈ hs, k < ops.size) → laneO P ops w0 Fin (hs.filterMap (ops[·]?)) E → lane P ops w0 Fin hs E
  | [], _, _, h => h
  | k :: r, E, hl, h => by
    have ho : ops[k]? = some (ops[k]'(hl k (by simp))) := Array.getElem?_eq_getElem (hl k (by simp))
    rw [List.filterMap_cons_some ho] at h
    obtain ⟨T, h1, h2⟩ := h
    exact ⟨_, T, ho, h1, lane_of_laneO r _ (fun j hj => hl j (by simp [hj])) h2⟩

/-- A literal frame, some of whose slots are told another way. -/
def envOf (a : Act) (F : List (Tmp × Told)) : Env := fun t v w => match F.lookup t with | some T => T v w | none => v = a.tmps.getD t undef
def SteadyAll (F : List (Tmp × Told)) : Prop := ∀ x ∈ F, Steady x.2
theorem envOf_steady {a : Act} {F : List (Tmp × Told)} (h : SteadyAll F) (t : Tmp) : Steady (envOf a F t) := fun v w w' hb hv => by
  unfold envOf at hv ⊢
  cases hl : F.lookup t with
  | none => rw [hl] at hv; exact hv
  | some T =>
    rw [hl] at hv
    refine h (t, T) ?_ v w w' hb hv
    obtain ⟨l1, l2, e, _⟩ := List.lookup_eq_some_iff.1 hl
    rw [e]; simp
def clearB (F : List (Tmp × Told)) (ts : List Tmp) : Bool := ts.all fun t => (F.lookup t).isNone
theorem clear_spec {F : List (Tmp × Told)} {ts : List Tmp} (h : clearB F ts = true) {t : Tmp} (ht : t ∈ ts) : F.lookup t = none := by
  simp only [clearB, List.all_eq_true] at h
  simpa using h t ht
def isBool : Value → Option Bool
  | .bool b => some b
  | _ => none
theorem boolAt (x : Array Value) (t : Tmp) : (match x[t]? with | some (.bool b) => some b | _ => none) = isBool (x.getD t undef) := by
  rw [Array.getD_eq_getD_getElem?]
  cases x[t]? with
  | none => rfl
  | some v => cases v <;> rfl
theorem same_exec {a a' : Act} {w : World} {F : List (Tmp × Told)} {o : Oper} (hsel : ∀ cs b, o.op ≠ .select cs b) (hc : clearB F (o.looksAt ops) = true) (h : meets (envOf a F) (o.looksAt ops) a' w) :
    execOp a'.eval o = execOp a.eval o ∧ Region.wanted o (yielded ops a'.tmps) = Region.wanted o (yielded ops a.tmps) := by
  have hg : ∀ t ∈ o.looksAt ops, a'.tmps.getD t undef = a.tmps.getD t undef := fun t ht => by
    have := h t ht
    unfold envOf at this
    rw [clear_spec hc ht] at this
    exact this
  refine ⟨execOp_congr o hsel fun x hx => ?_, ?_⟩
  · cases x with
    | tmp t => exact hg t (List.mem_append_left _ (List.mem_filterMap.2 ⟨.tmp t, by simpa using hx, rfl⟩))
    | _ => rfl
  · unfold Region.wanted
    cases hgd : o.guard with
    | none => rfl
    | some gw =>
      obtain ⟨j, want⟩ := gw
      have hy : yielded ops a'.tmps j = yielded ops a.tmps j := by
        unfold yielded
        cases ht : (ops[j]?).bind (·.dst) with
        | none => rfl
        | some t =>
          have := hg t (List.mem_append_right _ (by simp [hgd, ht]))
          simp only [Option.bind_some]
          exact (boolAt a'.tmps t).trans ((congrArg isBool this).trans (boolAt a.tmps t).symm)
      simp only [hy]
theorem upd_fixed {a : Act} {F : List (Tmp × Told)} {d : Tmp} {v : Value} (hd : d < a.tmps.size) (hF : F.lookup d = none) : upd (envOf a F) (some d) (fun u _ => u = v) = envOf (a.put (some d) v) F := by
  funext t u w
  unfold upd envOf
  by_cases h : d = t
  · subst h
    rw [if_pos rfl, hF]
    simp only [put_getD a d d v hd, if_true]
  · rw [if_neg (fun e => h (Option.some.inj e))]
    cases F.lookup t with
    | some T => rfl
    | none => simp only [put_getD a d t v hd, if_neg h]
theorem upd_told {a : Act} {F : List (Tmp × Told)} {d : Tmp} {T : Told} : upd (envOf a F) (some d) T = envOf a ((d, T) :: F) := by
  funext t u w
  unfold upd envOf
  by_cases h : d = t
  · subst h; simp
  · rw [if_neg (fun e => h (Option.some.inj e)), List.lookup_cons]
    have : (t == d) = false := by rw [beq_eq_false_iff_ne]; exact fun e => h e.symm
    rw [this]

variable {w0 : World} {Fin : Env → Prop} {a : Act} {F : List (Tmp × Told)} {o : Oper} {r : List Oper} {d : Tmp}
def notSelect (o : Oper) : Bool := match o.op with | .select _ _ => false | _ => true
theorem notSelect_spec (h : notSelect o = true) : ∀ cs b, o.op ≠ .select cs b := fun cs b e => by simp [notSelect, e] at h
/-- The operation's own words: it has a slot, within the frame, that nothing is told of; nothing is told of what it looks at. -/
def plainB (ops : Array Oper) (size : Nat) (F : List (Tmp × Told)) (o : Oper) : Bool := notSelect o && clearB F (o.looksAt ops) && match o.dst with | some d => decide (d < size) && (F.lookup d).isNone | none => false
theorem laneO_fixed {v : Value} (hp : plainB ops a.tmps.size F o = true) (h : ∀ w, Behind w0 w → givesIf P ops o a w fun u _ => u = v) (hr : laneO P ops w0 Fin r (envOf (a.put o.dst v) F)) : laneO P ops w0 Fin (o :: r) (envOf a F) := by
  simp only [plainB, Bool.and_eq_true] at hp
  obtain ⟨⟨hsel, hc⟩, hd⟩ := hp
  cases ho : o.dst with
  | none => rw [ho] at hd; simp at hd
  | some d =>
    rw [ho] at hd hr
    simp only [Bool.and_eq_true, decide_eq_true_eq, Option.isNone_iff_eq_none] at hd
    refine ⟨_, ⟨steady_eq v, fun a' w hb hm => .inl ?_⟩, ?_⟩
    · obtain ⟨e1, e2⟩ := same_exec (notSelect_spec hsel) hc hm
      have := h w hb
      unfold givesIf gives at this ⊢
      rw [e1, e2]
      exact this
    · rw [ho, upd_fixed hd.1 hd.2]; exact hr
theorem laneO_told (T : Told) (hT : Steady T) (hp : plainB ops a.tmps.size F o = true) (ho : o.dst = some d) (h : ∀ w, Behind w0 w → givesIf P ops o a w T) (hr : laneO P ops w0 Fin r (envOf a ((d, T) :: F))) : laneO P ops w0 Fin (o :: r) (envOf a F) := by
  simp only [plainB, Bool.and_eq_true] at hp
  obtain ⟨⟨hsel, hc⟩, _⟩ := hp
  refine ⟨T, ⟨hT, fun a' w hb hm => .inl ?_⟩, ?_⟩
  · obtain ⟨e1, e2⟩ := same_exec (notSelect_spec hsel) hc hm
    have := h w hb
    unfold givesIf gives at this ⊢
    rw [e1, e2]
    exact this
  · rw [ho, upd_told]; exact hr
/-- A run of operations that leave the world alone, by the quiet walk. -/
theorem laneO_quiet : ∀ (l : List Oper) (a : Act), (l.all fun o => simpleOp o.op && plainB ops a.tmps.size F o) = true →
    wpQuiet P ops (fun w' => ∃ s : Later w0.heap.size w0, w' = s.w) (fun a' => laneO P ops w0 Fin r (envOf a' F)) l a → laneO P ops w0 Fin (l ++ r) (envOf a F)
  | [], a, _, h => h
  | o :: l, a, hB, h => by
    simp only [List.all_cons, Bool.and_eq_true] at hB
    obtain ⟨⟨hs, hp⟩, hB⟩ := hB
    simp only [wpQuiet] at h
    have hsz : ∀ v, (a.put o.dst v).tmps.size = a.tmps.size := fun v => by cases o.dst <;> simp [Act.put]
    by_cases hw : Region.wanted o (yielded ops a.tmps) = true
    · rw [if_pos hw] at h
      obtain ⟨v, h1, h2⟩ := h
      refine laneO_fixed hp (fun w hb => .inl ⟨hw, ?_⟩) (laneO_quiet l _ (by rw [hsz]; exact hB) h2)
      have := simple_run hs (h1 w ⟨⟨w, hb⟩, rfl⟩)
      unfold gives
      rw [this]
      exact ⟨Behind.refl w, rfl⟩
    · rw [if_neg hw] at h
      exact laneO_fixed hp (fun w hb => .inr ⟨by simpa using hw, rfl⟩) (laneO_quiet l _ (by rw [hsz]; exact hB) h)
theorem laneO_run (n : Nat) {l : List Oper} (hB : ((l.take n).all fun o => simpleOp o.op && plainB ops a.tmps.size F o) = true)
    (h : wpQuiet P ops (fun w' => ∃ s : Later w0.heap.size w0, w' = s.w) (fun a' => laneO P ops w0 Fin (l.drop n) (envOf a' F)) (l.take n) a) : laneO P ops w0 Fin l (envOf a F) := by
  have := laneO_quiet (r := l.drop n) (l.take n) a hB h
  rwa [List.take_append_drop] at this
/-- A call whose arguments are told by the frame: one value, in whatever world that lies behind. -/
theorem laneO_call {v : Value} (hp : plainB ops a.tmps.size F o = true) (hw : Region.wanted o (yielded ops a.tmps) = true)
    (h : ∀ C : World → Prop, (∀ w w', C w → Behind w w' → C w') → (∀ w, C w → Behind w0 w) → o.quiet P a C fun a' => a' = a.put o.dst v) (hr : laneO P ops w0 Fin r (envOf (a.put o.dst v) F)) : laneO P ops w0 Fin (o :: r) (envOf a F) := by
  refine laneO_fixed hp (fun w hb => .inl ⟨hw, ?_⟩) hr
  obtain ⟨u, h1, h2⟩ := h (Behind w) (fun w1 w2 h1 h2 => h1.trans h2) (fun w1 h1 => hb.trans h1)
  have hq := h1 w (Behind.refl w)
  have hu : u = v := by
    simp only [plainB, Bool.and_eq_true] at hp
    obtain ⟨_, hd⟩ := hp
    cases ho : o.dst with
    | none => rw [ho] at hd; simp at hd
    | some d =>
      rw [ho] at hd h2
      simp only [Bool.and_eq_true, decide_eq_true_eq] at hd
      have := congrArg (fun x : Act => x.tmps.getD d undef) h2
      simpa only [put_getD a d d _ hd.1, if_true] using this
  subst hu
  unfold Oper.quietAt at hq
  unfold gives
  generalize (execOp a.eval o).run P w = x at *
  cases x with
  | halt x w' => exact hq.elim
  | ok n w' =>
    cases n <;> simp only [Oper.quietUpon] at hq ⊢
    case value x => exact ⟨hq.1 ▸ Behind.refl w, hq.2⟩
    case skip => exact ⟨hq.1 ▸ Behind.refl w, hq.2.symm⟩
    case enter f args =>
      obtain ⟨rfl, hq⟩ := hq
      exact ⟨Behind.refl _, hq.mono fun e w'' ⟨he, hb⟩ => ⟨_, he, hb, rfl⟩⟩
/-- A call that hands back what is told. -/
theorem laneO_use {v : Value} (hsel : notSelect o = true) (ho : o.dst = some d) (hd : d < a.tmps.size) (hF : F.lookup d = none)
    (h : ∀ a' w, Behind w0 w → meets (envOf a F) (o.looksAt ops) a' w → givesIf P ops o a' w fun u _ => u = v) (hr : laneO P ops w0 Fin r (envOf (a.put (some d) v) F)) : laneO P ops w0 Fin (o :: r) (envOf a F) :=
  ⟨_, ⟨steady_eq v, fun a' w hb hm => .inl (h a' w hb hm)⟩, by rw [ho, upd_fixed hd hF]; exact hr⟩
/-- An operation that the walk's own law runs, on what is told. -/
theorem laneO_by (T : Told) (hT : Steady T) (ho : o.dst = some d) (h : ∀ a' w, Behind w0 w → meets (envOf a F) (o.looksAt ops) a' w → givesBy P ops o a' w T) (hr : laneO P ops w0 Fin r (envOf a ((d, T) :: F))) : laneO P ops w0 Fin (o :: r) (envOf a F) :=
  ⟨T, ⟨hT, fun a' w hb hm => .inr (h a' w hb hm)⟩, by rw [ho, upd_told]; exact hr⟩

/-- An operation that is not wanted. -/
theorem laneO_skip (hp : plainB ops a.tmps.size F o = true) (hw : Region.wanted o (yielded ops a.tmps) = false) (hr : laneO P ops w0 Fin r (envOf (a.put o.dst undef) F)) : laneO P ops w0 Fin (o :: r) (envOf a F) :=
  laneO_fixed hp (fun _ _ => .inr ⟨hw, rfl⟩) hr
def guardSlots (ops : Array Oper) (o : Oper) : List Tmp := match o.guard with | some (g, _) => ((ops[g]?).bind (·.dst)).toList | none => []
theorem same_wanted {a' : Act} (h : ∀ t ∈ guardSlots ops o, a'.tmps.getD t undef = a.tmps.getD t undef) : Region.wanted o (yielded ops a'.tmps) = Region.wanted o (yielded ops a.tmps) := by
  unfold Region.wanted
  cases hgd : o.guard with
  | none => rfl
  | some gw =>
    obtain ⟨j, want⟩ := gw
    have hy : yielded ops a'.tmps j = yielded ops a.tmps j := by
      unfold yielded
      cases ht : (ops[j]?).bind (·.dst) with
      | none => rfl
      | some t =>
        have := h t (by simp [guardSlots, hgd, ht])
        simp only [Option.bind_some]
        exact (boolAt a'.tmps t).trans ((congrArg isBool this).trans (boolAt a.tmps t).symm)
    simp only [hy]
theorem run_enter {f : FuncId} {fn : Func} {c : Code} {xs : Array Operand} {ts : Array TypeId} {a' : Act} {w : World} (hop : o.op = .call { callee := .value (.func f), args := xs, argTypes := ts }) (hf : P.funcs[f]? = some fn) (hname : (fn.name == "runtime.NumGoroutine") = false) (hb : fn.body = some c) :
    (execOp a'.eval o).run P w = .ok (.enter f (xs.map a'.eval)) w := by
  have hn : ¬ (fn.name = "runtime.NumGoroutine") := by simpa using hname
  simp [execOp, hop, resolve, Act.eval, Deferred.ofValue, invoke, callFunc, hf, hn, hb]
/-- A call of one argument that is told. -/
theorem laneO_useCall {f : FuncId} {fn : Func} {c : Code} {t : Tmp} {T : Told} {v : Value} {ts : Array TypeId} (hop : o.op = .call { callee := .value (.func f), args := #[.tmp t], argTypes := ts }) (ho : o.dst = some d) (hd : d < a.tmps.size) (hF : F.lookup d = none)
    (hw : Region.wanted o (yielded ops a.tmps) = true) (hg : clearB F (guardSlots ops o) = true) (hT : F.lookup t = some T) (hf : P.funcs[f]? = some fn) (hname : (fn.name == "runtime.NumGoroutine") = false) (hb : fn.body = some c)
    (h : ∀ x w, Behind w0 w → T x w → Calls P f #[x] w fun e w' => e = .returned v ∧ Below w.heap.size w w') (hr : laneO P ops w0 Fin r (envOf (a.put (some d) v) F)) : laneO P ops w0 Fin (o :: r) (envOf a F) := by
  refine laneO_use (by simp [notSelect, hop]) ho hd hF (fun a' w hb' hm => .inl ⟨?_, ?_⟩) hr
  · rw [same_wanted (a := a) fun s hs => ?_]
    · exact hw
    · have h1 := hm s (by
        unfold guardSlots at hs
        unfold Oper.looksAt
        exact List.mem_append_right _ hs)
      unfold envOf at h1
      rw [clear_spec hg hs] at h1
      exact h1
  · unfold gives
    rw [run_enter hop hf hname hb]
    have h1 := hm t (by simp [Oper.looksAt, hop, Op.operands, Call.operands])
    unfold envOf at h1
    rw [hT] at h1
    refine ⟨Behind.refl w, ?_⟩
    have e : (#[Operand.tmp t]).map a'.eval = #[a'.tmps.getD t undef] := by simp [Act.eval]
    rw [e]
    exact (h _ w hb' h1).mono fun e w' ⟨he, hb⟩ => ⟨v, he, hb, rfl⟩
/-- A slice that was just made: a block of its own. -/
def madeT (n : Nat) (t : TypeId) (cs : List Value) : Told := fun v w => ∃ g, v = .slice (some ⟨g, 0, none⟩) n n ∧ w.heap[g]? = some (.cells cs.toArray t (0, 0))
theorem madeT_steady (n : Nat) (t : TypeId) (cs : List Value) : Steady (madeT n t cs) := fun v w w' hb ⟨g, h1, h2⟩ => ⟨g, h1, (hb.block g (Array.getElem?_eq_some_iff.1 h2).1).trans h2⟩
theorem madeT_new (n : Nat) (t : TypeId) (cs : Array Value) (w : World) : Behind w (w.alloc (.cells cs t)) ∧ madeT n t cs.toList (.slice (some ⟨w.heap.size, 0, none⟩) n n) (w.alloc (.cells cs t)) :=
  ⟨(Below.refl _ _).alloc (Nat.le_refl _) _, _, rfl, by simpa using heap_alloc_new w (.cells cs t)⟩

/-- What is told is filled in. -/
def fillAll : List (Tmp × Told) → Act → World → (Act → Prop) → Prop
  | [], a, _, K => K a
  | (t, T) :: F, a, w, K => ∀ x, T x w → fillAll F (a.put (some t) x) w K
theorem fill_spec {w : World} {K : Act → Prop} {a' : Act} : ∀ (F : List (Tmp × Told)) (a : Act), (F.map (·.1)).Nodup → (∀ x ∈ F, x.1 < a.tmps.size) → a'.defers = a.defers → a'.tmps.size = a.tmps.size →
    (∀ t, envOf a F t (a'.tmps.getD t undef) w) → fillAll F a w K → K a'
  | [], a, _, _, hd, hs, hm, h => by
    have : a' = a := by
      obtain ⟨t1, d1⟩ := a'
      obtain ⟨t2, d2⟩ := a
      simp only at hd hs
      subst hd
      congr 1
      refine Array.ext hs fun i h1 h2 => ?_
      have := hm i
      simp only [envOf, List.lookup_nil] at this
      simpa [h1, h2] using this
    rw [this]; exact h
  | (t, T) :: F, a, hn, hl, hd, hs, hm, h => by
    simp only [List.map_cons, List.nodup_cons] at hn
    have ht : t < a.tmps.size := hl (t, T) (by simp)
    have hx : T (a'.tmps.getD t undef) w := by have := hm t; simpa [envOf] using this
    have hnone : F.lookup t = none := by
      rw [List.lookup_eq_none_iff]
      intro p hp
      have : t ≠ p.1 := fun e => hn.1 (List.mem_map.2 ⟨p, hp, e.symm⟩)
      simpa using this
    refine fill_spec F (a.put (some t) (a'.tmps.getD t undef)) hn.2 (fun x hx => by simpa [Act.put] using hl x (by simp [hx])) (by simpa [Act.put] using hd) (by simpa [Act.put] using hs) (fun s => ?_) (h _ hx)
    have := hm s
    unfold envOf at this ⊢
    by_cases hst : s = t
    · subst hst
      rw [hnone]
      simp only [put_getD a s s _ ht, if_true]
    · have hb : (s == t) = false := by rw [beq_eq_false_iff_ne]; exact hst
      rw [List.lookup_cons, hb] at this
      simp only at this
      cases hF : F.lookup s with
      | some U => rw [hF] at this; exact this
      | none => rw [hF] at this; simp only [put_getD a t s _ ht, if_neg (Ne.symm hst)]; exact this

def finOf (P : Program) (ops : Array Oper) (w0 : World) (Q : Exit → Act → World → Prop) (tail : List Oper) (a1 : Act) (E : Env) : Prop :=
  ∀ a' w', Behind w0 w' → a'.defers = a1.defers → a'.tmps.size = a1.tmps.size → (∀ t, E t (a'.tmps.getD t undef) w') → wpList P ops Q tail a' w'
theorem laneO_end {tail : List Oper} {a1 : Act} (hn : (F.map (·.1)).Nodup) (hl : (F.all fun x => decide (x.1 < a.tmps.size)) = true) (hd : a.defers = a1.defers) (hs : a.tmps.size = a1.tmps.size) (h : ∀ w', Behind w0 w' → fillAll F a w' fun a'' => wpList P ops Q tail a'' w') :
    laneO P ops w0 (finOf P ops w0 Q tail a1) [] (envOf a F) := fun a' w' hb h1 h2 hm => fill_spec F a hn (by simpa using hl) (h1.trans hd.symm) (h2.trans hs.symm) hm (h w' hb)
theorem laneO_end0 {tail : List Oper} {a1 : Act} (hd : a.defers = a1.defers) (hs : a.tmps.size = a1.tmps.size) (h : ∀ w', Behind w0 w' → wpList P ops Q tail a w') :
    laneO P ops w0 (finOf P ops w0 Q tail a1) [] (envOf a []) := laneO_end (by simp) rfl hd hs h
end

def firstAll (size : Nat) (ps : List Nat) : Array Bool := ps.foldl (fun L k => L.setIfInBounds k true) (Array.replicate size false)
def topB (ops : Array Oper) (size : Nat) (ps hs ts : List Nat) : Bool :=
  Region.noSelect ops && pureB .any ops ps (Array.replicate ops.size false) && laneB .any ops size (firstAll ops.size ps) hs && turnB .any ops ts (listedAll ops (firstAll ops.size ps) hs) && decide (ps.length + hs.length + ts.length = ops.size)
theorem closed_fold {md : Region.Mode} {ops : Array Oper} : ∀ (ps : List Nat) (L : Array Bool), L.size = ops.size → Closed md ops L → pureB md ops ps L = true → Closed md ops (ps.foldl (fun L k => L.setIfInBounds k true) L) ∧ (ps.foldl (fun L k => L.setIfInBounds k true) L).size = ops.size
  | [], _, hs, h, _ => ⟨h, hs⟩
  | k :: r, L, hs, h, hB => by
    simp only [pureB, Bool.and_eq_true] at hB
    obtain ⟨⟨⟨hr, _⟩, _⟩, hB⟩ := hB
    obtain ⟨_, hlt, hed⟩ := mem_ready'.1 (by simpa using hr)
    refine closed_fold r _ (by simp [hs]) (fun i hi j hj => (set_getD (by rw [hs]; exact hlt)).2 (.inr ?_)) hB
    rcases (set_getD (by rw [hs]; exact hlt)).1 hi with rfl | hi
    · exact hed j hj
    · exact h i hi j hj

def pick (l : List Oper) (ks : List Nat) : List Oper := ks.map fun k => l.getD k default
theorem pick_eq {l : List Oper} : ∀ (ks : List Nat), (∀ k ∈ ks, k < l.length) → ks.filterMap (l.toArray[·]?) = pick l ks
  | [], _ => rfl
  | k :: r, h => by
    have hk := h k (by simp)
    rw [List.filterMap_cons_some (b := l.getD k default) (by simp [hk]), pick_eq r fun j hj => h j (by simp [hj])]
    rfl
theorem pure_lt {md : Region.Mode} {ops : Array Oper} : ∀ (ps : List Nat) (L : Array Bool), pureB md ops ps L = true → ∀ k ∈ ps, k < ops.size
  | [], _, _ => by simp
  | k :: r, L, h => by
    simp only [pureB, Bool.and_eq_true] at h
    intro j hj
    rcases List.mem_cons.1 hj with rfl | hj
    · exact (mem_ready'.1 (by simpa using h.1.1.1)).2.1
    · exact pure_lt r _ h.2 j hj
theorem turn_lt {md : Region.Mode} {ops : Array Oper} : ∀ (ts : List Nat) (L : Array Bool), turnB md ops ts L = true → ∀ k ∈ ts, k < ops.size
  | [], _, _ => by simp
  | k :: r, L, h => by
    simp only [turnB, Bool.and_eq_true, decide_eq_true_eq] at h
    intro j hj
    rcases List.mem_cons.1 hj with rfl | hj
    · exact (mem_ready'.1 (by rw [h.1]; simp)).2.1
    · exact turn_lt r _ h.2 j hj
/-- A region that draws its order: ps hang on no world; hs by promises; then the tail ts in its order. -/
theorem region_lane {P : Program} {id : Nat} {Q : Exit → Act → World → Prop} {a : Act} {w : World} {l : List Oper} (ps hs ts : List Nat) (hm : P.follows .mixedOrders = true) (hB : topB l.toArray a.tmps.size ps hs ts = true)
    (hQ : ∀ c (a : Act) (d : Tmp) v w, Q (.panic c) (a.put (some d) v) w → Q (.panic c) a w)
    (h : wpQuiet P l.toArray (fun _ => True) (fun a1 => a1.tmps.size = a.tmps.size ∧ laneO P l.toArray w (finOf P l.toArray w Q (pick l ts) a1) (pick l hs) (envOf a1 [])) (pick l ps) a) : (Code.region id l.toArray true).wp P Q a w := by
  simp only [topB, firstAll, Bool.and_eq_true, decide_eq_true_eq] at hB
  obtain ⟨⟨⟨⟨hsel, hp⟩, hl⟩, hseq⟩, hlen⟩ := hB
  refine wp_region_any hm ?_
  have hsz : l.toArray.size = ps.length + (hs.length + ts.length) := by omega
  have key : ∀ fuel, fuel = ps.length + (hs.length + ts.length) → wpAny P .any l.toArray Q fuel (Array.replicate l.toArray.size false) a { w with drawn := w.drawn + 1 } := by
    intro fuel hfuel
    rw [hfuel]
    rw [← pick_eq ps (by simpa using pure_lt ps _ hp)] at h
    refine pure_first hsel hQ ps _ a hp h fun a1 ⟨hs1, h1⟩ => ?_
    have hl' : ∀ k ∈ hs, k < l.toArray.size := fun k hk => by
      simp only [laneB, Bool.and_eq_true] at hl
      obtain ⟨⟨⟨_, _⟩, hh⟩, _⟩ := hl
      simp only [headB, List.all_eq_true, Bool.and_eq_true, decide_eq_true_eq] at hh
      exact (hh k hk).1.1
    rw [← pick_eq hs (by simpa using hl'), ← pick_eq ts (by simpa using turn_lt ts _ hseq)] at h1
    have hpairs : hs.Nodup := by
      simp only [laneB, Bool.and_eq_true] at hl
      exact (pairsB_spec hs hl.1.1.1).1
    obtain ⟨Ts, hO, hF⟩ := lane_all hs _ hpairs (lane_of_laneO hs _ hl' h1)
    have hcl := closed_fold (md := .any) (ops := l.toArray) ps (Array.replicate l.toArray.size false) (by simp) (fun i hi => by rw [getD_replicate_false] at hi; cases hi) hp
    have hfil : (hs.filter fun k => !(ps.foldl (fun L k => L.setIfInBounds k true) (Array.replicate l.toArray.size false)).getD k false).length = hs.length := by
      rw [List.filter_eq_self.2]
      intro k hk
      simp only [laneB, Bool.and_eq_true] at hl
      obtain ⟨⟨⟨_, _⟩, hh⟩, _⟩ := hl
      simp only [headB, List.all_eq_true, Bool.and_eq_true] at hh
      exact (hh k hk).2
    refine wpAny_of_mid (w0 := w) (a0 := a1) (E0 := envOf a1 []) (Ts := Ts) (g := ts.length) (by rw [hs1]; exact hl) (envOf_steady (by intro x hx; cases hx)) hO (fun a' w' hb hd hsz' hm' => ?_) hs.length _ a1 _ hfil
      ⟨Behind.drawn w, hcl.2, rfl, rfl, hcl.1, fun _ h => h, fun _ h => .inl h, fun t k hk hlk => ?_, fun t _ => by simp [envOf]⟩
    · exact wpAny_of_turn ts _ a' w' hseq (hF a' w' hb hd hsz' hm')
    · simp only [laneB, Bool.and_eq_true] at hl
      obtain ⟨⟨⟨_, _⟩, hh⟩, _⟩ := hl
      simp only [headB, List.all_eq_true, Bool.and_eq_true] at hh
      have := (hh k hk).2
      rw [hlk] at this
      cases this
  exact key _ hsz
end Go.Proofs.Ytncaichachipkaa
/- What a call may have turned: some blocks, and new ones. No program is named here. -/
namespace Go.Proofs.Ytncaichachipkaa
set_option linter.unusedVariables false
set_option linter.unusedSimpArgs false
open Go.RowKit

structure Only (S : List Nat) (w w' : World) : Prop where
  os : w'.os = w.os
  tape : w'.tape = w.tape
  output : w'.output = w.output
  size : w.heap.size ≤ w'.heap.size
  block : ∀ k, k < w.heap.size → k ∉ S → w'.heap[k]? = w.heap[k]?

section
variable {S T : List Nat} {a b c w w' : World}
theorem Only.refl (S : List Nat) (w : World) : Only S w w := ⟨rfl, rfl, rfl, Nat.le_refl _, fun _ _ _ => rfl⟩
/-- What the second may turn, the first may, or it is new. -/
theorem Only.trans (h : Only S a b) (k : Only T b c) (ht : ∀ x ∈ T, x ∈ S ∨ a.heap.size ≤ x) : Only S a c :=
  ⟨k.os.trans h.os, k.tape.trans h.tape, k.output.trans h.output, Nat.le_trans h.size k.size, fun i hi hn =>
    (k.block i (Nat.lt_of_lt_of_le hi h.size) fun hT => by rcases ht i hT with h1 | h1
                                                           · exact hn h1
                                                           · omega).trans (h.block i hi hn)⟩
theorem Only.mono (h : Only S w w') (hs : ∀ x ∈ S, x ∈ T ∨ w.heap.size ≤ x) : Only T w w' := (Only.refl T w).trans h hs
theorem Only.then (h : Only S a b) (k : Only S b c) : Only S a c := h.trans k fun x hx => .inl hx
theorem Only.alloc (h : Only S a w) (o : Obj) : Only S a (w.alloc o) :=
  h.trans (T := []) ⟨rfl, rfl, rfl, by simp, fun k hk _ => Below.heap_alloc _ _ _ hk⟩ (by simp)
theorem Only.drewN (h : Only S a w) (n : Nat) : Only S a (w.drewN n) := ⟨h.os, h.tape, h.output, h.size, h.block⟩
theorem Only.drawn (h : Only S a w) : Only S a { w with drawn := w.drawn + 1 } := ⟨h.os, h.tape, h.output, h.size, h.block⟩
theorem Only.setCell (h : Only S a w) (p : Addr) (hp : p.block ∈ S ∨ a.heap.size ≤ p.block) (u : Value) : Only S a (w.setCell p u) :=
  h.trans (T := [p.block]) ⟨rfl, rfl, rfl, by simp [World.setCell], fun k _ hk => Below.heap_setCell _ _ _ _ (by simpa using hk)⟩ (by simpa using hp)
theorem Only.of_grown {row : Option Nat} (h : w.grownBy w' row) : Only row.toList w w' :=
  ⟨h.os, h.tape, h.output, h.size, fun k hk hn => h.block k hk fun e => hn (by simp [← e])⟩
theorem Only.of_below (h : Below w.heap.size w w') : Only S w w' := ⟨h.os, h.tape, h.output, h.size, fun k hk _ => h.block k hk⟩
theorem Only.below {B : Nat} (h : Only S w w') (hs : ∀ x ∈ S, B ≤ x) (hB : B ≤ w.heap.size) : Below B w w' :=
  ⟨h.os, h.tape, h.output, h.size, fun k hk => h.block k (by omega) fun hm => by have := hs k hm; omega⟩
theorem Only.cell (h : Only S w w') {p : Addr} (hp : p.block < w.heap.size) (hn : p.block ∉ S) : w'.cell? p = w.cell? p := World.cell?_of_block (w := w) (h.block _ hp hn)
theorem Only.frozen (h : Only S w w') {p : Addr} (hp : p.block < w.heap.size) (hn : p.block ∉ S) : w'.frozen? p = w.frozen? p := World.frozen?_of_block (w := w) (h.block _ hp hn)
theorem Only.whole (h : Only S w w') {g : Nat} {t : TypeId} {cs : List Value} (hw : Whole w g t cs) (hn : g ∉ S) : Whole w' g t cs := (h.block g hw.size hn).trans hw
theorem Only.owns (h : Only S w w') {base : Nat} {e : TypeId} {size : Nat} {v : Value} {n : Nat} {xs : List Value} (ho : w.ownsRow base e size v n xs) (hn : ∀ g, v.ownBlock = some g → g ∉ S) : w'.ownsRow base e size v n xs := by
  refine ⟨ho.1, ?_⟩
  rcases ho.2 with h0 | ⟨g, cap, cur, hv, hb, hg, rest⟩
  · exact .inl h0
  · refine .inr ⟨g, cap, cur, hv, hb, ?_, rest⟩
    rw [h.block g (Array.getElem?_eq_some_iff.1 hg).1 (hn g (by simp [hv, Value.ownBlock]))]
    exact hg
theorem Only.row (h : Only S w w') {B : Nat} {A : Option Addr} {xs : List Value} (hr : Row w B A xs) (hB : B ≤ w.heap.size) (hn : ∀ x ∈ S, B ≤ x) : Row w' B A xs :=
  hr.keep fun p hp => h.cell (by omega) fun hm => by have := hn _ hm; omega
end

/-- Two blocks of other element types are two. -/
theorem whole_ne {w : World} {g : Nat} {t : TypeId} {cs : List Value} (h : Whole w g t cs) {base : Nat} {e : TypeId} {size : Nat} {v : Value} {n : Nat} {xs : List Value} (ho : w.ownsRow base e size v n xs) (hne : t ≠ e) : v.ownBlock ≠ some g := by
  intro hv
  rcases ho.2 with ⟨rfl, _⟩ | ⟨g', cap, cur, rfl, _, hg, _⟩
  · simp [Value.ownBlock] at hv
  · simp [Value.ownBlock] at hv
    subst hv
    have h' : w.heap[g']? = some (.cells cs.toArray t (0, 0)) := h
    rw [h'] at hg
    simp at hg
    exact hne hg.2
theorem owns_ne {w : World} {b b' : Nat} {e e' : TypeId} {size size' : Nat} {v v' : Value} {n n' : Nat} {xs xs' : List Value} (h : w.ownsRow b e size v n xs) (h' : w.ownsRow b' e' size' v' n' xs') (hne : e ≠ e') {g : Nat} (hg : v.ownBlock = some g) : v'.ownBlock ≠ some g := by
  intro hv
  rcases h.2 with ⟨rfl, _⟩ | ⟨g1, cap, cur, rfl, _, hg1, _⟩
  · simp [Value.ownBlock] at hg
  · rcases h'.2 with ⟨rfl, _⟩ | ⟨g2, cap2, cur2, rfl, _, hg2, _⟩
    · simp [Value.ownBlock] at hv
    · simp [Value.ownBlock] at hv hg
      subst hv hg
      rw [hg1] at hg2
      simp at hg2
      exact hne hg2.2
theorem owns_lt {w : World} {b : Nat} {e : TypeId} {size : Nat} {v : Value} {n : Nat} {xs : List Value} (h : w.ownsRow b e size v n xs) {g : Nat} (hg : v.ownBlock = some g) : g < w.heap.size := (h.lt g hg).2
theorem owns_nil {w : World} {b : Nat} {e : TypeId} {size : Nat} {v : Value} {n : Nat} {xs : List Value} (h : w.ownsRow b e size v n xs) : ∃ A c, v = .slice A n c ∧ n ≤ c ∧ c ≤ maxLen ∧ (A = none → c = 0) := by
  rcases h.2 with ⟨rfl, rfl⟩ | ⟨g, cap, cur, rfl, _, hg, hn, hc, _⟩
  · exact ⟨none, 0, rfl, Nat.le_refl _, by simp [maxLen], fun _ => rfl⟩
  · exact ⟨_, _, rfl, hn, hc, fun h => by cases h⟩
theorem owns_some {w : World} {b : Nat} {e : TypeId} {size : Nat} {v : Value} {n : Nat} {xs : List Value} (h : w.ownsRow b e size v n xs) (hn : 0 < n) : ∃ g c, v = .slice (some ⟨g, 0, none⟩) n c ∧ n ≤ c ∧ c ≤ maxLen ∧ g < w.heap.size := by
  rcases h.2 with ⟨rfl, rfl⟩ | ⟨g, cap, cur, rfl, _, hg, hc, hm, _⟩
  · omega
  · exact ⟨_, _, rfl, hc, hm, (Array.getElem?_eq_some_iff.1 hg).1⟩
/-- The last elements let go: what is left is owned. -/
theorem owns_cut {w : World} {b : Nat} {e : TypeId} {size g n c : Nat} {xs : List Value} (h : w.ownsRow b e size (.slice (some ⟨g, 0, none⟩) n c) n xs) (m : Nat) (hm : m ≤ n) : w.ownsRow b e size (.slice (some ⟨g, 0, none⟩) m c) m (xs.take (m * size)) := by
  have hl := h.1
  rcases h.2 with ⟨h0, _⟩ | ⟨g', cap, cur, hv, hb, hg, hc, hmx, hcs, ht⟩
  · cases h0
  · injection hv with e1 _ e2
    injection e1 with e1
    injection e1 with e1 _ _
    subst e1 e2
    have hle : m * size ≤ n * size := Nat.mul_le_mul_right _ hm
    refine ⟨by rw [List.length_take, hl]; omega, .inr ⟨g, c, cur, rfl, hb, hg, by omega, hmx, hcs, ?_⟩⟩
    rw [← ht, List.take_take, Nat.min_eq_left hle]

section
variable {P : Program} {w : World} {e size bytes n : Nat} {xs : List Value}
/-- 'append' onto a row of the call's own: its block, or a new one. -/
theorem run_push (t ty : TypeId) (z : Value) (ht : P.underlying t = some (.slice e)) (hinfo : (P.info? e).map (fun i => (i.zero, i.size, i.bytes)) = some (some z, size, bytes))
    (hzs : z.cells.size = size) (hsz : 0 < size) (v : Value) (hown : w.ownsRow 0 e size v n xs) (a : Addr) (m c : Nat) (news : List Value) (hl : news.length = m * size) (hm : 0 < m)
    (hnews : ∀ j u, news[j]? = some u → w.cell? (a.add j) = some u) (h1 : ∀ u ∈ news, u.oneCell' = true) (h63 : n + m ≤ maxLen) (hbytes : (n + m) * bytes ≤ 140737488355328) :
    ∃ v' w', (Builtin.append_ #[t, t] ty #[v, .slice (some a) m c]).run P w = .ok v' w' ∧ w'.ownsRow 0 e size v' (n + m) (xs ++ news) ∧ w.grownBy w' v.ownBlock ∧ (∀ g, v'.ownBlock = some g → v.ownBlock = some g ∨ w.heap.size ≤ g) := by
  obtain ⟨i, hi, hz, hsize, hby⟩ := info_parts hinfo
  obtain ⟨v', w', hr, h2, h3, h4⟩ := run_append_own (P := P) w 0 t ty e i z size bytes ht hi hz hsize hby hzs hsz v n xs hown a m c news hl hnews h1 h63 hbytes (Nat.zero_le _)
  refine ⟨v', w', hr, h2, h3, fun g hg => ?_⟩
  rcases hown.2 with ⟨rfl, rfl⟩ | ⟨g0, cap, cur, rfl, _, hg0, hnc, hcm, hcs, htake⟩
  · have hx : xs = [] := List.eq_nil_of_length_eq_zero (by simpa using hown.1)
    subst hx
    obtain ⟨v2, w2, hr2, h22, _, _⟩ := run_append_own (P := P) w w.heap.size t ty e i z size bytes ht hi hz hsize hby hzs hsz _ 0 [] (World.ownsRow_nil w _ e size) a m c news hl hnews h1 h63 hbytes (Nat.le_refl _)
    rw [hr] at hr2
    injection hr2 with hv hw
    subst hv
    exact .inr (h22.lt g hg).1
  · by_cases hroom : n + m ≤ cap
    · obtain ⟨w2, hr2, _⟩ := run_append_fits (P := P) w 0 t ty e i size ht hi hsize g0 n cap xs hown a m c news hl hnews h1 hroom
      rw [hr] at hr2
      injection hr2 with hv hw
      subst hv
      exact .inl hg
    · have hsmall : n + m ≤ 9223372036854775807 := by simp only [maxLen] at h63; omega
      subst hsize
      have holds : ∀ j u, xs[j]? = some u → w.cell? ((⟨g0, 0, none⟩ : Addr).add j) = some u := hown.cells (g := g0) rfl
      have hr2 := run_append_grow (P := P) w t ty e i z ht hi hz ⟨g0, 0, none⟩ n cap xs hown.1 holds a m c news hl hnews (by omega) (by omega) (growslice_fits (by omega) (by rw [hby]; exact hbytes))
      rw [hr] at hr2
      injection hr2 with hv hw
      subst hv
      simp [Value.ownBlock] at hg
      exact .inr (by omega)
end

/-- A variable that was just made: a block of its own. -/
def newT (lo : Nat) (t : TypeId) (cs : List Value) : Told := fun v w => ∃ g, v = .pointer (some ⟨g, 0, none⟩) ∧ lo ≤ g ∧ Whole w g t cs
theorem newT_steady (lo : Nat) (t : TypeId) (cs : List Value) : Steady (newT lo t cs) := fun v w w' hb ⟨g, h1, h0, h2⟩ => ⟨g, h1, h0, h2.under hb h2.size⟩
theorem newT_new (lo : Nat) (t : TypeId) (cs : Array Value) (w : World) (h : lo ≤ w.heap.size) : Behind w (w.alloc (.cells cs t)) ∧ newT lo t cs.toList (.pointer (some ⟨w.heap.size, 0, none⟩)) (w.alloc (.cells cs t)) :=
  ⟨(Below.refl _ _).alloc (Nat.le_refl _) _, _, rfl, h, Whole.mk w t cs⟩
/-- .. a slice. -/
def rowT (lo n : Nat) (t : TypeId) (cs : List Value) : Told := fun v w => ∃ g, v = .slice (some ⟨g, 0, none⟩) n n ∧ lo ≤ g ∧ Whole w g t cs
theorem rowT_steady (lo n : Nat) (t : TypeId) (cs : List Value) : Steady (rowT lo n t cs) := fun v w w' hb ⟨g, h1, h0, h2⟩ => ⟨g, h1, h0, h2.under hb h2.size⟩
theorem rowT_new (lo n : Nat) (t : TypeId) (cs : Array Value) (w : World) (h : lo ≤ w.heap.size) : Behind w (w.alloc (.cells cs t)) ∧ rowT lo n t cs.toList (.slice (some ⟨w.heap.size, 0, none⟩) n n) (w.alloc (.cells cs t)) :=
  ⟨(Below.refl _ _).alloc (Nat.le_refl _) _, _, rfl, h, Whole.mk w t cs⟩
end Go.Proofs.Ytncaichachipkaa
/- A block of integers of any type, read and written whole. No program is named here. -/
namespace Go.Proofs.Ytncaichachipkaa
open Go Go.RowKit
set_option linter.unusedVariables false
set_option linter.unusedSimpArgs false

theorem flat_set (zs : List Int) (k : Nat) (n : Int) : (i64s zs).set k (.int .i64 n) = i64s (zs.set k n) := by simp [i64s, List.map_set]
theorem flat_one (zs : List Int) : (i64s zs).toArray.all (·.oneCell') = true :=
  Array.all_eq_true_iff_forall_mem.2 fun v hv => by
    have hv' : v ∈ i64s zs := by simpa using hv
    obtain ⟨z, _, rfl⟩ := List.mem_map.1 hv'
    rfl
section
variable {P : Program} {ops : Array Oper} {rest : List Oper} {o : Oper} {a : Act} {w : World} {Q : Exit → Act → World → Prop}
/-- Type t is a struct, or an array, of n cells. -/
def FlatT (P : Program) (t : TypeId) (n : Nat) : Prop := (∃ d, P.underlying t = some d ∧ (match d with | .struct _ | .array _ _ => true | _ => false) = true) ∧ (P.info? t).map (·.size) = some n
theorem flat_load {t : TypeId} {n : Nat} (ht : FlatT P t n) (x : Operand) (hgd : o.guard = none) (ho : o.op = .load t x) (g : Nat) (hx : a.eval x = .pointer (some ⟨g, 0, none⟩)) (zs : List Int) (hz : zs.length = n) (t0 : TypeId)
    (hw : Whole w g t0 (i64s zs)) (h : wpList P ops Q rest (a.put o.dst (.agg (i64s zs).toArray)) w) : wpList P ops Q (o :: rest) a w := by
  obtain ⟨⟨d, hd, hm⟩, hs⟩ := ht
  exact wpList_load_row hgd t x ho g hx t0 (i64s zs).toArray (0, 0) d hw hd (by cases d <;> first | rfl | exact hm) (by rw [hs]; simp [i64s_length, hz]) h
/-- .. of an operation that a guard has let through. -/
theorem flat_loadW {t : TypeId} {n : Nat} (ht : FlatT P t n) (x : Operand) (hgd : Region.wanted o (yielded ops a.tmps) = true) (ho : o.op = .load t x) (g : Nat) (hx : a.eval x = .pointer (some ⟨g, 0, none⟩)) (zs : List Int) (hz : zs.length = n) (t0 : TypeId)
    (hw : Whole w g t0 (i64s zs)) (h : wpList P ops Q rest (a.put o.dst (.agg (i64s zs).toArray)) w) : wpList P ops Q (o :: rest) a w := by
  obtain ⟨⟨d, hd, hm⟩, hs⟩ := ht
  exact wpList_wanted hgd fun _ hK => wp_load_row t x ho g hx t0 (i64s zs).toArray (0, 0) d hw hd (by cases d <;> first | rfl | exact hm) (by rw [hs]; simp [i64s_length, hz]) (hK _ _ h)
theorem flat_store {t : TypeId} {n : Nat} (ht : FlatT P t n) (x y : Operand) (hgd : o.guard = none) (ho : o.op = .store t x y) (g : Nat) (hx : a.eval x = .pointer (some ⟨g, 0, none⟩)) (zs : List Int) (hz : zs.length = n) (hy : a.eval y = .agg (i64s zs).toArray) (t0 : TypeId)
    (old : List Int) (hw : Whole w g t0 (i64s old)) (hold : old.length = n) (h : ∀ w', Whole w' g t0 (i64s zs) → Only [g] w w' → wpList P ops Q rest (a.put o.dst undef) w') : wpList P ops Q (o :: rest) a w :=
  wpList_plain hgd fun K hK => wp_store_row t x y ho g (i64s zs).toArray hx hy t0 (i64s old).toArray hw (by rw [ht.2]; simp [i64s_length, hz]) (by simp [i64s_length, hz, hold]) (flat_one zs)
    (hK _ _ (h _ (setRow_heap w g _ _ _ _ hw) ⟨rfl, rfl, rfl, by simp, fun k _ hk => setRow_other w g k _ (by simpa using hk)⟩))
theorem flat_end {t : TypeId} {n : Nat} (ht : FlatT P t n) {fn : Func} {p : Tmp} {R : Ending → World → Prop} (hr : fn.results = #[.cell p t]) (g : Nat) (hp : a.tmps.getD p undef = .pointer (some ⟨g, 0, none⟩)) (zs : List Int) (hz : zs.length = n) (t0 : TypeId)
    (hw : Whole w g t0 (i64s zs)) (hd : a.defers = []) (hR : R (.returned (.agg (i64s zs).toArray)) w) : bodyPost P fn R .ret a w := by
  obtain ⟨⟨d, hd', hm⟩, hs⟩ := ht
  exact bodyPost_ret (v := .agg (i64s zs).toArray) (results_cell_row hr a.tmps w g t0 (i64s zs).toArray (0, 0) d hp hw hd' (by cases d <;> first | rfl | exact hm) (by rw [hs]; simp [i64s_length, hz])) hd hR
theorem flat_gives {t : TypeId} {n : Nat} (ht : FlatT P t n) {o : Oper} {a : Act} {w : World} (x : Operand) (ho : o.op = .load t x) (g : Nat) (hx : a.eval x = .pointer (some ⟨g, 0, none⟩)) (zs : List Int) (hz : zs.length = n) (t0 : TypeId)
    (hw : Whole w g t0 (i64s zs)) : gives P o a w fun u _ => u = .agg (i64s zs).toArray := by
  obtain ⟨⟨d, hd', hm⟩, hs⟩ := ht
  have hr := run_loadVar_row (P := P) w g t0 t (i64s zs).toArray (0, 0) d hw hd' (by cases d <;> first | rfl | exact hm) (by rw [hs]; simp [i64s_length, hz])
  unfold gives execOp
  simp only [ho, hx, Instr.loadAt, Instr.sureAddr, Sem.run_bind, Sem.run_pure, Result.andThen_ok, hr]
  exact ⟨Behind.refl w, trivial⟩
end
/-- A text's length, in a region that draws its order. -/
theorem gives_len {P : Program} {o : Oper} {a : Act} {w : World} (x : Operand) (t : TypeId) (ho : o.op = .call { callee := .builtin .len, args := #[x], argTypes := #[t] }) (ht : P.underlying t = some .string) (s : ByteArray) (hx : a.eval x = .string s) :
    gives P o a w fun u _ => u = .int .i64 s.size := by
  have h := run_len_string (P := P) w t o.type s ht
  unfold gives execOp
  simp only [ho, resolve, invoke, builtin, Sem.run_bind, Sem.run_pure, Result.andThen_ok, List.map_toArray, List.map_cons, List.map_nil, hx, h]
  exact ⟨Behind.refl w, rfl⟩
/-- 'a[i]' of an array of integers, by value. -/
theorem run_index_ints {P : Program} {t e : TypeId} {n : Nat} {k : IntKind} (h : P.underlying t = some (.array n e)) (he : P.underlying e = some (.int .i64)) (hs : (P.info? e).map (·.size) = some 1) (zs : List Int) (hz : zs.length = n) (i : Nat) (hi : i < n) (w : World) :
    (Instr.index t (.agg (i64s zs).toArray) (.int k i)).run P w = .ok (.int .i64 (zs.getD i 0)) w := by
  have h1 : (0 : Int) ≤ i ∧ (i : Int) < n := by omega
  have hg : (i64s zs)[i]? = some (.int .i64 (zs.getD i 0)) := by simp [i64s, List.getD, List.getElem?_eq_getElem (show i < zs.length by omega)]
  have hsz : (sizeOf e).run P w = .ok 1 w := by
    cases hq : P.info? e with
    | none => simp [hq] at hs
    | some j =>
      have : j.size = 1 := by simpa [hq] using hs
      simp [sizeOf, typeInfo, hq, this, go_sem]
  simp [Instr.index, run_underlying h, asIntOf, h1, hsz, part, isAgg, run_underlying he, hg, hi, go_sem]
section
variable {w w' : World} {g : Nat} {t : TypeId} {zs : List Int}
theorem Whole.num (h : Whole w g t (i64s zs)) (i : Nat) (hi : i < zs.length) : w.cell? ⟨g, i, none⟩ = some (.int .i64 (zs.getD i 0)) := by
  rw [h.cell i]
  simp [i64s, List.getD, List.getElem?_eq_getElem hi]
theorem Whole.putNum (h : Whole w g t (i64s zs)) (i : Nat) (n : Int) : Whole (w.setCell ⟨g, i, none⟩ (.int .i64 n)) g t (i64s (zs.set i n)) := by
  rw [← flat_set]; exact h.put i _
end
end Go.Proofs.Ytncaichachipkaa
/- How wide a text is, by numbers. -/
namespace Go.Proofs.Ytncaichachipkaa
open Go Go.RowKit
set_option linter.unusedVariables false
set_option linter.unusedSimpArgs false

def advZ (n : Int) : Int := max 0 (min n 65536)
def atZ (zs : List Int) (b : UInt8) : Int := advZ (zs.getD b.toNat 0)
def wideL (zs : List Int) (l : List UInt8) : Int := (l.map (atZ zs)).sum
def wideZ (zs : List Int) (s : ByteArray) : Int := wideL zs (bytesOf s)
def upZ (n : Int) : Int := if n < 0 then 0 else (n + 1) / 2
def okZ (zs : List Int) : Bool := zs.all fun z => decide (0 ≤ z ∧ z ≤ 65536)
theorem advZ_bd (n : Int) : 0 ≤ advZ n ∧ advZ n ≤ 65536 := by unfold advZ; omega
theorem wideL_bd (zs : List Int) : ∀ l : List UInt8, 0 ≤ wideL zs l ∧ wideL zs l ≤ 65536 * l.length
  | [] => by simp [wideL]
  | b :: r => by
    obtain ⟨h1, h2⟩ := wideL_bd zs r
    obtain ⟨h3, h4⟩ := advZ_bd (zs.getD b.toNat 0)
    have e : wideL zs (b :: r) = atZ zs b + wideL zs r := by simp [wideL]
    have e2 : atZ zs b = advZ (zs.getD b.toNat 0) := rfl
    rw [e, List.length_cons]
    omega
theorem wideL_append (zs : List Int) (l r : List UInt8) : wideL zs (l ++ r) = wideL zs l + wideL zs r := by simp [wideL, List.sum_append]
theorem wideL_take (zs : List Int) (s : ByteArray) (k : Nat) (h : k < s.size) : wideL zs ((bytesOf s).take (k + 1)) = wideL zs ((bytesOf s).take k) + advZ (zs.getD s[k].toNat 0) := by
  have hl : k < (bytesOf s).length := by rw [bytesOf_length]; exact h
  rw [List.take_succ_eq_append_getElem hl, wideL_append]
  simp [wideL, atZ, bytesOf_get s k h]
theorem wideL_all (zs : List Int) (s : ByteArray) : wideL zs ((bytesOf s).take s.size) = wideZ zs s := by
  rw [List.take_of_length_le (by rw [bytesOf_length]; omega)]; rfl
theorem wideZ_bd (zs : List Int) (s : ByteArray) : 0 ≤ wideZ zs s ∧ wideZ zs s ≤ 65536 * s.size := by
  have := wideL_bd zs (bytesOf s)
  rw [bytesOf_length] at this
  exact this
def tm1 (z : Int) : Int := z % 18446744073709551616 % 65537
def tmF (small : Bool) (z : Int) : Int := if small then tm1 z % 16 else tm1 z
def midL (zs : List Int) (small : Bool) (k : Nat) : List Int := (zs.take k).map (tmF small) ++ zs.drop k
def boostL (r : List Int) : List Int := (((r.set 97 (r.getD 97 0 + 64)).set 98 (r.getD 98 0 + 100)).set 99 (r.getD 99 0 + 640)).set 32 (r.getD 32 0 + 32)
def tameM (zs : List Int) (small : Bool) : List Int := if small then boostL (zs.map (tmF true)) else zs.map (tmF false)
theorem tm1_bd (z : Int) : 0 ≤ tm1 z ∧ tm1 z ≤ 65536 := by unfold tm1; omega
theorem tmF_bd (b : Bool) (z : Int) : 0 ≤ tmF b z ∧ tmF b z ≤ 65536 := by have := tm1_bd z; unfold tmF; cases b <;> simp <;> omega
theorem boostL_length (r : List Int) : (boostL r).length = r.length := by simp [boostL]
theorem tameM_length (zs : List Int) (b : Bool) (h : zs.length = 256) : (tameM zs b).length = 256 := by unfold tameM; cases b <;> simp [boostL_length, h]
theorem midL_length (zs : List Int) (b : Bool) (k : Nat) : (midL zs b k).length = zs.length := by
  unfold midL; rw [List.length_append, List.length_map, List.length_take, List.length_drop]; omega
theorem midL_zero (zs : List Int) (b : Bool) : midL zs b 0 = zs := by simp [midL]
theorem midL_all (zs : List Int) (b : Bool) (n : Nat) (h : zs.length = n) : midL zs b n = zs.map (tmF b) := by simp [midL, List.take_of_length_le (show zs.length ≤ n by omega), List.drop_of_length_le (show zs.length ≤ n by omega)]
theorem midL_get (zs : List Int) (b : Bool) (k : Nat) (h : k < zs.length) : (midL zs b k).getD k 0 = zs.getD k 0 := by
  simp [midL, List.getD, List.getElem?_append, List.getElem?_drop, Nat.min_eq_left (Nat.le_of_lt h)]
theorem midL_step (zs : List Int) (b : Bool) (k : Nat) (h : k < zs.length) : (midL zs b k).set k (tmF b (zs.getD k 0)) = midL zs b (k + 1) := by
  have hl : ((zs.take k).map (tmF b)).length = k := by rw [List.length_map, List.length_take]; omega
  unfold midL
  rw [List.set_append_right _ _ (by omega), hl, Nat.sub_self, List.drop_eq_getElem_cons h, List.set_cons_zero, List.take_succ_eq_append_getElem h, List.map_append]
  simp [List.getD, List.getElem?_eq_getElem h]
theorem map_getD (f : Int → Int) (zs : List Int) (i : Nat) (h : i < zs.length) : (zs.map f).getD i 0 = f (zs.getD i 0) := by simp [List.getD, List.getElem?_eq_getElem h]
theorem tm1_code (z : Int) : wrap64 ((IntKind.u64.wrap z).tmod 65537) = tm1 z := by
  have h : IntKind.u64.wrap z = z % 18446744073709551616 := by simp [IntKind.wrap, IntKind.bits, IntKind.signed]
  have h1 : 0 ≤ z % 18446744073709551616 := by omega
  rw [h, Int.tmod_eq_emod_of_nonneg h1]
  unfold wrap64 tm1
  omega
theorem tameM_in (zs : List Int) (i : Nat) (h : i < zs.length) : 0 ≤ (tameM zs false).getD i 0 ∧ (tameM zs false).getD i 0 ≤ 65536 := by
  have := tmF_bd false zs[i]
  simpa [tameM, List.getD, List.getElem?_eq_getElem h] using this
theorem bytesOf_append (a b : ByteArray) : bytesOf (a ++ b) = bytesOf a ++ bytesOf b := by simp [bytesOf]
theorem bytesOf_extract (s : ByteArray) (i j : Nat) : bytesOf (s.extract i j) = ((bytesOf s).drop i).take (j - i) := by
  simp [bytesOf, List.drop_take]
theorem bytesOf_one (s : ByteArray) (k : Nat) (h : k < s.size) : bytesOf (s.extract k (k + 1)) = [s[k]] := by
  have hl : k < (bytesOf s).length := by rw [bytesOf_length]; exact h
  rw [bytesOf_extract, show k + 1 - k = 1 by omega, List.drop_eq_getElem_cons hl, List.take_succ_cons, List.take_zero, bytesOf_get s k h]
theorem wideL_reverse (zs : List Int) (l : List UInt8) : wideL zs l.reverse = wideL zs l := by
  simp [wideL, List.map_reverse, List.sum_reverse]
theorem wideZ_append (zs : List Int) (a b : ByteArray) : wideZ zs (a ++ b) = wideZ zs a + wideZ zs b := by
  unfold wideZ; rw [bytesOf_append, wideL_append]
theorem wideZ_halves (zs : List Int) (s : ByteArray) (k : Nat) (h : k ≤ s.size) : wideZ zs s = wideZ zs (s.extract 0 k) + wideZ zs (s.extract k s.size) := by
  unfold wideZ
  rw [bytesOf_extract, bytesOf_extract, ← wideL_append]
  congr 1
  have hl := bytesOf_length s
  rw [List.drop_zero, Nat.sub_zero, List.take_of_length_le (l := (bytesOf s).drop k) (by rw [List.length_drop]; omega), List.take_append_drop]
theorem wideZ_empty (zs : List Int) : wideZ zs ⟨#[]⟩ = 0 := by rfl
theorem wideZ_one (zs : List Int) (s : ByteArray) (k : Nat) (h : k < s.size) : wideZ zs (s.extract k (k + 1)) = advZ (zs.getD s[k].toNat 0) := by
  unfold wideZ; rw [bytesOf_one s k h]; simp [wideL, atZ]
theorem pow30_code (z : Int) : wrap64 ((IntKind.u64.wrap z).tmod 1073741824) = z % 1073741824 := by
  have h : IntKind.u64.wrap z = z % 18446744073709551616 := by simp [IntKind.wrap, IntKind.bits, IntKind.signed]
  have h1 : 0 ≤ z % 18446744073709551616 := by omega
  rw [h, Int.tmod_eq_emod_of_nonneg h1]
  unfold wrap64
  omega
theorem upZ_half (n : Int) (h : 0 ≤ n) : 0 ≤ 2 * upZ n - n ∧ 2 * upZ n - n ≤ 1 := by unfold upZ; rw [if_neg (by omega)]; omega
end Go.Proofs.Ytncaichachipkaa
/- Glyphs as plain numbers: what shows of texts. No program is named here. -/
namespace Go.Proofs.Ytncaichachipkaa
open Go Go.RowKit
set_option linter.unusedVariables false
set_option linter.unusedSimpArgs false

structure Gl where
  kind : Int
  run : Int
  at_ : Int
  adv : Int
  deriving DecidableEq
structure Rn where
  node : Int
  text : ByteArray
  white : Int
  line : Int

def isW (b : UInt8) : Bool := decide ((b.toNat : Int) = 32 ∨ (b.toNat : Int) = 9 ∨ (b.toNat : Int) = 10 ∨ (b.toNat : Int) = 13)
def isB (g : Gl) : Bool := decide (g.kind = 2 ∨ g.kind = 3)
/-- A byte's glyph, ahead of all leaving out. -/
def rawG (zs : List Int) (r : Int) (white : Int) (i : Int) (b : UInt8) : Gl :=
  if white = 2 then (if (b.toNat : Int) = 10 then ⟨4, r, i, 0⟩ else ⟨1, r, i, atZ zs b⟩)
  else if isW b then ⟨if white = 1 then 3 else 2, r, i, atZ zs 32⟩ else ⟨1, r, i, atZ zs b⟩
def rawRun (zs : List Int) (r : Int) (white : Int) : Int → List UInt8 → List Gl
  | _, [] => []
  | i, b :: l => rawG zs r white i b :: rawRun zs r white (i + 1) l
def rawAll (zs : List Int) : Int → List Rn → List Gl
  | _, [] => []
  | r, x :: l => rawRun zs r x.white 0 (bytesOf x.text) ++ rawAll zs (r + 1) l
/-- A row of blanks is its first one. -/
def colG : Bool → List Gl → List Gl
  | _, [] => []
  | p, g :: l => if p && isB g then colG true l else g :: colG (isB g) l
/-- Nothing follows, or a break. -/
def endsG : List Gl → Bool
  | [] => true
  | h :: _ => decide (h.kind = 4)
/-- Blanks at the ends and beside breaks are left out. -/
def trimG : Bool → List Gl → List Gl
  | _, [] => []
  | e, g :: l => if isB g && (e || endsG l) then trimG (decide (g.kind = 4)) l else g :: trimG (decide (g.kind = 4)) l
def glyphsL (zs : List Int) (rs : List Rn) : List Gl := trimG true (colG false (rawAll zs 0 rs))
/-- What keeps blanks and breaks may be done ahead of the leaving out, or behind it. -/
structure Keeps (f : Gl → Gl) : Prop where
  b : ∀ g, isB (f g) = isB g
  k : ∀ g, decide ((f g).kind = 4) = decide (g.kind = 4)
theorem colG_map {f : Gl → Gl} (hf : Keeps f) : ∀ (l : List Gl) (p : Bool), colG p (l.map f) = (colG p l).map f
  | [], p => rfl
  | g :: l, p => by
    have h1 := colG_map hf l true
    have h2 := colG_map hf l (isB g)
    simp only [List.map_cons, colG, hf.b]
    split
    · exact h1
    · simp [h2]
theorem endsG_map {f : Gl → Gl} (hf : Keeps f) : ∀ (l : List Gl), endsG (l.map f) = endsG l
  | [] => rfl
  | g :: l => hf.k g
theorem trimG_map {f : Gl → Gl} (hf : Keeps f) : ∀ (l : List Gl) (e : Bool), trimG e (l.map f) = (trimG e l).map f
  | [], e => rfl
  | g :: l, e => by
    have h1 := trimG_map hf l (decide (g.kind = 4))
    simp only [List.map_cons, trimG, hf.b, hf.k, h1, endsG_map hf]
    split
    · rfl
    · rfl
/-- Every glyph that shows is a byte's. -/
theorem colG_sub : ∀ (l : List Gl) (p : Bool), (colG p l).Sublist l
  | [], p => List.Sublist.refl _
  | g :: l, p => by
    simp only [colG]
    split
    · exact (colG_sub l true).cons g
    · exact (colG_sub l (isB g)).cons_cons g
theorem trimG_sub : ∀ (l : List Gl) (e : Bool), (trimG e l).Sublist l
  | [], e => List.Sublist.refl _
  | g :: l, e => by
    simp only [trimG]
    have h := trimG_sub l (decide (g.kind = 4))
    split
    · exact h.cons g
    · exact h.cons_cons g
theorem glyphsL_sub (zs : List Int) (rs : List Rn) : (glyphsL zs rs).Sublist (rawAll zs 0 rs) := (trimG_sub _ _).trans (colG_sub _ _)
theorem rawRun_length (zs : List Int) (r w : Int) : ∀ (l : List UInt8) (i : Int), (rawRun zs r w i l).length = l.length
  | [], i => rfl
  | b :: l, i => by simp [rawRun, rawRun_length zs r w l (i + 1)]
theorem rawRun_get (zs : List Int) (r w : Int) : ∀ (l : List UInt8) (i : Int) (k : Nat) (h : k < l.length), (rawRun zs r w i l)[k]? = some (rawG zs r w (i + k) l[k])
  | b :: l, i, 0, h => by simp [rawRun]
  | b :: l, i, k + 1, h => by
    have := rawRun_get zs r w l (i + 1) k (by simpa using h)
    simp only [rawRun, List.getElem?_cons_succ, this, List.getElem_cons_succ, Option.some.injEq]
    congr 1
    omega
/-- How many bytes all texts have. -/
def sizeAll (rs : List Rn) : Nat := (rs.map fun x => x.text.size).sum
theorem rawAll_length (zs : List Int) : ∀ (rs : List Rn) (r : Int), (rawAll zs r rs).length = sizeAll rs
  | [], r => rfl
  | x :: l, r => by simp [rawAll, sizeAll, rawRun_length, bytesOf_length, rawAll_length zs l (r + 1)]
theorem glyphsL_length (zs : List Int) (rs : List Rn) : (glyphsL zs rs).length ≤ sizeAll rs := by
  rw [← rawAll_length zs rs 0]; exact (glyphsL_sub zs rs).length_le
/-- The run and the byte of a glyph. -/
def byteAt (rs : List Rn) (g : Gl) : UInt8 := ((rs[g.run.toNat]?.map fun x => bytesOf x.text).getD []).getD g.at_.toNat 0
def whiteAt (rs : List Rn) (g : Gl) : Int := (rs[g.run.toNat]?.map fun x => x.white).getD 0
def InRuns (zs : List Int) (rs : List Rn) (g : Gl) : Prop := ∃ (r i : Nat) (h : r < rs.length) (h' : i < rs[r].text.size), g = rawG zs r rs[r].white i (rs[r].text[i])
theorem mem_rawRun (zs : List Int) (r w : Int) (l : List UInt8) (i : Int) (g : Gl) (hg : g ∈ rawRun zs r w i l) : ∃ (k : Nat) (h : k < l.length), g = rawG zs r w (i + k) l[k] := by
  obtain ⟨k, hk, e⟩ := List.mem_iff_getElem.1 hg
  rw [rawRun_length] at hk
  have := rawRun_get zs r w l i k hk
  rw [List.getElem?_eq_getElem (by rw [rawRun_length]; exact hk), e] at this
  exact ⟨k, hk, by injection this⟩
theorem mem_rawAll (zs : List Int) : ∀ (rs : List Rn) (r0 : Nat) (g : Gl), g ∈ rawAll zs r0 rs → ∃ (r i : Nat) (h : r < rs.length) (h' : i < rs[r].text.size), g = rawG zs ((r0 + r : Nat) : Int) rs[r].white i (rs[r].text[i])
  | x :: l, r0, g, hg => by
    simp only [rawAll, List.mem_append] at hg
    rcases hg with hg | hg
    · obtain ⟨k, hk, e⟩ := mem_rawRun zs r0 x.white _ 0 g hg
      rw [bytesOf_length] at hk
      refine ⟨0, k, by simp, hk, ?_⟩
      rw [e, bytesOf_get x.text k hk]
      simp
    · obtain ⟨r, i, h, h', e⟩ := mem_rawAll zs l (r0 + 1) g (by simpa using hg)
      refine ⟨r + 1, i, by simpa using h, by simpa using h', ?_⟩
      rw [e]
      simp only [List.getElem_cons_succ]
      congr 1
      omega
theorem glyphsL_in (zs : List Int) (rs : List Rn) (g : Gl) (hg : g ∈ glyphsL zs rs) : InRuns zs rs g := by
  obtain ⟨r, i, h, h', e⟩ := mem_rawAll zs rs 0 g ((glyphsL_sub zs rs).subset hg)
  exact ⟨r, i, h, h', by rw [e]; simp⟩
theorem rawG_run (zs : List Int) (r w i : Int) (b : UInt8) : (rawG zs r w i b).run = r ∧ (rawG zs r w i b).at_ = i := by
  unfold rawG; split
  · split <;> exact ⟨rfl, rfl⟩
  · split <;> exact ⟨rfl, rfl⟩
theorem rawG_isB (zs : List Int) (r w i : Int) (b : UInt8) : isB (rawG zs r w i b) = (!decide (w = 2) && isW b) := by
  unfold rawG
  by_cases hw : w = 2
  · simp only [hw, if_true]
    split <;> simp [isB]
  · rw [if_neg hw]
    cases hb : isW b
    · simp [isB]
    · simp only [if_true, hw]
      split <;> simp [isB]
theorem rawG_break (zs : List Int) (r w i : Int) (b : UInt8) : decide ((rawG zs r w i b).kind = 4) = (decide (w = 2) && decide ((b.toNat : Int) = 10)) := by
  unfold rawG
  by_cases hw : w = 2
  · simp only [hw, if_true]
    split <;> simp_all
  · rw [if_neg hw]
    cases hb : isW b
    · simp [hw]
    · simp only [if_true, hw]
      split <;> simp [hw]
theorem rawG_hold (zs : List Int) (r w i : Int) (b : UInt8) (h : (rawG zs r w i b).kind = 3) : w = 1 := by
  unfold rawG at h
  split at h
  · split at h <;> simp at h
  · split at h
    · split at h
      · assumption
      · simp at h
    · simp at h
theorem rawG_adv (zs : List Int) (r w i : Int) (b : UInt8) : 0 ≤ (rawG zs r w i b).adv ∧ (rawG zs r w i b).adv ≤ 65536 := by
  have h1 := advZ_bd (zs.getD b.toNat 0)
  have h2 := advZ_bd (zs.getD (32 : UInt8).toNat 0)
  unfold rawG atZ
  split
  · split
    · simp
    · exact h1
  · split
    · exact h2
    · exact h1
theorem rawG_kind (zs : List Int) (r w i : Int) (b : UInt8) : (rawG zs r w i b).kind = 1 ∨ (rawG zs r w i b).kind = 2 ∨ (rawG zs r w i b).kind = 3 ∨ (rawG zs r w i b).kind = 4 := by
  unfold rawG
  split
  · split <;> simp
  · split
    · split <;> simp
    · simp
end Go.Proofs.Ytncaichachipkaa
/- Rows of glyphs and of texts in memory; what is white, what is a blank (quoinref9). -/
namespace Go.Proofs.Ytncaichachipkaa
open Go Go.RowKit
set_option linter.unusedVariables false
set_option linter.unusedSimpArgs false
set_option maxRecDepth 20000
set_option maxHeartbeats 4000000

def gCells : List Gl → List Int
  | [] => []
  | g :: r => g.kind :: g.run :: g.at_ :: g.adv :: gCells r
def rCells : List Rn → List Value
  | [] => []
  | x :: r => .int .i64 x.node :: .string x.text :: .int .i64 x.white :: .int .i64 x.line :: rCells r
theorem gCells_length : ∀ (l : List Gl), (gCells l).length = l.length * 4
  | [] => rfl
  | g :: r => by simp [gCells, gCells_length r]; omega
theorem gCells_append : ∀ (a b : List Gl), gCells (a ++ b) = gCells a ++ gCells b
  | [], b => rfl
  | g :: r, b => by simp [gCells, gCells_append r b]
theorem gCells_get : ∀ (l : List Gl) (k : Nat) (h : k < l.length), (gCells l)[k * 4]? = some l[k].kind ∧ (gCells l)[k * 4 + 1]? = some l[k].run ∧ (gCells l)[k * 4 + 2]? = some l[k].at_ ∧ (gCells l)[k * 4 + 3]? = some l[k].adv
  | g :: r, 0, h => ⟨rfl, rfl, rfl, rfl⟩
  | g :: r, k + 1, h => by
    have := gCells_get r k (by simpa using h)
    rw [show (k + 1) * 4 = k * 4 + 1 + 1 + 1 + 1 by omega]
    simpa [gCells] using this
theorem rCells_length : ∀ (l : List Rn), (rCells l).length = l.length * 4
  | [] => rfl
  | g :: r => by simp [rCells, rCells_length r]; omega
theorem rCells_append : ∀ (a b : List Rn), rCells (a ++ b) = rCells a ++ rCells b
  | [], b => rfl
  | g :: r, b => by simp [rCells, rCells_append r b]
theorem rCells_get : ∀ (l : List Rn) (k : Nat) (h : k < l.length), (rCells l)[k * 4]? = some (.int .i64 l[k].node) ∧ (rCells l)[k * 4 + 1]? = some (.string l[k].text) ∧ (rCells l)[k * 4 + 2]? = some (.int .i64 l[k].white) ∧ (rCells l)[k * 4 + 3]? = some (.int .i64 l[k].line)
  | g :: r, 0, h => ⟨rfl, rfl, rfl, rfl⟩
  | g :: r, k + 1, h => by
    have := rCells_get r k (by simpa using h)
    rw [show (k + 1) * 4 = k * 4 + 1 + 1 + 1 + 1 by omega]
    simpa [rCells] using this
theorem add_far (ad : Addr) (m j : Nat) (h : 0 < j) : (⟨(ad.add m).block, (ad.add m).off + j, none⟩ : Addr) = ad.add (m + j) := by
  have : (ad.add m).add j = ad.add (m + j) := add_of_add _ _ _
  rw [← this]
  generalize ad.add m = b
  unfold Addr.add
  rw [if_neg (by omega)]
/-- A row of records of four cells: the k-th one's, as a walk reads them. -/
theorem Row.rec4 {w : World} {B : Nat} {A : Option Addr} {xs : List Value} (h : Row w B A xs) {k : Nat} {a b c d : Value} (h0 : xs[k * 4]? = some a) (h1 : xs[k * 4 + 1]? = some b) (h2 : xs[k * 4 + 2]? = some c) (h3 : xs[k * 4 + 3]? = some d) :
    ∃ ad, A = some ad ∧ ad.block < B ∧ w.cell? (ad.add (k * 4)) = some a ∧ w.cell? ⟨(ad.add (k * 4)).block, (ad.add (k * 4)).off + 1, none⟩ = some b ∧
      w.cell? ⟨(ad.add (k * 4)).block, (ad.add (k * 4)).off + 2, none⟩ = some c ∧ w.cell? ⟨(ad.add (k * 4)).block, (ad.add (k * 4)).off + 3, none⟩ = some d := by
  obtain ⟨q3, e3⟩ := List.getElem?_eq_some_iff.1 h3
  obtain ⟨ad, e, hb, hc⟩ := h (by omega)
  have at_ : ∀ j, j < 4 → ∀ z, xs[k * 4 + j]? = some z → w.cell? (ad.add (k * 4 + j)) = some z := fun j hj z hz => by
    obtain ⟨q, e⟩ := List.getElem?_eq_some_iff.1 hz
    rw [hc _ q, e]
  refine ⟨ad, e, hb, at_ 0 (by omega) _ h0, ?_, ?_, ?_⟩
  · rw [add_far ad _ 1 (by omega)]; exact at_ 1 (by omega) _ h1
  · rw [add_far ad _ 2 (by omega)]; exact at_ 2 (by omega) _ h2
  · rw [add_far ad _ 3 (by omega)]; exact at_ 3 (by omega) _ h3
theorem i64s_at {l : List Int} {i : Nat} {z : Int} (h : l[i]? = some z) : (i64s l)[i]? = some (.int .i64 z) := by simp [i64s, h]
theorem Row.gl {w : World} {B : Nat} {A : Option Addr} {l : List Gl} (h : Row w B A (i64s (gCells l))) {k : Nat} (hk : k < l.length) :
    ∃ ad, A = some ad ∧ ad.block < B ∧ w.cell? (ad.add (k * 4)) = some (.int .i64 l[k].kind) ∧ w.cell? ⟨(ad.add (k * 4)).block, (ad.add (k * 4)).off + 1, none⟩ = some (.int .i64 l[k].run) ∧
      w.cell? ⟨(ad.add (k * 4)).block, (ad.add (k * 4)).off + 2, none⟩ = some (.int .i64 l[k].at_) ∧ w.cell? ⟨(ad.add (k * 4)).block, (ad.add (k * 4)).off + 3, none⟩ = some (.int .i64 l[k].adv) := by
  obtain ⟨h0, h1, h2, h3⟩ := gCells_get l k hk
  exact h.rec4 (i64s_at h0) (i64s_at h1) (i64s_at h2) (i64s_at h3)
theorem Row.rn {w : World} {B : Nat} {A : Option Addr} {l : List Rn} (h : Row w B A (rCells l)) {k : Nat} (hk : k < l.length) :
    ∃ ad, A = some ad ∧ ad.block < B ∧ w.cell? (ad.add (k * 4)) = some (.int .i64 l[k].node) ∧ w.cell? ⟨(ad.add (k * 4)).block, (ad.add (k * 4)).off + 1, none⟩ = some (.string l[k].text) ∧
      w.cell? ⟨(ad.add (k * 4)).block, (ad.add (k * 4)).off + 2, none⟩ = some (.int .i64 l[k].white) ∧ w.cell? ⟨(ad.add (k * 4)).block, (ad.add (k * 4)).off + 3, none⟩ = some (.int .i64 l[k].line) := by
  obtain ⟨h0, h1, h2, h3⟩ := rCells_get l k hk
  exact h.rec4 h0 h1 h2 h3
def glV (g : Gl) : Value := .agg #[.int .i64 g.kind, .int .i64 g.run, .int .i64 g.at_, .int .i64 g.adv]
theorem gl_info : (Try.prog.info? 81).map (fun i => (i.zero, i.size, i.bytes)) = some (some (.agg #[.int .i64 0, .int .i64 0, .int .i64 0, .int .i64 0]), 4, 32) := by kernel_rfl
/- What is white. -/
theorem isW_cases (b : UInt8) : ((b.toNat : Int) == 32) = true ∧ isW b = true ∨ ((b.toNat : Int) == 32) = false ∧ ((b.toNat : Int) == 9) = true ∧ isW b = true ∨
    ((b.toNat : Int) == 32) = false ∧ ((b.toNat : Int) == 9) = false ∧ ((b.toNat : Int) == 10) = true ∧ isW b = true ∨
    ((b.toNat : Int) == 32) = false ∧ ((b.toNat : Int) == 9) = false ∧ ((b.toNat : Int) == 10) = false ∧ ((b.toNat : Int) == 13) = true ∧ isW b = true ∨
    ((b.toNat : Int) == 32) = false ∧ ((b.toNat : Int) == 9) = false ∧ ((b.toNat : Int) == 10) = false ∧ ((b.toNat : Int) == 13) = false ∧ isW b = false := by
  have hd : isW b = decide ((b.toNat : Int) = 32 ∨ (b.toNat : Int) = 9 ∨ (b.toNat : Int) = 10 ∨ (b.toNat : Int) = 13) := rfl
  rw [hd]
  simp only [beq_iff_eq, beq_eq_false_iff_ne, decide_eq_true_eq, decide_eq_false_iff_not]
  omega
theorem isB_cases (k : Int) (g : Gl) (hg : g.kind = k) : (k == 2) = true ∧ isB g = true ∨ (k == 2) = false ∧ (k == 3) = true ∧ isB g = true ∨ (k == 2) = false ∧ (k == 3) = false ∧ isB g = false := by
  have hd : isB g = decide (g.kind = 2 ∨ g.kind = 3) := rfl
  rw [hd, hg]
  simp only [beq_iff_eq, beq_eq_false_iff_ne, decide_eq_true_eq, decide_eq_false_iff_not]
  omega
end Go.Proofs.Ytncaichachipkaa
/- Slices of texts (api.Run: two integers, a text between them, an integer), opened. -/
namespace Go.Proofs.Ytncaichachipkaa
open Go.Joins Go.ChangeShapes Go.WideShapes Go.RowKit Go.ChangeAt Go.Deep
set_option linter.unusedVariables false
set_option linter.unusedSimpArgs false

section
variable {H : Type} {enc : TypeId × Value → H} {P : Program} {w : World} {base : Nat} {spare : Nat → Bool} {held : Bool}
theorem list_four {α : Type} {l : List α} (h : l.length = 4) : ∃ a b c d, l = [a, b, c, d] := by
  match l, h with
  | [a, b, c, d], _ => exact ⟨a, b, c, d, rfl⟩
theorem trod_rn {e : TypeId} {f0 f1 f2 f3 : Field} {fuel : Nat} {cs : List Value} {x : DataW H × List MemPlace} (hs : P.underlying e = some (.struct #[f0, f1, f2, f3])) (hC : P.cellsOf e = 4)
    (h0 : f0.offset = 0 ∧ P.cellsOf f0.type = 1 ∧ P.underlying f0.type = some (.int .i64)) (h1 : f1.offset = 1 ∧ P.cellsOf f1.type = 1 ∧ P.underlying f1.type = some .string)
    (h2 : f2.offset = 2 ∧ P.cellsOf f2.type = 1 ∧ P.underlying f2.type = some (.int .i64)) (h3 : f3.offset = 3 ∧ P.cellsOf f3.type = 1 ∧ P.underlying f3.type = some (.int .i64))
    (h : DataW.trod enc P w base spare held fuel e cs = some x) : ∃ r : Rn, cs = [.int .i64 r.node, .string r.text, .int .i64 r.white, .int .i64 r.line] ∧ r.text.size ≤ maxLen := by
  obtain ⟨xs, n, _, _, hl, hlen, hf⟩ := DataW.trod_struct hs h
  rw [hC] at hl
  obtain ⟨a, b, c, d, rfl⟩ := list_four hl
  obtain ⟨y0, y1, y2, y3, rfl⟩ := list_four (l := xs) (by simpa using hlen)
  have e0 := hf 0 f0 rfl
  have e1 := hf 1 f1 rfl
  have e2 := hf 2 f2 rfl
  have e3 := hf 3 f3 rfl
  simp only [h0.1, h0.2.1, h1.1, h1.2.1, h2.1, h2.2.1, h3.1, h3.2.1, List.drop_succ_cons, List.drop_zero, List.take_succ_cons, List.take_zero] at e0 e1 e2 e3
  obtain ⟨n0, q0, _, _⟩ := DataW.trod_int h0.2.2 e0
  obtain ⟨s1, q1, _, hz⟩ := DataW.trod_string h1.2.2 e1
  obtain ⟨n2, q2, _, _⟩ := DataW.trod_int h2.2.2 e2
  obtain ⟨n3, q3, _, _⟩ := DataW.trod_int h3.2.2 e3
  injection q0 with q0 _
  injection q1 with q1 _
  injection q2 with q2 _
  injection q3 with q3 _
  subst q0 q1 q2 q3
  exact ⟨⟨n0, s1, n2, n3⟩, rfl, hz⟩
theorem open_runs {t e : TypeId} {f0 f1 f2 f3 : Field} {fuel n c : Nat} {A : Option Addr} {x : DataW H × List MemPlace} (ht : P.underlying t = some (.slice e)) (hs : P.underlying e = some (.struct #[f0, f1, f2, f3])) (hC : P.cellsOf e = 4)
    (h0 : f0.offset = 0 ∧ P.cellsOf f0.type = 1 ∧ P.underlying f0.type = some (.int .i64)) (h1 : f1.offset = 1 ∧ P.cellsOf f1.type = 1 ∧ P.underlying f1.type = some .string)
    (h2 : f2.offset = 2 ∧ P.cellsOf f2.type = 1 ∧ P.underlying f2.type = some (.int .i64)) (h3 : f3.offset = 3 ∧ P.cellsOf f3.type = 1 ∧ P.underlying f3.type = some (.int .i64))
    (h : DataW.trod enc P w base spare held fuel t (Value.slice A n c).cells.toList = some x) :
    ∃ rs : List Rn, n = rs.length ∧ Row w w.heap.size A (rCells rs) ∧ (∀ (k : Nat) (h : k < rs.length), rs[k].text.size ≤ maxLen) ∧ n ≤ c ∧ c ≤ maxLen ∧ (A = none → c = 0) := by
  rcases open_slice ht h with ⟨hcs, _⟩ | ⟨a, len, cap, m, nn, D, Pl, hcs, _, hl, hm, hmm, _, hi⟩
  · simp [Value.cells] at hcs
    obtain ⟨rfl, rfl, rfl⟩ := hcs
    exact ⟨[], rfl, Row.nil _ _ _, fun k h => absurd h (by simp), by simp, by simp [maxLen], fun _ => rfl⟩
  · simp [Value.cells] at hcs
    obtain ⟨rfl, rfl, rfl⟩ := hcs
    have hlen : n ≤ m := by rw [hmm]; split <;> omega
    have each : ∀ k, k < n → ∃ r : Rn, (∀ j (hj : j < 4), w.cell? (a.add (k * 4 + j)) = [Value.int .i64 r.node, .string r.text, .int .i64 r.white, .int .i64 r.line][j]?) ∧ r.text.size ≤ maxLen := fun k hk => by
      obtain ⟨cs', hc, htr⟩ := hi k (by omega)
      rw [hC] at hc
      obtain ⟨_, hcl, hat⟩ := World.cells?_some hc
      obtain ⟨r, rfl, hz⟩ := trod_rn hs hC h0 h1 h2 h3 htr
      refine ⟨r, fun j hj => ?_, hz⟩
      have := hat j hj
      rw [add_of_add] at this
      exact this
    let f : Nat → Rn := fun k => if hk : k < n then Classical.choose (each k hk) else ⟨0, ByteArray.empty, 0, 0⟩
    have hf : ∀ k, k < n → (∀ j (hj : j < 4), w.cell? (a.add (k * 4 + j)) = [Value.int .i64 (f k).node, .string (f k).text, .int .i64 (f k).white, .int .i64 (f k).line][j]?) ∧ (f k).text.size ≤ maxLen := fun k hk => by
      have := Classical.choose_spec (each k hk)
      simp only [f, hk, dif_pos]
      exact this
    refine ⟨(List.range n).map f, by simp, row_of_cells fun j hj => ?_, fun k hk => ?_, hl, hm, fun h => by cases h⟩
    · have hj' : j < n * 4 := by simpa [rCells_length] using hj
      have hq : j / 4 < n := by omega
      have hr := Nat.mod_lt j (show 0 < 4 by decide)
      have e1 : j / 4 * 4 + j % 4 = j := Nat.div_add_mod' j 4
      have e2 := (hf (j / 4) hq).1 (j % 4) hr
      rw [e1] at e2
      rw [e2]
      have hk : j / 4 < ((List.range n).map f).length := by simpa using hq
      obtain ⟨g0, g1, g2, g3⟩ := rCells_get ((List.range n).map f) (j / 4) hk
      have e3 : ((List.range n).map f)[j / 4] = f (j / 4) := by simp
      rw [e3] at g0 g1 g2 g3
      have hg : (rCells ((List.range n).map f))[j / 4 * 4 + j % 4]? = [Value.int .i64 (f (j / 4)).node, .string (f (j / 4)).text, .int .i64 (f (j / 4)).white, .int .i64 (f (j / 4)).line][j % 4]? := by
        generalize j % 4 = q at *
        match q, hr with
        | 0, _ => exact g0
        | 1, _ => exact g1
        | 2, _ => exact g2
        | 3, _ => exact g3
      rw [e1] at hg
      rw [← hg]
      exact List.getElem?_eq_getElem hj
    · have := (hf k (by simpa using hk)).2
      simpa using this
end
end Go.Proofs.Ytncaichachipkaa
/- Go's quotient and the floor. No program is named here. -/
namespace Go.Proofs.Ytncaichachipkaa
open Go Go.RowKit
set_option linter.unusedVariables false
set_option linter.unusedSimpArgs false
set_option maxRecDepth 20000
set_option maxHeartbeats 4000000

theorem tdiv_floor (a m : Int) (hm : 0 < m) : (a.tmod m < 0 → a.tdiv m - 1 = a / m) ∧ (0 ≤ a.tmod m → a.tdiv m = a / m) := by
  have h1 := @Int.tdiv_eq_ediv a m
  have h2 := @Int.tmod_eq_emod a m
  have h3 := Int.emod_nonneg a (Int.ne_of_gt hm)
  have h4 := Int.emod_lt_of_pos a hm
  have h5 : m.sign = 1 := Int.sign_eq_one_of_pos hm
  have h6 : (m.natAbs : Int) = m := by omega
  by_cases h : 0 ≤ a ∨ m ∣ a
  · rw [if_pos h] at h1 h2
    constructor <;> intro h' <;> omega
  · rw [if_neg h, h5] at h1
    rw [if_neg h] at h2
    constructor <;> intro h' <;> omega
theorem tdiv_bd (a m : Int) (hm : 0 < m) (h0 : -6917529027641081856 ≤ a) (h1 : a ≤ 6917529027641081856) : -6917529027641081856 ≤ a / m ∧ a / m ≤ 6917529027641081856 := by
  have h := Int.mul_ediv_add_emod a m
  have h3 := Int.emod_nonneg a (Int.ne_of_gt hm)
  have h4 := Int.emod_lt_of_pos a hm
  constructor
  · by_cases ha : 0 ≤ a
    · have := Int.ediv_nonneg ha (Int.le_of_lt hm); omega
    · have : a ≤ a / m := by
        rw [Int.le_ediv_iff_mul_le hm]
        have : a * m ≤ a * 1 := Int.mul_le_mul_of_nonpos_left (by omega) (by omega)
        omega
      omega
  · by_cases ha : 0 ≤ a
    · have := Int.ediv_le_self m ha; omega
    · have : a / m < 0 := Int.ediv_neg_of_neg_of_pos (by omega) hm
      omega
end Go.Proofs.Ytncaichachipkaa
/- unit.Hold. -/
namespace Go.Proofs.Ytncaichachipkaa
open Go.RowKit

def holdZ (n : Int) : Int := max (-1073741824) (min n 1073741824)
theorem hold_bd (n : Int) : -1073741824 ≤ holdZ n ∧ holdZ n ≤ 1073741824 := by unfold holdZ; omega
theorem within_any (n m : Int) (w : World) (h0 : 0 ≤ m) (h1 : m ≤ 4611686018427387904) (hn : -9223372036854775808 ≤ n) (hn' : n ≤ 9223372036854775807) :
    Calls Try.prog 37 #[.int .i64 n, .int .i64 m] w fun e w' => e = .returned (.int .i64 (max (-m) (min n m))) ∧ w = w' := by
  rcases (show n < -m ∨ (-m ≤ n ∧ n ≤ m) ∨ m < n by omega) with h | ⟨h, h'⟩ | h
  all_goals
    go_enter Try.func37, Try.ntmps37
    go_wp2
    all_goals (go_ret; exact ⟨ret_int (by omega), rfl⟩)
theorem hold_any (n : Int) (w : World) (hn : -9223372036854775808 ≤ n) (hn' : n ≤ 9223372036854775807) :
    Calls Try.prog 35 #[.int .i64 n] w fun e w' => e = .returned (.int .i64 (holdZ n)) ∧ w = w' := by
  go_enter Try.func35, Try.ntmps35
  go_wp2_with (go_at_call 37; refine (within_any _ _ _ (by omega) (by omega) (by omega) (by omega)).mono ?_; rintro e w' ⟨rfl, rfl⟩)
  go_ret
  exact ⟨rfl, rfl⟩
end Go.Proofs.Ytncaichachipkaa
/- unit: lengths in pixels. -/
namespace Go.Proofs.Ytncaichachipkaa
open Go.RowKit


def nearZ (n m : Int) : Int := (n + m / 2) / m
def pxZ (t : Int) : Int := holdZ (nearZ (64 * max (-1000000000000) (min t 1000000000000)) 1000)
def pctZ (b h : Int) : Int := holdZ (nearZ (holdZ b * max (-1000000000) (min h 1000000000)) 10000)
def In64 (n : Int) : Prop := -9223372036854775808 ≤ n ∧ n ≤ 9223372036854775807

theorem nearest_any (n m : Int) (w : World) (h0 : 1 ≤ m) (h1 : m ≤ 4611686018427387904) (hn : -4611686018427387904 ≤ n) (hn' : n ≤ 4611686018427387904) :
    Calls Try.prog 36 #[.int .i64 n, .int .i64 m] w fun e w' => e = .returned (.int .i64 (nearZ n m)) ∧ w = w' := by
  have hd := tdiv_floor (n + m / 2) m (by omega)
  have hb := tdiv_bd (n + m / 2) m (by omega) (by omega) (by omega)
  have hq : -9223372036854775807 ≤ (n + m / 2).tdiv m ∧ (n + m / 2).tdiv m ≤ 9223372036854775807 := by
    by_cases hs : (n + m / 2).tmod m < 0
    · have := hd.1 hs; omega
    · have := hd.2 (by omega); omega
  obtain ⟨hq1, hq2⟩ := hq
  by_cases hs : (n + m / 2).tmod m < 0
  · have h := Lib.hid (hd.1 hs)
    clear hd hb
    go_enter Try.func36, Try.ntmps36
    go_wp2
    go_ret
    exact ⟨ret_int h.out, rfl⟩
  · have h := Lib.hid (hd.2 (by omega))
    clear hd hb
    go_enter Try.func36, Try.ntmps36
    go_wp2
    go_ret
    exact ⟨ret_int h.out, rfl⟩
theorem near_bd (n m : Int) (h0 : 1 ≤ m) (hn : -4611686018427387904 ≤ n) (hn' : n ≤ 4611686018427387904) (hm : m ≤ 4611686018427387904) : -9223372036854775808 ≤ nearZ n m ∧ nearZ n m ≤ 9223372036854775807 := by
  have hd := tdiv_floor (n + m / 2) m (by omega)
  have hb := tdiv_bd (n + m / 2) m (by omega) (by omega) (by omega)
  unfold nearZ
  by_cases hs : (n + m / 2).tmod m < 0
  · have := hd.1 hs; omega
  · have := hd.2 (by omega); omega
end Go.Proofs.Ytncaichachipkaa
/- unit.Pct. -/
namespace Go.Proofs.Ytncaichachipkaa
open Go.RowKit

theorem mul_bd (a b : Int) (A B : Int) (h1 : -A ≤ a) (h2 : a ≤ A) (h3 : -B ≤ b) (h4 : b ≤ B) : -(A * B) ≤ a * b ∧ a * b ≤ A * B := by
  have h : (a * b).natAbs ≤ A.natAbs * B.natAbs := by rw [Int.natAbs_mul]; exact Nat.mul_le_mul (by omega) (by omega)
  have e : ((A.natAbs * B.natAbs : Nat) : Int) = A * B := by rw [Int.natCast_mul]; congr 1 <;> omega
  omega
theorem pct_any (b h : Int) (w : World) (hb : -9223372036854775808 ≤ b) (hb' : b ≤ 9223372036854775807) (hn : -9223372036854775808 ≤ h) (hn' : h ≤ 9223372036854775807) :
    Calls Try.prog 30 #[.int .i64 b, .int .i64 h] w fun e w' => e = .returned (.int .i64 (pctZ b h)) ∧ w = w' := by
  have hd := hold_bd b
  obtain ⟨hm1, hm2⟩ := mul_bd (holdZ b) (max (-1000000000) (min h 1000000000)) 1073741824 1000000000 (by omega) (by omega) (by omega) (by omega)
  have hb := near_bd (holdZ b * max (-1000000000) (min h 1000000000)) 10000 (by omega) (by omega) (by omega) (by omega)
  go_enter Try.func30, Try.ntmps30
  go_wp2_with (first
    | (go_at_call 37; refine (within_any _ _ _ (by omega) (by omega) (by omega) (by omega)).mono ?_; rintro e w' ⟨rfl, rfl⟩)
    | (go_at_call 36; refine (nearest_any _ _ _ (by omega) (by omega) (by omega) (by omega)).mono ?_; rintro e w' ⟨rfl, rfl⟩)
    | (go_at_call 35; refine (hold_any _ _ (by omega) (by omega)).mono ?_; rintro e w' ⟨rfl, rfl⟩))
  go_ret
  exact ⟨rfl, rfl⟩
end Go.Proofs.Ytncaichachipkaa
/- api.Metrics as a type. -/
namespace Go.Proofs.Ytncaichachipkaa
open Go Go.RowKit
set_option linter.unusedVariables false
set_option linter.unusedSimpArgs false
set_option maxRecDepth 20000
set_option maxHeartbeats 4000000

theorem met_flat : FlatT Try.prog 25 256 := ⟨⟨_, Try.underlying25, rfl⟩, by kernel_rfl⟩
theorem adv_flat : FlatT Try.prog 23 256 := ⟨⟨_, Try.underlying23, rfl⟩, by kernel_rfl⟩
def noMet : List Int := List.replicate 256 0
theorem noMet_length : noMet.length = 256 := by unfold noMet; simp
theorem noMet_zero (w : World) : (zeroValue 25).run Try.prog w = .ok (.agg (i64s noMet).toArray) w := by kernel_rfl
end Go.Proofs.Ytncaichachipkaa
/- A row of glyphs in the making, metrics, and a glyph in a block of its own: what is kept from step to step. -/
namespace Go.Proofs.Ytncaichachipkaa
open Go Go.RowKit
set_option linter.unusedVariables false
set_option linter.unusedSimpArgs false

theorem own_base {w : World} {b b' e size : Nat} {v : Value} {n : Nat} {xs : List Value} (h : w.ownsRow b e size v n xs) (hb : b' ≤ b) : w.ownsRow b' e size v n xs := by
  refine ⟨h.1, ?_⟩
  rcases h.2 with h0 | ⟨g, cap, cur, hv, hg, rest⟩
  · exact .inl h0
  · exact .inr ⟨g, cap, cur, hv, Nat.le_trans hb hg, rest⟩
theorem own_addr {w : World} {b e size : Nat} {ad : Addr} {n c : Nat} {xs : List Value} (h : w.ownsRow b e size (.slice (some ad) n c) n xs) : ∃ g, ad = ⟨g, 0, none⟩ := by
  rcases h.2 with ⟨h0, _⟩ | ⟨g, cap, cur, hv, _⟩
  · cases h0
  · injection hv with h1 _ _
    injection h1 with h1
    exact ⟨g, h1⟩
/-- The row, and the metrics that lie at lo (all else of the call's own lies behind lo). -/
structure GRow (W w : World) (lo : Nat) (zs : List Int) (A : Option Addr) (n c : Nat) (cur : List Gl) : Prop where
  own : w.ownsRow (lo + 1) 81 4 (.slice A n c) n (i64s (gCells cur))
  met : Whole w lo 25 (i64s zs)
  low : Below lo W w
section
variable {W w w' : World} {lo : Nat} {zs : List Int} {A : Option Addr} {n c : Nat} {cur : List Gl}
theorem GRow.size (h : GRow W w lo zs A n c cur) : lo < w.heap.size := h.met.size
theorem GRow.behind (h : GRow W w lo zs A n c cur) (hb : Below w.heap.size w w') : GRow W w' lo zs A n c cur :=
  ⟨own_below h.own hb (Nat.le_refl _), h.met.under hb h.met.size, h.low.trans (hb.mono (by have := h.size; omega))⟩
theorem GRow.only {g : Nat} (h : GRow W w lo zs A n c cur) (ho : Only [g] w w') (hg : lo < g) (hn : ∀ b, (Value.slice A n c).ownBlock = some b → b ≠ g) : GRow W w' lo zs A n c cur :=
  ⟨ho.owns h.own fun b hb => by simpa using hn b hb, ho.whole h.met (by simp; omega), h.low.trans (ho.below (by simp; omega) (by have := h.size; omega))⟩
theorem GRow.off (h : GRow W w lo zs A n c cur) {g : Nat} (hg : w.heap.size ≤ g) : ∀ b, (Value.slice A n c).ownBlock = some b → b ≠ g := fun b hb => by
  have := (h.own.lt b hb).2; omega
theorem GRow.row (h : GRow W w lo zs A n c cur) : Row w w.heap.size A (i64s (gCells cur)) := row_of_own h.own
end
theorem GRow.pushed {W w w' : World} {lo : Nat} {zs : List Int} {A A' : Option Addr} {n c c' : Nat} {cur : List Gl} (h : GRow W w lo zs A n c cur) (x : Gl) (hb : Below (lo + 1) w w')
    (ho : w'.ownsRow (lo + 1) 81 4 (.slice A' (n + 1) c') (n + 1) (i64s (gCells cur) ++ [.int .i64 x.kind, .int .i64 x.run, .int .i64 x.at_, .int .i64 x.adv])) : GRow W w' lo zs A' (n + 1) c' (cur ++ [x]) :=
  ⟨by rw [gCells_append, i64s_append]; exact ho, h.met.under hb (by omega), h.low.trans (hb.mono (by omega))⟩
/-- .. with a glyph of its own in block g. -/
structure GSt (W w : World) (lo : Nat) (zs : List Int) (A : Option Addr) (n c : Nat) (cur : List Gl) (g : Nat) (x : Gl) : Prop where
  row : GRow W w lo zs A n c cur
  gl : Whole w g 81 (i64s [x.kind, x.run, x.at_, x.adv])
  off : ∀ b, (Value.slice A n c).ownBlock = some b → b ≠ g
  far : lo < g
section
variable {W w w' : World} {lo : Nat} {zs : List Int} {A : Option Addr} {n c g : Nat} {cur : List Gl} {x : Gl}
theorem GSt.behind (h : GSt W w lo zs A n c cur g x) (hb : Below w.heap.size w w') : GSt W w' lo zs A n c cur g x :=
  ⟨h.row.behind hb, h.gl.under hb h.gl.size, h.off, h.far⟩
theorem GSt.cells (h : GSt W w lo zs A n c cur g x) : w.cell? ⟨g, 0, none⟩ = some (.int .i64 x.kind) ∧ w.cell? ⟨g, 1, none⟩ = some (.int .i64 x.run) ∧ w.cell? ⟨g, 2, none⟩ = some (.int .i64 x.at_) ∧ w.cell? ⟨g, 3, none⟩ = some (.int .i64 x.adv) ∧
    w.frozen? ⟨g, 0, none⟩ = false ∧ w.frozen? ⟨g, 3, none⟩ = false :=
  ⟨h.gl.cell 0, h.gl.cell 1, h.gl.cell 2, h.gl.cell 3, h.gl.free 0, h.gl.free 3⟩
theorem GSt.kind (h : GSt W w lo zs A n c cur g x) (v : Int) : GSt W (w.setCell ⟨g, 0, none⟩ (.int .i64 v)) lo zs A n c cur g { x with kind := v } :=
  ⟨h.row.only ((Only.refl [g] w).setCell _ (.inl (by simp)) _) h.far h.off, h.gl.put 0 (.int .i64 v), h.off, h.far⟩
theorem GSt.adv (h : GSt W w lo zs A n c cur g x) (v : Int) : GSt W (w.setCell ⟨g, 3, none⟩ (.int .i64 v)) lo zs A n c cur g { x with adv := v } :=
  ⟨h.row.only ((Only.refl [g] w).setCell _ (.inl (by simp)) _) h.far h.off, h.gl.put 3 (.int .i64 v), h.off, h.far⟩
end
theorem gl_flat : FlatT Try.prog 81 4 := ⟨⟨_, Try.underlying81, rfl⟩, by kernel_rfl⟩
/-- What Glyphs answers: the row of glyphsL, in a block of its own. -/
def GlyphPost (zs : List Int) (rs : List Rn) (W : World) (e : Ending) (w' : World) : Prop := ∃ (A : Option Addr) (c : Nat), e = .returned (.slice A (glyphsL zs rs).length c) ∧ w'.ownsRow W.heap.size 81 4 (.slice A (glyphsL zs rs).length c) (glyphsL zs rs).length (i64s (gCells (glyphsL zs rs))) ∧ Below W.heap.size W w'
end Go.Proofs.Ytncaichachipkaa
/- Where lines end, by numbers. No program is named here. -/
namespace Go.Proofs.Ytncaichachipkaa
open Go Go.RowKit
set_option linter.unusedVariables false
set_option linter.unusedSimpArgs false

structure Sp where
  sf : Int
  st : Int
  sw : Int
  deriving DecidableEq
def sumA (l : List Gl) : Int := (l.map (·.adv)).sum
theorem sumA_nil : sumA [] = 0 := rfl
theorem sumA_cons (x : Gl) (l : List Gl) : sumA (x :: l) = x.adv + sumA l := by simp [sumA]
theorem sumA_append (a b : List Gl) : sumA (a ++ b) = sumA a + sumA b := by simp [sumA, List.sum_append]
def pickE (a : Int) (b : Option (Nat × Int)) (k : Nat) (w : Int) : Nat × Int := match b with | none => (k, w) | some p => if w ≤ a then (k, w) else p
/-- Where a line ends, and how wide it is: the last place with which it is not too wide, else the first. -/
def endL (a : Int) : List Gl → Nat → Int → Option (Nat × Int) → Nat × Int
  | [], k, w, b => pickE a b k w
  | x :: l, k, w, b => if x.kind = 4 then pickE a b k w else endL a l (k + 1) (w + x.adv) (if x.kind = 2 then some (pickE a b k w) else b)
def linesF (a : Int) (g : List Gl) : Nat → Nat → List Sp
  | 0, _ => []
  | f + 1, i => if i < g.length then ⟨i, (endL a (g.drop i) i 0 none).1, (endL a (g.drop i) i 0 none).2⟩ :: linesF a g f ((endL a (g.drop i) i 0 none).1 + 1) else []
def linesL (a : Int) (g : List Gl) : List Sp := linesF a g g.length 0
/-- Kinds; behind the end there is a break. -/
def kd (l : List Gl) (j : Nat) : Int := (l[j]?.map (·.kind)).getD 4
theorem kd_zero (x : Gl) (l : List Gl) : kd (x :: l) 0 = x.kind := rfl
theorem kd_succ (x : Gl) (l : List Gl) (j : Nat) : kd (x :: l) (j + 1) = kd l j := by simp [kd]
theorem kd_nil (j : Nat) : kd [] j = 4 := by simp [kd]
theorem kd_at (l : List Gl) (j : Nat) (h : j < l.length) : kd l j = l[j].kind := by simp [kd, h]
theorem kd_out (l : List Gl) (j : Nat) (h : l.length ≤ j) : kd l j = 4 := by simp [kd, List.getElem?_eq_none h]
theorem kd_drop (l : List Gl) (i j : Nat) : kd (l.drop i) j = kd l (i + j) := by simp [kd]
/-- A line may end at place j. -/
def Cand (l : List Gl) (j : Nat) : Prop := (∀ i, i < j → kd l i ≠ 4) ∧ (kd l j = 2 ∨ kd l j = 4)
theorem Cand.le {l : List Gl} {j : Nat} (h : Cand l j) : j ≤ l.length := by
  rcases Nat.lt_or_ge l.length j with hj | hj
  · exact absurd (kd_out l l.length (Nat.le_refl _)) (h.1 _ hj)
  · exact hj
theorem cand_nil {j : Nat} (h : Cand [] j) : j = 0 := by have := h.le; simpa using this
theorem cand_break {x : Gl} {l : List Gl} {j : Nat} (hx : x.kind = 4) (h : Cand (x :: l) j) : j = 0 := by
  rcases Nat.eq_zero_or_pos j with h0 | h0
  · exact h0
  · exact absurd hx (h.1 0 h0)
theorem cand_succ {x : Gl} {l : List Gl} {j : Nat} (hx : x.kind ≠ 4) : Cand (x :: l) (j + 1) ↔ Cand l j := by
  constructor
  · rintro ⟨h1, h2⟩
    exact ⟨fun i hi => by have := h1 (i + 1) (by omega); rwa [kd_succ] at this, by rwa [kd_succ] at h2⟩
  · rintro ⟨h1, h2⟩
    refine ⟨fun i hi => ?_, by rwa [kd_succ]⟩
    cases i with
    | zero => exact hx
    | succ i => rw [kd_succ]; exact h1 i (by omega)
theorem cand_zero {x : Gl} {l : List Gl} (h : Cand (x :: l) 0) : x.kind = 2 ∨ x.kind = 4 := h.2
/-- What is picked. -/
theorem endL_spec (a : Int) : ∀ (l : List Gl) (k : Nat) (w : Int) (b : Option (Nat × Int)) (t : Nat) (v : Int), endL a l k w b = (t, v) →
    (∃ j, Cand l j ∧ t = k + j ∧ v = w + sumA (l.take j) ∧ (v ≤ a ∨ (b = none ∧ ∀ i, i < j → kd l i ≠ 2)) ∧ ∀ j', Cand l j' → j < j' → a < w + sumA (l.take j')) ∨
    (b = some (t, v) ∧ ∀ j', Cand l j' → a < w + sumA (l.take j'))
  | [], k, w, b, t, v, h => by
    cases b with
    | none =>
      simp only [endL, pickE, Prod.mk.injEq] at h
      exact .inl ⟨0, ⟨fun i hi => by omega, .inr (kd_nil 0)⟩, by omega, by simp [sumA]; omega, .inr ⟨rfl, fun i hi => by omega⟩, fun j' hc hj => by have := cand_nil hc; omega⟩
    | some p =>
      simp only [endL, pickE] at h
      split at h
      · rename_i hle
        simp only [Prod.mk.injEq] at h
        exact .inl ⟨0, ⟨fun i hi => by omega, .inr (kd_nil 0)⟩, by omega, by simp [sumA]; omega, .inl (by omega), fun j' hc hj => by have := cand_nil hc; omega⟩
      · exact .inr ⟨by rw [h], fun j' hc => by rw [cand_nil hc]; simp [sumA]; omega⟩
  | x :: l, k, w, b, t, v, h => by
    have first : ∀ (hx : x.kind = 2 ∨ x.kind = 4), Cand (x :: l) 0 := fun hx => ⟨fun i hi => by omega, hx⟩
    by_cases h4 : x.kind = 4
    · simp only [endL, if_pos h4] at h
      cases b with
      | none =>
        simp only [pickE, Prod.mk.injEq] at h
        exact .inl ⟨0, first (.inr h4), by omega, by simp [sumA]; omega, .inr ⟨rfl, fun i hi => by omega⟩, fun j' hc hj => by have := cand_break h4 hc; omega⟩
      | some p =>
        simp only [pickE] at h
        split at h
        · rename_i hle
          simp only [Prod.mk.injEq] at h
          exact .inl ⟨0, first (.inr h4), by omega, by simp [sumA]; omega, .inl (by omega), fun j' hc hj => by have := cand_break h4 hc; omega⟩
        · exact .inr ⟨by rw [h], fun j' hc => by rw [cand_break h4 hc]; simp [sumA]; omega⟩
    · simp only [endL, if_neg h4] at h
      have all : ∀ (R : Nat → Prop), (∀ j', Cand l j' → R (j' + 1)) → (Cand (x :: l) 0 → R 0) → ∀ j', Cand (x :: l) j' → R j' := fun R h1 h0 j' hc => by
        cases j' with
        | zero => exact h0 hc
        | succ j' => exact h1 j' ((cand_succ h4).1 hc)
      rcases endL_spec a l (k + 1) (w + x.adv) _ t v h with ⟨j, hc, ht, hv, hp, hl⟩ | ⟨hb, hl⟩
      · refine .inl ⟨j + 1, (cand_succ h4).2 hc, by omega, by rw [List.take_succ_cons, sumA_cons]; omega, ?_, fun j' hc' hj' => ?_⟩
        · rcases hp with hp | ⟨hp, hs⟩
          · exact .inl hp
          · by_cases h2 : x.kind = 2
            · rw [if_pos h2] at hp; cases hp
            · rw [if_neg h2] at hp
              refine .inr ⟨hp, fun i hi => ?_⟩
              cases i with
              | zero => exact h2
              | succ i => rw [kd_succ]; exact hs i (by omega)
        · obtain ⟨q, rfl⟩ : ∃ q, j' = q + 1 := ⟨j' - 1, by omega⟩
          have := hl q ((cand_succ h4).1 hc') (by omega)
          rw [List.take_succ_cons, sumA_cons]; omega
      · by_cases h2 : x.kind = 2
        · rw [if_pos h2] at hb
          injection hb with hb
          cases b with
          | none =>
            simp only [pickE, Prod.mk.injEq] at hb
            refine .inl ⟨0, first (.inl h2), by omega, by simp [sumA]; omega, .inr ⟨rfl, fun i hi => by omega⟩, fun j' hc' hj' => ?_⟩
            obtain ⟨q, rfl⟩ : ∃ q, j' = q + 1 := ⟨j' - 1, by omega⟩
            have := hl q ((cand_succ h4).1 hc')
            rw [List.take_succ_cons, sumA_cons]; omega
          | some p =>
            simp only [pickE] at hb
            split at hb
            · rename_i hle
              simp only [Prod.mk.injEq] at hb
              refine .inl ⟨0, first (.inl h2), by omega, by simp [sumA]; omega, .inl (by omega), fun j' hc' hj' => ?_⟩
              obtain ⟨q, rfl⟩ : ∃ q, j' = q + 1 := ⟨j' - 1, by omega⟩
              have := hl q ((cand_succ h4).1 hc')
              rw [List.take_succ_cons, sumA_cons]; omega
            · refine .inr ⟨by rw [hb], all _ (fun q hq => ?_) (fun _ => by simp [sumA]; omega)⟩
              have := hl q hq
              rw [List.take_succ_cons, sumA_cons]; omega
        · rw [if_neg h2] at hb
          refine .inr ⟨hb, all _ (fun q hq => ?_) (fun h0 => ?_)⟩
          · have := hl q hq
            rw [List.take_succ_cons, sumA_cons]; omega
          · rcases cand_zero h0 with h0 | h0
            · exact absurd h0 h2
            · exact absurd h0 h4
/-- A line that begins at i: it ends at t, is v wide. -/
structure LineAt (a : Int) (g : List Gl) (i t : Nat) (v : Int) : Prop where
  le : i ≤ t
  cand : Cand (g.drop i) (t - i)
  wide : v = sumA ((g.drop i).take (t - i))
  fits : v ≤ a ∨ ∀ j, i ≤ j → j < t → kd g j ≠ 2
  full : ∀ t', t < t' → Cand (g.drop i) (t' - i) → a < sumA ((g.drop i).take (t' - i))
theorem lineAt (a : Int) (g : List Gl) (i : Nat) : LineAt a g i (endL a (g.drop i) i 0 none).1 (endL a (g.drop i) i 0 none).2 := by
  rcases endL_spec a (g.drop i) i 0 none _ _ rfl with ⟨j, hc, ht, hv, hp, hl⟩ | ⟨h, _⟩
  · generalize (endL a (g.drop i) i 0 none).1 = t at *
    generalize (endL a (g.drop i) i 0 none).2 = v at *
    subst ht
    rw [Int.zero_add] at hv
    refine ⟨by omega, by rwa [Nat.add_sub_cancel_left], by rwa [Nat.add_sub_cancel_left], ?_, fun t' ht' hc' => ?_⟩
    · rcases hp with hp | ⟨_, hs⟩
      · exact .inl hp
      · refine .inr fun q h1 h2 => ?_
        have := hs (q - i) (by omega)
        rwa [kd_drop, show i + (q - i) = q by omega] at this
    · have := hl (t' - i) hc' (by omega)
      omega
  · cases h
section
variable {a : Int} {g : List Gl} {i t : Nat} {v : Int}
theorem LineAt.noBreak (h : LineAt a g i t v) : ∀ j, i ≤ j → j < t → kd g j ≠ 4 := fun j h1 h2 => by
  have := h.cand.1 (j - i) (by omega)
  rwa [kd_drop, show i + (j - i) = j by omega] at this
theorem LineAt.ends (h : LineAt a g i t v) : kd g t = 2 ∨ kd g t = 4 := by
  have h1 := h.cand.2
  have h2 := h.le
  rwa [kd_drop, show i + (t - i) = t by omega] at h1
theorem LineAt.len (h : LineAt a g i t v) (hi : i < g.length) : t ≤ g.length := by
  have h1 := h.cand.le
  have h2 := h.le
  rw [List.length_drop] at h1
  omega
end
theorem cand_of {g : List Gl} {i t : Nat} (hit : i ≤ t) (h1 : ∀ j, i ≤ j → j < t → kd g j ≠ 4) (h2 : kd g t = 2 ∨ kd g t = 4) : Cand (g.drop i) (t - i) :=
  ⟨fun q hq => by rw [kd_drop]; exact h1 _ (by omega) (by omega), by rwa [kd_drop, show i + (t - i) = t by omega]⟩
theorem linesF_fuel (a : Int) (g : List Gl) : ∀ (f f' i : Nat), g.length - i ≤ f → g.length - i ≤ f' → linesF a g f i = linesF a g f' i
  | 0, 0, i, _, _ => rfl
  | 0, f' + 1, i, h, _ => by rw [linesF, linesF, if_neg (by omega)]
  | f + 1, 0, i, _, h => by rw [linesF, linesF, if_neg (by omega)]
  | f + 1, f' + 1, i, h, h' => by
    have hl := lineAt a g i
    rw [linesF, linesF]
    split
    · rw [linesF_fuel a g f f' _ (by have := hl.le; omega) (by have := hl.le; omega)]
    · rfl
/-- All lines from glyph i on. -/
def linesI (a : Int) (g : List Gl) (i : Nat) : List Sp := linesF a g (g.length - i) i
theorem linesI_zero (a : Int) (g : List Gl) : linesI a g 0 = linesL a g := rfl
theorem linesI_end (a : Int) (g : List Gl) (i : Nat) (h : g.length ≤ i) : linesI a g i = [] := by
  unfold linesI; rw [show g.length - i = 0 by omega]; rfl
theorem linesI_step (a : Int) (g : List Gl) (i : Nat) (h : i < g.length) : linesI a g i = ⟨i, (endL a (g.drop i) i 0 none).1, (endL a (g.drop i) i 0 none).2⟩ :: linesI a g ((endL a (g.drop i) i 0 none).1 + 1) := by
  have hl := lineAt a g i
  unfold linesI
  obtain ⟨f, hf⟩ : ∃ f, g.length - i = f + 1 := ⟨g.length - i - 1, by omega⟩
  rw [hf, linesF, if_pos h, linesF_fuel a g f (g.length - ((endL a (g.drop i) i 0 none).1 + 1)) _ (by have := hl.le; omega) (Nat.le_refl _)]
theorem linesI_length (a : Int) (g : List Gl) : ∀ (n i : Nat), g.length - i ≤ n → (linesI a g i).length ≤ g.length - i
  | 0, i, h => by rw [linesI_end a g i (by omega)]; simp
  | n + 1, i, h => by
    rcases Nat.lt_or_ge i g.length with hi | hi
    · have hl := (lineAt a g i).le
      rw [linesI_step a g i hi, List.length_cons]
      have := linesI_length a g n ((endL a (g.drop i) i 0 none).1 + 1) (by omega)
      omega
    · rw [linesI_end a g i hi]; simp
/- Least and Most: running sums. -/
def longL (sp : Bool) : List Gl → Int → Int → Int
  | [], most, _ => most
  | x :: l, most, now => if x.kind = 4 ∨ (sp = true ∧ x.kind = 2) then longL sp l (max most 0) 0 else longL sp l (max most (now + x.adv)) (now + x.adv)
def leastL (g : List Gl) : Int := longL true g 0 0
def mostL (g : List Gl) : Int := longL false g 0 0
end Go.Proofs.Ytncaichachipkaa
/- Where lines may end, with how far the glyphs lead there; the least of these from each on; which is the last that fits. No program is named here. -/
namespace Go.Proofs.Ytncaichachipkaa
open Go Go.RowKit
set_option linter.unusedVariables false
set_option linter.unusedSimpArgs false

structure En where
  at_ : Nat
  sum : Int
  least : Int
def endsS : List Gl → Nat → Int → List (Nat × Int)
  | [], k, s => [(k, s)]
  | x :: l, k, s => if x.kind = 4 then [(k, s)] else if x.kind = 2 then (k, s) :: endsS l (k + 1) (s + x.adv) else endsS l (k + 1) (s + x.adv)
def lowS : Nat × Int → List (Nat × Int) → Int
  | e, [] => e.2
  | e, f :: fs => min e.2 (lowS f fs)
def leasts : List (Nat × Int) → List En
  | [] => []
  | e :: es => ⟨e.1, e.2, lowS e es⟩ :: leasts es
theorem leasts_length : ∀ (es : List (Nat × Int)), (leasts es).length = es.length
  | [] => rfl
  | e :: es => by simp [leasts, leasts_length es]
theorem leasts_get : ∀ (es : List (Nat × Int)) (i : Nat) (h : i < es.length), ((leasts es)[i]'(by rw [leasts_length]; exact h)).at_ = es[i].1 ∧ ((leasts es)[i]'(by rw [leasts_length]; exact h)).sum = es[i].2
  | e :: es, 0, h => ⟨rfl, rfl⟩
  | e :: es, i + 1, h => leasts_get es i (by simpa using h)
theorem leasts_drop : ∀ (es : List (Nat × Int)) (j : Nat), (leasts es).drop j = leasts (es.drop j)
  | [], j => by simp [leasts]
  | e :: es, 0 => rfl
  | e :: es, j + 1 => by simp only [leasts, List.drop_succ_cons]; exact leasts_drop es j
theorem lowS_le : ∀ (e : Nat × Int) (es : List (Nat × Int)), ∀ x ∈ leasts (e :: es), lowS e es ≤ x.least
  | e, [], x, hx => by simp [leasts] at hx; rw [hx]; exact Int.le_refl _
  | e, f :: fs, x, hx => by
    rw [leasts, List.mem_cons] at hx
    rcases hx with rfl | hx
    · exact Int.le_refl _
    · have := lowS_le f fs x hx
      simp only [lowS]
      omega
theorem leasts_sorted : ∀ (es : List (Nat × Int)), (leasts es).Pairwise (fun x y => x.least ≤ y.least)
  | [] => List.Pairwise.nil
  | e :: es => by
    rw [leasts, List.pairwise_cons]
    refine ⟨fun x hx => ?_, leasts_sorted es⟩
    exact lowS_le e es x (by rw [leasts]; exact List.mem_cons_of_mem _ hx)
theorem leasts_mono (es : List (Nat × Int)) (i j : Nat) (hij : i ≤ j) (hj : j < (leasts es).length) : ((leasts es)[i]).least ≤ ((leasts es)[j]).least := by
  rcases Nat.eq_or_lt_of_le hij with rfl | h
  · exact Int.le_refl _
  · exact List.pairwise_iff_getElem.1 (leasts_sorted es) i j (by omega) hj h
/-- How many are not above a. -/
def fitN (a : Int) : List (Nat × Int) → Nat
  | [] => 0
  | e :: es => if lowS e es ≤ a then fitN a es + 1 else 0
theorem fitN_le (a : Int) : ∀ (es : List (Nat × Int)), fitN a es ≤ es.length
  | [] => Nat.le_refl _
  | e :: es => by have := fitN_le a es; simp only [fitN, List.length_cons]; split <;> omega
theorem fitN_in (a : Int) : ∀ (es : List (Nat × Int)) (i : Nat) (h : i < (leasts es).length), i < fitN a es → ((leasts es)[i]).least ≤ a
  | e :: es, 0, h, hi => by
    simp only [fitN] at hi
    split at hi
    · assumption
    · omega
  | e :: es, i + 1, h, hi => by
    simp only [fitN] at hi
    split at hi
    · exact fitN_in a es i (by simpa [leasts] using h) (by omega)
    · omega
theorem fitN_out (a : Int) : ∀ (es : List (Nat × Int)) (i : Nat) (h : i < (leasts es).length), fitN a es ≤ i → a < ((leasts es)[i]).least
  | e :: es, i, h, hi => by
    simp only [fitN] at hi
    split at hi
    · cases i with
      | zero => omega
      | succ i => exact fitN_out a es i (by simpa [leasts] using h) (by omega)
    · have := lowS_le e es _ (List.getElem_mem h)
      omega
theorem fitN_is (a : Int) (es : List (Nat × Int)) (r : Nat) (hr : r ≤ es.length) (h1 : ∀ t (h : t < (leasts es).length), t < r → ((leasts es)[t]).least ≤ a) (h2 : ∀ t (h : t < (leasts es).length), r ≤ t → a < ((leasts es)[t]).least) : r = fitN a es := by
  have hf := fitN_le a es
  have hl := leasts_length es
  rcases Nat.lt_trichotomy r (fitN a es) with h | h | h
  · have := h2 r (by omega) (Nat.le_refl _)
    have := fitN_in a es r (by omega) h
    omega
  · exact h
  · have := h1 (fitN a es) (by omega) h
    have := fitN_out a es (fitN a es) (by omega) (Nat.le_refl _)
    omega
theorem fitN_zero {a : Int} {e : Nat × Int} {es : List (Nat × Int)} (h : ¬ lowS e es ≤ a) : fitN a es = 0 := by
  cases es with
  | nil => rfl
  | cons f fs =>
    simp only [lowS] at h
    simp only [fitN]
    rw [if_neg (by omega)]
/-- One less than how many fit, not below 0. -/
theorem fitN_pred (a : Int) (e : Nat × Int) (es : List (Nat × Int)) : max ((fitN a (e :: es) : Int) - 1) 0 = fitN a es := by
  simp only [fitN]
  split
  · omega
  · rename_i h; rw [fitN_zero h]; omega
def pickL (a : Int) : List (Nat × Int) → Option (Nat × Int) → Nat × Int
  | [], b => b.getD (0, 0)
  | e :: es, b => pickL a es (some (pickE a b e.1 e.2))
theorem endL_pick (a : Int) : ∀ (l : List Gl) (k : Nat) (w : Int) (b : Option (Nat × Int)), endL a l k w b = pickL a (endsS l k w) b
  | [], k, w, b => rfl
  | x :: l, k, w, b => by
    simp only [endL, endsS]
    split
    · rfl
    · split
      · exact endL_pick a l _ _ _
      · exact endL_pick a l _ _ _
theorem pickL_is (a : Int) : ∀ (es : List (Nat × Int)) (e : Nat × Int), pickL a es (some e) = (e :: es).getD (fitN a es) (0, 0)
  | [], e => rfl
  | f :: fs, e => by
    have ih := pickL_is a fs (if f.2 ≤ a then f else e)
    have e1 : pickL a (f :: fs) (some e) = pickL a fs (some (if f.2 ≤ a then f else e)) := by
      simp only [pickL, pickE]
    rw [e1, ih]
    simp only [fitN]
    rcases Nat.eq_zero_or_pos (fitN a fs) with h0 | h0
    · rw [h0]
      by_cases hf : f.2 ≤ a
      · rw [if_pos hf, if_pos (by cases fs <;> simp only [lowS] <;> omega)]; rfl
      · have : ¬ lowS f fs ≤ a := by
          cases fs with
          | nil => exact hf
          | cons g gs =>
            simp only [fitN] at h0
            split at h0
            · omega
            · simp only [lowS]; omega
        rw [if_neg hf, if_neg this]; rfl
    · have : lowS f fs ≤ a := by
        by_cases h : lowS f fs ≤ a
        · exact h
        · have := fitN_zero h; omega
      rw [if_pos this]
      obtain ⟨m, hm⟩ : ∃ m, fitN a fs = m + 1 := ⟨fitN a fs - 1, by omega⟩
      rw [hm]
      simp only [List.getD_cons_succ]
theorem endsS_ne (l : List Gl) (k : Nat) (s : Int) : ∃ e es, endsS l k s = e :: es := by
  cases h : endsS l k s with
  | cons e es => exact ⟨e, es, rfl⟩
  | nil =>
    exfalso
    induction l generalizing k s with
    | nil => simp [endsS] at h
    | cons x l ih =>
      simp only [endsS] at h
      split at h
      · cases h
      · split at h
        · cases h
        · exact ih _ _ h
theorem endsS_shift (d : Int) : ∀ (l : List Gl) (k : Nat) (s : Int), endsS l k (s + d) = (endsS l k s).map (fun e => (e.1, e.2 + d))
  | [], k, s => rfl
  | x :: l, k, s => by
    have h := endsS_shift d l (k + 1) (s + x.adv)
    rw [show s + x.adv + d = s + d + x.adv by omega] at h
    simp only [endsS]
    split
    · rfl
    · split
      · rw [List.map_cons, h]
      · exact h
theorem lowS_shift (d : Int) : ∀ (e : Nat × Int) (es : List (Nat × Int)), lowS (e.1, e.2 + d) (es.map (fun e => (e.1, e.2 + d))) = lowS e es + d
  | e, [] => rfl
  | e, f :: fs => by
    have := lowS_shift d f fs
    simp only [List.map_cons, lowS, this]
    omega
theorem fitN_shift (a d : Int) : ∀ (es : List (Nat × Int)), fitN (a + d) (es.map (fun e => (e.1, e.2 + d))) = fitN a es
  | [] => rfl
  | e :: es => by
    simp only [List.map_cons, fitN, fitN_shift a d es, lowS_shift]
    by_cases h : lowS e es ≤ a
    · rw [if_pos h, if_pos (by omega)]
    · rw [if_neg h, if_neg (by omega)]
/-- The line that is picked where all sums are s more. -/
theorem line_pick (a s : Int) (l : List Gl) (k : Nat) (e : Nat × Int) (es : List (Nat × Int)) (h : endsS l k s = e :: es) :
    ∃ (hj : fitN (s + a) es < (e :: es).length), endL a l k 0 none = (((e :: es)[fitN (s + a) es]).1, ((e :: es)[fitN (s + a) es]).2 - s) := by
  have hj : fitN (s + a) es < (e :: es).length := by have := fitN_le (s + a) es; simp; omega
  refine ⟨hj, ?_⟩
  have h0 := endsS_shift s l k 0
  rw [Int.zero_add, h] at h0
  obtain ⟨e0, es0, he0⟩ := endsS_ne l k 0
  rw [he0, List.map_cons] at h0
  obtain ⟨h1, h2⟩ := List.cons.inj h0
  rw [endL_pick, he0]
  have e1 : pickL a (e0 :: es0) none = pickL a es0 (some e0) := rfl
  rw [e1, pickL_is]
  have hf : fitN (s + a) es = fitN a es0 := by rw [h2, Int.add_comm]; exact fitN_shift a s es0
  have hlen : es.length = es0.length := by rw [h2]; simp
  have hj0 : fitN a es0 < (e0 :: es0).length := by rw [← hf]; simp only [List.length_cons] at hj ⊢; omega
  have hm : (e :: es)[fitN (s + a) es]? = ((e0 :: es0)[fitN a es0]?).map (fun e => (e.1, e.2 + s)) := by
    rw [hf, h0, ← List.map_cons (f := fun e : Nat × Int => (e.1, e.2 + s)), List.getElem?_map]
  rw [List.getElem?_eq_getElem hj, List.getElem?_eq_getElem hj0, Option.map_some] at hm
  injection hm with hm
  rw [hm, List.getD_eq_getElem?_getD, List.getElem?_eq_getElem hj0]
  simp
def lastAt (es : List (Nat × Int)) : Nat := (es.getLastD (0, 0)).1
theorem lastAt_drop (es : List (Nat × Int)) (j : Nat) (h : j < es.length) : lastAt (es.drop j) = lastAt es := by
  unfold lastAt
  rw [List.getLastD_eq_getLast?, List.getLastD_eq_getLast?, List.getLast?_drop, if_neg (by omega)]
theorem lastAt_get (es : List (Nat × Int)) (j : Nat) (h : j + 1 = es.length) : lastAt es = (es[j]'(by omega)).1 := by
  unfold lastAt
  rw [List.getLastD_eq_getLast?, List.getLast?_eq_getElem?, show es.length - 1 = j by omega, List.getElem?_eq_getElem (by omega)]
  rfl
/-- What stands behind a place where a line may end. -/
theorem endsS_at : ∀ (l : List Gl) (k : Nat) (s : Int) (j : Nat) (h : j < (endsS l k s).length),
    ∃ q, ((endsS l k s)[j]).1 = k + q ∧ q ≤ l.length ∧ ((endsS l k s)[j]).2 = s + sumA (l.take q) ∧
      ((∃ h' : q < l.length, l[q].kind = 2 ∧ (endsS l k s).drop (j + 1) = endsS (l.drop (q + 1)) (k + q + 1) (s + sumA (l.take q) + l[q].adv)) ∨ j + 1 = (endsS l k s).length)
  | [], k, s, j, h => by
    have hj : j = 0 := by simp [endsS] at h; exact h
    subst hj
    exact ⟨0, rfl, Nat.le_refl _, by simp [endsS, sumA], .inr rfl⟩
  | x :: l, k, s, j, h => by
    by_cases h4 : x.kind = 4
    · have he : endsS (x :: l) k s = [(k, s)] := by simp only [endsS, if_pos h4]
      simp only [he] at h ⊢
      have hj : j = 0 := by simp at h; exact h
      subst hj
      exact ⟨0, rfl, Nat.zero_le _, by simp [sumA], .inr rfl⟩
    · have step : ∀ j (h : j < (endsS l (k + 1) (s + x.adv)).length), ∃ q, ((endsS l (k + 1) (s + x.adv))[j]).1 = k + (q + 1) ∧ q + 1 ≤ (x :: l).length ∧ ((endsS l (k + 1) (s + x.adv))[j]).2 = s + sumA ((x :: l).take (q + 1)) ∧
          ((∃ h' : q + 1 < (x :: l).length, (x :: l)[q + 1].kind = 2 ∧ (endsS l (k + 1) (s + x.adv)).drop (j + 1) = endsS ((x :: l).drop (q + 1 + 1)) (k + (q + 1) + 1) (s + sumA ((x :: l).take (q + 1)) + (x :: l)[q + 1].adv)) ∨ j + 1 = (endsS l (k + 1) (s + x.adv)).length) := fun j h => by
        obtain ⟨q, h1, h2, h3, h5⟩ := endsS_at l (k + 1) (s + x.adv) j h
        refine ⟨q, by rw [h1]; omega, by simp; omega, by rw [h3, List.take_succ_cons, sumA_cons]; omega, ?_⟩
        rcases h5 with ⟨h', h6, h7⟩ | h5
        · refine .inl ⟨by simp; omega, by simpa using h6, ?_⟩
          rw [h7, List.drop_succ_cons, List.take_succ_cons, sumA_cons, List.getElem_cons_succ]
          congr 1
          · omega
          · omega
        · exact .inr h5
      by_cases h2 : x.kind = 2
      · have he : endsS (x :: l) k s = (k, s) :: endsS l (k + 1) (s + x.adv) := by simp only [endsS, if_neg h4, if_pos h2]
        simp only [he] at h ⊢
        cases j with
        | zero => exact ⟨0, rfl, Nat.zero_le _, by simp [sumA], .inl ⟨by simp, h2, by simp [sumA]⟩⟩
        | succ j =>
          obtain ⟨q, h1, h3, h5, h6⟩ := step j (by simpa using h)
          refine ⟨q + 1, by simpa using h1, h3, by simpa using h5, ?_⟩
          rcases h6 with h6 | h6
          · exact .inl (by simpa using h6)
          · exact .inr (by simp; omega)
      · have he : endsS (x :: l) k s = endsS l (k + 1) (s + x.adv) := by simp only [endsS, if_neg h4, if_neg h2]
        simp only [he] at h ⊢
        obtain ⟨q, h⟩ := step j h
        exact ⟨q + 1, h⟩
end Go.Proofs.Ytncaichachipkaa
/- Rows of records of some cells each, of any kinds. No program is named here. -/
namespace Go.Proofs.Ytncaichachipkaa
open Go Go.RowKit
set_option linter.unusedVariables false
set_option linter.unusedSimpArgs false

section
variable {α : Type} {f : α → List Value} {k : Nat}
theorem rec_len (hf : ∀ x, (f x).length = k) : ∀ (l : List α), (l.flatMap f).length = l.length * k
  | [] => by simp
  | x :: l => by rw [List.flatMap_cons, List.length_append, hf, rec_len hf l, List.length_cons, Nat.succ_mul]; omega
theorem rec_get (hf : ∀ x, (f x).length = k) : ∀ (l : List α) (i : Nat) (h : i < l.length) (j : Nat), j < k → (l.flatMap f)[i * k + j]? = (f l[i])[j]?
  | x :: l, 0, h, j, hj => by
    rw [List.flatMap_cons, Nat.zero_mul, Nat.zero_add, List.getElem?_append_left (by rw [hf]; exact hj)]; rfl
  | x :: l, i + 1, h, j, hj => by
    have := rec_get hf l i (by simpa using h) j hj
    rw [List.flatMap_cons, List.getElem?_append_right (by rw [hf, Nat.succ_mul]; omega), hf, show (i + 1) * k + j - k = i * k + j by rw [Nat.succ_mul]; omega, this]
    rfl
theorem rec_at (ad : Addr) (m j : Nat) (h : 0 < j) : (⟨(ad.add m).block, (ad.add m).off + j, none⟩ : Addr) = ad.add (m + j) := by
  have : (ad.add m).add j = ad.add (m + j) := by unfold Addr.add; split <;> split <;> simp_all [Nat.add_assoc]
  rw [← this]
  generalize ad.add m = b
  unfold Addr.add
  rw [if_neg (by omega)]
/-- The cells of the i-th record, as a walk reads them. -/
theorem Row.rc {w : World} {B : Nat} {A : Option Addr} {l : List α} (hf : ∀ x, (f x).length = k) (h : Row w B A (l.flatMap f)) (hk : 0 < k) {i : Nat} (hi : i < l.length) :
    ∃ ad, A = some ad ∧ ad.block < B ∧ (∀ v, (f l[i])[0]? = some v → w.cell? (ad.add (i * k)) = some v) ∧
      ∀ j v, 0 < j → (f l[i])[j]? = some v → w.cell? ⟨(ad.add (i * k)).block, (ad.add (i * k)).off + j, none⟩ = some v := by
  have hlen : i * k + k ≤ (l.flatMap f).length := by
    rw [rec_len hf]
    have : (i + 1) * k ≤ l.length * k := Nat.mul_le_mul_right k hi
    rw [Nat.succ_mul] at this
    exact this
  obtain ⟨ad, e, hb, hc⟩ := h (by omega)
  have at_ : ∀ j v, (f l[i])[j]? = some v → w.cell? (ad.add (i * k + j)) = some v := fun j v hv => by
    have hj : j < k := by
      have := (List.getElem?_eq_some_iff.1 hv).1
      rwa [hf] at this
    have hg := rec_get hf l i hi j hj
    rw [hv] at hg
    obtain ⟨q, e⟩ := List.getElem?_eq_some_iff.1 hg
    rw [hc _ q, e]
  refine ⟨ad, e, hb, fun v hv => at_ 0 v hv, fun j v h0 hv => ?_⟩
  rw [rec_at ad _ j h0]
  exact at_ j v hv
theorem rec_one {l : List α} (h : ∀ x, ∀ v ∈ f x, v.oneCell' = true) : ∀ v ∈ l.flatMap f, v.oneCell' = true := fun v hv => by
  obtain ⟨x, _, hx⟩ := List.mem_flatMap.1 hv
  exact h x v hx
theorem rec_drop (hf : ∀ x, (f x).length = k) : ∀ (l : List α) (j : Nat), (l.flatMap f).drop (j * k) = (l.drop j).flatMap f
  | [], j => by simp
  | x :: l, 0 => by simp
  | x :: l, j + 1 => by
    rw [List.flatMap_cons, List.drop_succ_cons, ← rec_drop hf l j, Nat.succ_mul, Nat.add_comm, ← List.drop_drop, List.drop_left' (hf x)]
end
end Go.Proofs.Ytncaichachipkaa
/- Declarations and styles as plain numbers. No program is named here. -/
set_option linter.unusedSimpArgs false
namespace Go.Proofs.Ytncaichachipkaa
open Go.RowKit
set_option linter.unusedVariables false

/-- How many words a Prop has. -/
def wordsN (p : Int) : Int :=
  if p = 1 ∨ p = 20 ∨ p = 27 then 4 else if p = 21 ∨ p = 29 ∨ p = 30 then 3 else if p = 26 ∨ p = 28 then 5 else if p = 32 then 2 else 0
/-- Could a text tell a declaration of Prop p, Word w, Len (k, n)? -/
def mayP (p w k n : Int) : Prop :=
  if p < 1 ∨ 32 < p then False
  else if 0 < wordsN p then 0 ≤ w ∧ w < wordsN p ∧ k = 0 ∧ n = 0
  else if p = 23 ∨ p = 24 then 0 ≤ w ∧ w ≤ 100 ∧ k = 0 ∧ n = 0
  else if p = 25 then -1000 ≤ w ∧ w ≤ 1000 ∧ k = 0 ∧ n = 0
  else if (12 ≤ p ∧ p ≤ 19) ∨ p = 31 then w = 0 ∧ k = 1 ∧ 0 ≤ n ∧ n ≤ 6400000
  else if 8 ≤ p ∧ p ≤ 11 then w = 0 ∧ ((k = 1 ∧ -6400000 ≤ n ∧ n ≤ 6400000) ∨ (k = 2 ∧ -999999 ≤ n ∧ n ≤ 999999) ∨ (k = 0 ∧ n = 0))
  else if p = 4 ∨ p = 5 then w = 0 ∧ ((k = 1 ∧ 0 ≤ n ∧ n ≤ 6400000) ∨ (k = 2 ∧ 0 ≤ n ∧ n ≤ 999999))
  else w = 0 ∧ ((k = 1 ∧ 0 ≤ n ∧ n ≤ 6400000) ∨ (k = 2 ∧ 0 ≤ n ∧ n ≤ 999999) ∨ (k = 0 ∧ n = 0))
instance (p w k n : Int) : Decidable (mayP p w k n) := by unfold mayP; infer_instance
def mayZ (p w k n : Int) : Bool := decide (mayP p w k n)
/-- Where a Prop's cells begin, of a style's 43. -/
def offZ (p : Int) : Nat :=
  if p = 1 then 0 else if p = 20 then 1 else if p = 21 then 2 else if p = 26 then 3 else if p = 27 then 4 else if p = 28 then 5 else if p = 29 then 6 else if p = 30 then 7 else if p = 32 then 8
  else if p = 22 then 21 else if p < 8 then (2 * p + 5).toNat else if p < 12 then (2 * p + 7).toNat else if p < 20 then (p + 19).toNat else if p = 31 then 42 else (p + 16).toNat
/-- A style's cells with a declaration laid over. -/
def laidZ (zs : List Int) (p w k n : Int) : List Int :=
  if p < 1 ∨ 32 < p then zs
  else if 0 < wordsN p ∨ (23 ≤ p ∧ p ≤ 25) then zs.set (offZ p) w
  else if (12 ≤ p ∧ p ≤ 19) ∨ p = 31 then zs.set (offZ p) n
  else (zs.set (offZ p) k).set (offZ p + 1) n
theorem laidZ_length (zs : List Int) (p w k n : Int) : (laidZ zs p w k n).length = zs.length := by
  unfold laidZ; split <;> try split <;> try split
  all_goals simp
/-- What is initial. -/
def initZ : List Int := [1, 0, 0, 0, 3, 0, 0, 0, 0,  0, 0, 0, 0, 1, 0, 1, 0, 0, 0, 0, 0, 0, 0,  1, 0, 1, 0, 1, 0, 1, 0,  0, 0, 0, 0,  0, 0, 0, 0,  0, 1, 0,  1280]
structure Dc where
  p : Int
  w : Int
  k : Int
  n : Int
def dCells : List Dc → List Int
  | [] => []
  | d :: r => d.p :: d.w :: d.k :: d.n :: dCells r
/-- A style with each of a row laid over. -/
def styleZ (zs : List Int) : List Dc → List Int
  | [] => zs
  | d :: r => styleZ (if mayZ d.p d.w d.k d.n = true then laidZ zs d.p d.w d.k d.n else zs) r
theorem dCells_length (l : List Dc) : (dCells l).length = l.length * 4 := by
  induction l with
  | nil => rfl
  | cons d r ih => simp [dCells, ih]; omega
theorem dCells_append (a b : List Dc) : dCells (a ++ b) = dCells a ++ dCells b := by
  induction a with
  | nil => rfl
  | cons d r ih => simp [dCells, ih]
theorem dCells_get (l : List Dc) : ∀ k (h : k < l.length), (dCells l)[k * 4]? = some l[k].p ∧ (dCells l)[k * 4 + 1]? = some l[k].w ∧ (dCells l)[k * 4 + 2]? = some l[k].k ∧ (dCells l)[k * 4 + 3]? = some l[k].n := by
  induction l with
  | nil => intro k h; simp at h
  | cons d r ih =>
    intro k h
    cases k with
    | zero => exact ⟨rfl, rfl, rfl, rfl⟩
    | succ k =>
      have := ih k (by simpa using h)
      rw [show (k + 1) * 4 = k * 4 + 1 + 1 + 1 + 1 by omega]
      simpa [dCells] using this
theorem styleZ_append (a b : List Dc) : ∀ zs, styleZ zs (a ++ b) = styleZ (styleZ zs a) b := by
  induction a with
  | nil => intro zs; rfl
  | cons d r ih => intro zs; simp [styleZ, ih]
theorem styleZ_length (l : List Dc) : ∀ zs, (styleZ zs l).length = zs.length := by
  induction l with
  | nil => intro zs; rfl
  | cons d r ih => intro zs; rw [styleZ, ih]; split <;> simp [laidZ_length]
theorem styleZ_take (zs : List Int) (l : List Dc) (k : Nat) (h : k < l.length) :
    styleZ zs (l.take (k + 1)) = if mayZ l[k].p l[k].w l[k].k l[k].n = true then laidZ (styleZ zs (l.take k)) l[k].p l[k].w l[k].k l[k].n else styleZ zs (l.take k) := by
  rw [List.take_succ_eq_append_getElem h, styleZ_append]; rfl

def pxB (w k n : Int) : Bool := decide (w = 0 ∧ k = 1 ∧ -6400000 ≤ n ∧ n ≤ 6400000)
def pctB (w k n : Int) : Bool := decide (w = 0 ∧ k = 2 ∧ -999999 ≤ n ∧ n ≤ 999999)
def autoB (w k n : Int) : Bool := decide (w = 0 ∧ k = 0 ∧ n = 0)
section
variable {p w k n : Int}
theorem wordsN_none (h : ¬ (p = 1 ∨ p = 20 ∨ p = 21 ∨ p = 26 ∨ p = 27 ∨ p = 28 ∨ p = 29 ∨ p = 30 ∨ p = 32)) : wordsN p = 0 := by
  unfold wordsN
  rw [if_neg (by omega), if_neg (by omega), if_neg (by omega), if_neg (by omega)]
theorem wordsN_pos (h : p = 1 ∨ p = 20 ∨ p = 21 ∨ p = 26 ∨ p = 27 ∨ p = 28 ∨ p = 29 ∨ p = 30 ∨ p = 32) : 0 < wordsN p ∧ wordsN p ≤ 5 := by
  rcases h with rfl | rfl | rfl | rfl | rfl | rfl | rfl | rfl | rfl <;> decide
theorem wordsN_le (p : Int) : 0 ≤ wordsN p ∧ wordsN p ≤ 5 := by
  by_cases h : p = 1 ∨ p = 20 ∨ p = 21 ∨ p = 26 ∨ p = 27 ∨ p = 28 ∨ p = 29 ∨ p = 30 ∨ p = 32
  · have := wordsN_pos h; omega
  · rw [wordsN_none h]; decide
theorem may_iff : (mayZ p w k n = true) ↔ mayP p w k n := by unfold mayZ; exact decide_eq_true_iff
theorem may_out (h : p < 1 ∨ 32 < p) : mayZ p w k n = false := by
  rw [Bool.eq_false_iff]; intro h1; rw [may_iff] at h1; unfold mayP at h1; rw [if_pos h] at h1; exact h1
theorem may_words (h : p = 1 ∨ p = 20 ∨ p = 21 ∨ p = 26 ∨ p = 27 ∨ p = 28 ∨ p = 29 ∨ p = 30 ∨ p = 32) : mayZ p w k n = decide (0 ≤ w ∧ w < wordsN p ∧ k = 0 ∧ n = 0) := by
  have h1 := wordsN_pos h
  rw [Bool.eq_iff_iff, may_iff, decide_eq_true_iff]; unfold mayP
  rw [if_neg (by omega), if_pos h1.1]
theorem may_whole (h : p = 23 ∨ p = 24) : mayZ p w k n = decide (0 ≤ w ∧ w ≤ 100 ∧ k = 0 ∧ n = 0) := by
  have h1 := wordsN_none (p := p) (by omega)
  rw [Bool.eq_iff_iff, may_iff, decide_eq_true_iff]; unfold mayP
  rw [if_neg (by omega), if_neg (by omega), if_pos h]
theorem may_order (h : p = 25) : mayZ p w k n = decide (-1000 ≤ w ∧ w ≤ 1000 ∧ k = 0 ∧ n = 0) := by
  have h1 := wordsN_none (p := p) (by omega)
  rw [Bool.eq_iff_iff, may_iff, decide_eq_true_iff]; unfold mayP
  rw [if_neg (by omega), if_neg (by omega), if_neg (by omega), if_pos h]
theorem may_px (h : (12 ≤ p ∧ p ≤ 19) ∨ p = 31) : mayZ p w k n = (pxB w k n && decide (0 ≤ n)) := by
  have h1 := wordsN_none (p := p) (by omega)
  rw [Bool.eq_iff_iff, may_iff]; unfold mayP pxB
  rw [if_neg (by omega), if_neg (by omega), if_neg (by omega), if_neg (by omega), if_pos h]
  simp only [Bool.and_eq_true, Bool.or_eq_true, decide_eq_true_iff]
  omega
theorem may_margin (h : 8 ≤ p ∧ p ≤ 11) : mayZ p w k n = (pxB w k n || pctB w k n || autoB w k n) := by
  have h1 := wordsN_none (p := p) (by omega)
  rw [Bool.eq_iff_iff, may_iff]; unfold mayP pxB pctB autoB
  rw [if_neg (by omega), if_neg (by omega), if_neg (by omega), if_neg (by omega), if_neg (by omega), if_pos h]
  simp only [Bool.and_eq_true, Bool.or_eq_true, decide_eq_true_iff]
  omega
theorem may_min (h : p = 4 ∨ p = 5) : mayZ p w k n = ((pxB w k n || pctB w k n) && decide (0 ≤ n)) := by
  have h1 := wordsN_none (p := p) (by omega)
  rw [Bool.eq_iff_iff, may_iff]; unfold mayP pxB pctB
  rw [if_neg (by omega), if_neg (by omega), if_neg (by omega), if_neg (by omega), if_neg (by omega), if_neg (by omega), if_pos h]
  simp only [Bool.and_eq_true, Bool.or_eq_true, decide_eq_true_iff]
  omega
theorem may_rest (h : p = 2 ∨ p = 3 ∨ p = 6 ∨ p = 7 ∨ p = 22) : mayZ p w k n = (((pxB w k n || pctB w k n) && decide (0 ≤ n)) || autoB w k n) := by
  have h1 := wordsN_none (p := p) (by omega)
  rw [Bool.eq_iff_iff, may_iff]; unfold mayP pxB pctB autoB
  rw [if_neg (by omega), if_neg (by omega), if_neg (by omega), if_neg (by omega), if_neg (by omega), if_neg (by omega), if_neg (by omega)]
  simp only [Bool.and_eq_true, Bool.or_eq_true, decide_eq_true_iff]
  omega
end
end Go.Proofs.Ytncaichachipkaa
/- A row's declarations, as the walk reads them. No program is named here. -/
namespace Go.Proofs.Ytncaichachipkaa
open Go Go.RowKit
set_option linter.unusedVariables false
set_option linter.unusedSimpArgs false
set_option maxRecDepth 20000
set_option maxHeartbeats 4000000

theorem Row.dec {w : World} {B : Nat} {A : Option Addr} {ds : List Dc} (h : Row w B A (i64s (dCells ds))) {k : Nat} (hk : k < ds.length) :
    ∃ ad, A = some ad ∧ ad.block < B ∧ w.cell? (ad.add (k * 4)) = some (.int .i64 ds[k].p) ∧ w.cell? ⟨(ad.add (k * 4)).block, (ad.add (k * 4)).off + 1, none⟩ = some (.int .i64 ds[k].w) ∧
      w.cell? ⟨(ad.add (k * 4)).block, (ad.add (k * 4)).off + 2, none⟩ = some (.int .i64 ds[k].k) ∧ w.cell? ⟨(ad.add (k * 4)).block, (ad.add (k * 4)).off + 3, none⟩ = some (.int .i64 ds[k].n) := by
  have hl := dCells_length ds
  have hl' := i64s_length (dCells ds)
  obtain ⟨ad, e, hb, hc⟩ := h (by omega)
  obtain ⟨g0, g1, g2, g3⟩ := dCells_get ds k hk
  have at_ : ∀ j, j < 4 → ∀ z, (dCells ds)[k * 4 + j]? = some z → w.cell? (ad.add (k * 4 + j)) = some (.int .i64 z) := fun j hj z hz => by
    have h1 : k * 4 + j < (i64s (dCells ds)).length := by omega
    rw [hc _ h1]
    have h2 : k * 4 + j < (dCells ds).length := by omega
    rw [List.getElem?_eq_getElem h2] at hz
    injection hz with hz
    simp [i64s, hz]
  have far : ∀ j, 0 < j → (⟨(ad.add (k * 4)).block, (ad.add (k * 4)).off + j, none⟩ : Addr) = ad.add (k * 4 + j) := fun j hj => by
    have : (ad.add (k * 4)).add j = ad.add (k * 4 + j) := add_of_add _ _ _
    rw [← this]
    generalize ad.add (k * 4) = b
    unfold Addr.add
    rw [if_neg (by omega)]
  refine ⟨ad, e, hb, at_ 0 (by omega) _ g0, ?_, ?_, ?_⟩
  · rw [far 1 (by omega)]; exact at_ 1 (by omega) _ g1
  · rw [far 2 (by omega)]; exact at_ 2 (by omega) _ g2
  · rw [far 3 (by omega)]; exact at_ 3 (by omega) _ g3
end Go.Proofs.Ytncaichachipkaa
/- A style in memory: 43 cells, read and written whole. -/
namespace Go.Proofs.Ytncaichachipkaa
open Go Go.RowKit
set_option linter.unusedVariables false
set_option linter.unusedSimpArgs false

theorem style_size : (Try.prog.info? 33).map (·.size) = some 43 := by kernel_rfl
theorem i64s_set (zs : List Int) (k : Nat) (n : Int) : i64s (zs.set k n) = (i64s zs).set k (.int .i64 n) := by simp [i64s, List.map_set]
/-- A style as a value. -/
def styV (zs : List Int) : Value := .agg (i64s zs).toArray
theorem i64s_get (zs : List Int) (i : Nat) (h : i < zs.length) : ∃ z, (i64s zs)[i]? = some (.int .i64 z) := ⟨zs[i], by simp [i64s, h]⟩

section
variable {ops : Array Oper} {rest : List Oper} {o : Oper} {a : Act} {w : World} {Q : Exit → Act → World → Prop}
theorem style_load (x : Operand) (hgd : o.guard = none) (ho : o.op = .load 33 x) (g : Nat) (hx : a.eval x = .pointer (some ⟨g, 0, none⟩)) (zs : List Int) (hz : zs.length = 43)
    (hw : Whole w g 33 (i64s zs)) (h : wpList Try.prog ops Q rest (a.put o.dst (.agg (i64s zs).toArray)) w) : wpList Try.prog ops Q (o :: rest) a w :=
  wpList_load_row hgd 33 x ho g hx 33 (i64s zs).toArray (0, 0) _ hw Try.underlying33 rfl (by rw [style_size]; simp [i64s_length, hz]) h
theorem style_store (x y : Operand) (hgd : o.guard = none) (ho : o.op = .store 33 x y) (g : Nat) (hx : a.eval x = .pointer (some ⟨g, 0, none⟩)) (zs : List Int) (hz : zs.length = 43) (hy : a.eval y = .agg (i64s zs).toArray)
    (old : List Int) (hw : Whole w g 33 (i64s old)) (hold : old.length = 43) (h : ∀ w', Whole w' g 33 (i64s zs) → Only [g] w w' → wpList Try.prog ops Q rest (a.put o.dst undef) w') : wpList Try.prog ops Q (o :: rest) a w :=
  wpList_plain hgd fun K hK => wp_store_row 33 x y ho g (i64s zs).toArray hx hy 33 (i64s old).toArray hw (by rw [style_size]; simp [i64s_length, hz]) (by simp [i64s_length, hz, hold])
    (Array.all_eq_true_iff_forall_mem.2 fun v hv => i64s_one zs v (by simpa using hv))
    (hK _ _ (h _ (setRow_heap w g _ _ _ _ hw) ⟨rfl, rfl, rfl, by simp, fun k _ hk => setRow_other w g k _ (by simpa using hk)⟩))
theorem style_end {fn : Func} {p : Tmp} {R : Ending → World → Prop} (hr : fn.results = #[.cell p 33]) (g : Nat) (hp : a.tmps.getD p undef = .pointer (some ⟨g, 0, none⟩)) (zs : List Int) (hz : zs.length = 43)
    (hw : Whole w g 33 (i64s zs)) (hd : a.defers = []) (hR : R (.returned (.agg (i64s zs).toArray)) w) : bodyPost Try.prog fn R .ret a w :=
  bodyPost_ret (v := .agg (i64s zs).toArray) (results_cell_row hr a.tmps w g 33 (i64s zs).toArray (0, 0) _ hp hw Try.underlying33 rfl (by rw [style_size]; simp [i64s_length, hz])) hd hR
end
def zeros43 : List Int := List.replicate 43 0
/-- A style's box, a declaration's, a result's. -/
def RelZ (W w : World) (zs : List Int) : Prop := Whole w W.heap.size 33 (i64s zs) ∧ Whole w (W.heap.size + 1 + 1) 33 (i64s zeros43) ∧ Below W.heap.size W w
theorem relZ_mk (W : World) (xs : List Value) (o : Obj) (zs : List Int) (h : i64s zs = xs) : RelZ W (((W.alloc (.cells xs.toArray 33)).alloc o).alloc (.cells #[.int .i64 0, .int .i64 0, .int .i64 0, .int .i64 0, .int .i64 0, .int .i64 0, .int .i64 0, .int .i64 0, .int .i64 0, .int .i64 0, .int .i64 0, .int .i64 0, .int .i64 0, .int .i64 0, .int .i64 0, .int .i64 0, .int .i64 0, .int .i64 0, .int .i64 0, .int .i64 0, .int .i64 0, .int .i64 0, .int .i64 0, .int .i64 0, .int .i64 0, .int .i64 0, .int .i64 0, .int .i64 0, .int .i64 0, .int .i64 0, .int .i64 0, .int .i64 0, .int .i64 0, .int .i64 0, .int .i64 0, .int .i64 0, .int .i64 0, .int .i64 0, .int .i64 0, .int .i64 0, .int .i64 0, .int .i64 0, .int .i64 0] 33)) zs := by
  subst h
  refine ⟨?_, ?_, (((Below.refl _ _).alloc (Nat.le_refl _) _).alloc (by simp) _).alloc (by simp; omega) _⟩
  · have h := Whole.mk W 33 (i64s zs).toArray
    simpa using (h.made o).made _
  · have h := Whole.mk ((W.alloc (.cells (i64s zs).toArray 33)).alloc o) 33 (i64s zeros43).toArray
    simp only [World.size_alloc] at h
    exact h
theorem gives_style {o : Oper} {a : Act} {w : World} (x : Operand) (ho : o.op = .load 33 x) (g : Nat) (hx : a.eval x = .pointer (some ⟨g, 0, none⟩)) (zs : List Int) (hz : zs.length = 43)
    (hw : Whole w g 33 (i64s zs)) : gives Try.prog o a w fun u _ => u = .agg (i64s zs).toArray := by
  have hr := run_loadVar_row (P := Try.prog) w g 33 33 (i64s zs).toArray (0, 0) _ hw Try.underlying33 rfl (by rw [style_size]; simp [i64s_length, hz])
  unfold gives execOp
  simp only [ho, hx, Instr.loadAt, Instr.sureAddr, Sem.run_bind, Sem.run_pure, Result.andThen_ok, hr]
  exact ⟨Behind.refl w, trivial⟩
end Go.Proofs.Ytncaichachipkaa
/- Regions that draw: an element of a literal made there ('[]T{..}[k]'): its address, its value. No program is named here. -/
namespace Go.Proofs.Ytncaichachipkaa
set_option linter.unusedVariables false
set_option linter.unusedSimpArgs false
open Go.RowKit

def itemT (e : TypeId) (cs : List Value) (k : Nat) : Told := fun v w => ∃ g, v = .pointer (some ⟨g, k, none⟩) ∧ w.heap[g]? = some (.cells cs.toArray e (0, 0))
theorem itemT_steady (e : TypeId) (cs : List Value) (k : Nat) : Steady (itemT e cs k) := fun v w w' hb ⟨g, h1, h2⟩ => ⟨g, h1, (hb.block g (Array.getElem?_eq_some_iff.1 h2).1).trans h2⟩
section
variable {P : Program} {ops : Array Oper} {w0 : World} {Fin : Env → Prop} {o : Oper} {r : List Oper} {a : Act} {F : List (Tmp × Told)} {d : Tmp}
theorem laneO_item {s i : Tmp} {n k : Nat} {t e : TypeId} {cs : List Value} (hop : o.op = .indexAddr t (.tmp s) (.tmp i)) (ho : o.dst = some d) (hgd : o.guard = none) (hT : F.lookup s = some (madeT n e cs)) (hi : F.lookup i = none)
    (hiv : a.tmps.getD i undef = .int .i64 k) (hk : k < n) (ht : P.underlying t = some (.slice e)) (hsz : (P.info? e).map (·.size) = some 1) (hr : laneO P ops w0 Fin r (envOf a ((d, itemT e cs k) :: F))) : laneO P ops w0 Fin (o :: r) (envOf a F) := by
  refine ⟨itemT e cs k, ⟨itemT_steady _ _ _, fun a' w hb hm => .inl (.inl ⟨by simp [Region.wanted, hgd], ?_⟩)⟩, by rw [ho, upd_told]; exact hr⟩
  have h1 := hm s (by simp [Oper.looksAt, hop, Op.operands])
  have h2 := hm i (by simp [Oper.looksAt, hop, Op.operands])
  unfold envOf at h1 h2
  rw [hT] at h1
  rw [hi] at h2
  obtain ⟨g, hv, hg⟩ := h1
  have h2' : a'.tmps.getD i undef = .int .i64 k := h2.trans hiv
  have he : P.elem t = e := by simp [Program.elem, ht]
  have hs1 : (sizeOf e).run P w = .ok 1 w := by
    cases hq : P.info? e with
    | none => simp [hq] at hsz
    | some j =>
      have : j.size = 1 := by simpa [hq] using hsz
      simp [sizeOf, typeInfo, hq, this, go_sem]
  have hrun : (Instr.indexAt t (.slice (some ⟨g, 0, none⟩) n n) (.int .i64 k)).run P w = .ok (.pointer (some ⟨g, k, none⟩)) w := by
    have hk' : (0 : Int) ≤ (k : Int) ∧ (k : Int) < (n : Int) := by omega
    have hadd : (⟨g, 0, none⟩ : Addr).add k = ⟨g, k, none⟩ := by unfold Addr.add; split <;> simp_all
    simp [Instr.indexAt, asIntOf, run_underlying ht, hk', hk, hs1, hadd, go_sem]
  unfold gives
  have e1 : a'.eval (.tmp s) = .slice (some ⟨g, 0, none⟩) n n := hv
  have e2 : a'.eval (.tmp i) = .int .i64 k := h2'
  simp only [execOp, hop, e1, e2, Sem.run_bind, hrun, Result.andThen_ok, Sem.run_pure]
  exact ⟨Behind.refl w, g, rfl, hg⟩
theorem laneO_itemLoad {s : Tmp} {k : Nat} {t e : TypeId} {cs : List Value} {v : Value} (hop : o.op = .load t (.tmp s)) (ho : o.dst = some d) (hd : d < a.tmps.size) (hF : F.lookup d = none) (hgd : o.guard = none) (hT : F.lookup s = some (itemT e cs k))
    (hcs : cs[k]? = some v) (hrun : ∀ (w : World) (g : Nat), w.cell? ⟨g, k, none⟩ = some v → (loadVar t ⟨g, k, none⟩).run P w = .ok v w) (hr : laneO P ops w0 Fin r (envOf (a.put (some d) v) F)) : laneO P ops w0 Fin (o :: r) (envOf a F) := by
  refine laneO_use (by simp [notSelect, hop]) ho hd hF (fun a' w hb' hm => .inl ⟨by simp [Region.wanted, hgd], ?_⟩) hr
  have h1 := hm s (by simp [Oper.looksAt, hop, Op.operands])
  unfold envOf at h1
  rw [hT] at h1
  obtain ⟨g, hv, hg⟩ := h1
  have hc : w.cell? ⟨g, k, none⟩ = some v := by
    rw [cell_of_row w g k cs.toArray e (0, 0) hg]
    simpa using hcs
  have e1 : a'.eval (.tmp s) = .pointer (some ⟨g, k, none⟩) := hv
  unfold gives
  simp only [execOp, hop, e1, Instr.loadAt, Instr.sureAddr, Sem.run_bind, Sem.run_pure, Result.andThen_ok, hrun w g hc]
  exact ⟨Behind.refl w, trivial⟩
end
end Go.Proofs.Ytncaichachipkaa
/- Regions that draw: calls whose arguments are told, and whose answer is told or known. No program is named here. -/
namespace Go.Proofs.Ytncaichachipkaa
set_option linter.unusedVariables false
set_option linter.unusedSimpArgs false
open Go.RowKit

section
variable {P : Program} {ops : Array Oper} {w0 : World} {Fin : Env → Prop} {o : Oper} {r : List Oper} {a : Act} {F : List (Tmp × Told)} {d : Tmp}
theorem wanted_told {a' : Act} {w : World} (hw : Region.wanted o (yielded ops a.tmps) = true) (hg : clearB F (guardSlots ops o) = true) (hm : meets (envOf a F) (o.looksAt ops) a' w) : Region.wanted o (yielded ops a'.tmps) = true := by
  rw [same_wanted (a := a) fun s hs => ?_]
  · exact hw
  · have h1 := hm s (by
      unfold guardSlots at hs
      unfold Oper.looksAt
      exact List.mem_append_right _ hs)
    unfold envOf at h1
    rw [clear_spec hg hs] at h1
    exact h1
/-- What a slot is told to hold, at a frame that meets all that is told. -/
theorem told_at {a' : Act} {w : World} {t : Tmp} {f : FuncId} {xs : Array Operand} {ts : Array TypeId} (hop : o.op = .call { callee := .value (.func f), args := xs, argTypes := ts }) (hm : meets (envOf a F) (o.looksAt ops) a' w) (ht : Operand.tmp t ∈ xs) : envOf a F t (a'.tmps.getD t undef) w :=
  hm t (by
    unfold Oper.looksAt
    refine List.mem_append_left _ (List.mem_filterMap.2 ⟨.tmp t, ?_, rfl⟩)
    simp only [hop, Op.operands, Call.operands]
    simpa using ht)
theorem laneO_callT {f : FuncId} {fn : Func} {c : Code} {xs : Array Operand} {ts : Array TypeId} (T : Told) (hT : Steady T) (hop : o.op = .call { callee := .value (.func f), args := xs, argTypes := ts }) (ho : o.dst = some d)
    (hw : Region.wanted o (yielded ops a.tmps) = true) (hg : clearB F (guardSlots ops o) = true) (hf : P.funcs[f]? = some fn) (hname : (fn.name == "runtime.NumGoroutine") = false) (hb : fn.body = some c)
    (h : ∀ (a' : Act) (w : World), Behind w0 w → (∀ t, Operand.tmp t ∈ xs → envOf a F t (a'.tmps.getD t undef) w) → Calls P f (xs.map a'.eval) w fun e w' => ∃ v, e = .returned v ∧ Behind w w' ∧ T v w')
    (hr : laneO P ops w0 Fin r (envOf a ((d, T) :: F))) : laneO P ops w0 Fin (o :: r) (envOf a F) := by
  refine ⟨T, ⟨hT, fun a' w hb' hm => .inl (.inl ⟨wanted_told hw hg hm, ?_⟩)⟩, by rw [ho, upd_told]; exact hr⟩
  unfold gives
  rw [run_enter hop hf hname hb]
  exact ⟨Behind.refl w, h a' w hb' fun t ht => told_at hop hm ht⟩
theorem laneO_callV {f : FuncId} {fn : Func} {c : Code} {xs : Array Operand} {ts : Array TypeId} {v : Value} (hop : o.op = .call { callee := .value (.func f), args := xs, argTypes := ts }) (ho : o.dst = some d) (hd : d < a.tmps.size) (hF : F.lookup d = none)
    (hw : Region.wanted o (yielded ops a.tmps) = true) (hg : clearB F (guardSlots ops o) = true) (hf : P.funcs[f]? = some fn) (hname : (fn.name == "runtime.NumGoroutine") = false) (hb : fn.body = some c)
    (h : ∀ (a' : Act) (w : World), Behind w0 w → (∀ t, Operand.tmp t ∈ xs → envOf a F t (a'.tmps.getD t undef) w) → Calls P f (xs.map a'.eval) w fun e w' => e = .returned v ∧ Behind w w')
    (hr : laneO P ops w0 Fin r (envOf (a.put (some d) v) F)) : laneO P ops w0 Fin (o :: r) (envOf a F) := by
  refine laneO_use (by simp [notSelect, hop]) ho hd hF (fun a' w hb' hm => .inl ⟨wanted_told hw hg hm, ?_⟩) hr
  unfold gives
  rw [run_enter hop hf hname hb]
  exact ⟨Behind.refl w, (h a' w hb' fun t ht => told_at hop hm ht).mono fun e w' ⟨he, hb⟩ => ⟨v, he, hb, rfl⟩⟩
theorem gives_mono {P : Program} {o : Oper} {a : Act} {w : World} {T T' : Told} (h : gives P o a w T) (hT : ∀ v w', Behind w w' → T v w' → T' v w') : gives P o a w T' := by
  unfold gives at h ⊢
  split at h
  · exact ⟨h.1, hT _ _ h.1 h.2⟩
  · exact ⟨h.1, hT _ _ h.1 h.2⟩
  · obtain ⟨h1, h2⟩ := h
    exact ⟨h1, h2.mono fun e w'' ⟨v, he, hb, ht⟩ => ⟨v, he, hb, hT _ _ (Behind.trans h1 hb) ht⟩⟩
  · exact h.elim
/-- An operation on what is told, whose answer is told. -/
theorem laneO_gives (T : Told) (hT : Steady T) (ho : o.dst = some d) (hw : Region.wanted o (yielded ops a.tmps) = true) (hg : clearB F (guardSlots ops o) = true)
    (h : ∀ (a' : Act) (w : World), Behind w0 w → meets (envOf a F) (o.looksAt ops) a' w → gives P o a' w T) (hr : laneO P ops w0 Fin r (envOf a ((d, T) :: F))) : laneO P ops w0 Fin (o :: r) (envOf a F) := by
  refine ⟨T, ⟨hT, fun a' w hb' hm => .inl (.inl ⟨wanted_told hw hg hm, h a' w hb' hm⟩)⟩, by rw [ho, upd_told]; exact hr⟩
end
end Go.Proofs.Ytncaichachipkaa
/- A block of cells of any kinds read and written whole. No program is named here. -/
namespace Go.Proofs.Ytncaichachipkaa
open Go Go.RowKit
set_option linter.unusedVariables false
set_option linter.unusedSimpArgs false

theorem cells_one {cs : List Value} (h : ∀ v ∈ cs, v.oneCell' = true) : cs.toArray.all (·.oneCell') = true := Array.all_eq_true_iff_forall_mem.2 fun v hv => h v (by simpa using hv)
section
variable {P : Program} {ops : Array Oper} {rest : List Oper} {o : Oper} {a : Act} {w : World} {Q : Exit → Act → World → Prop}
theorem cells_load {t : TypeId} {n : Nat} (ht : FlatT P t n) (x : Operand) (hgd : o.guard = none) (ho : o.op = .load t x) (g : Nat) (hx : a.eval x = .pointer (some ⟨g, 0, none⟩)) (cs : List Value) (hz : cs.length = n) (t0 : TypeId)
    (hw : Whole w g t0 cs) (h : wpList P ops Q rest (a.put o.dst (.agg cs.toArray)) w) : wpList P ops Q (o :: rest) a w := by
  obtain ⟨⟨d, hd, hm⟩, hs⟩ := ht
  exact wpList_load_row hgd t x ho g hx t0 cs.toArray (0, 0) d hw hd (by cases d <;> first | rfl | exact hm) (by rw [hs]; simp [hz]) h
theorem cells_loadW {t : TypeId} {n : Nat} (ht : FlatT P t n) (x : Operand) (hgd : Region.wanted o (yielded ops a.tmps) = true) (ho : o.op = .load t x) (g : Nat) (hx : a.eval x = .pointer (some ⟨g, 0, none⟩)) (cs : List Value) (hz : cs.length = n) (t0 : TypeId)
    (hw : Whole w g t0 cs) (h : wpList P ops Q rest (a.put o.dst (.agg cs.toArray)) w) : wpList P ops Q (o :: rest) a w := by
  obtain ⟨⟨d, hd, hm⟩, hs⟩ := ht
  exact wpList_wanted hgd fun _ hK => wp_load_row t x ho g hx t0 cs.toArray (0, 0) d hw hd (by cases d <;> first | rfl | exact hm) (by rw [hs]; simp [hz]) (hK _ _ h)
theorem cells_store {t : TypeId} {n : Nat} (ht : FlatT P t n) (x y : Operand) (hgd : o.guard = none) (ho : o.op = .store t x y) (g : Nat) (hx : a.eval x = .pointer (some ⟨g, 0, none⟩)) (cs : List Value) (hz : cs.length = n) (h1 : ∀ v ∈ cs, v.oneCell' = true) (hy : a.eval y = .agg cs.toArray) (t0 : TypeId)
    (old : List Value) (hw : Whole w g t0 old) (hold : old.length = n) (h : ∀ w', Whole w' g t0 cs → Only [g] w w' → wpList P ops Q rest (a.put o.dst undef) w') : wpList P ops Q (o :: rest) a w :=
  wpList_plain hgd fun K hK => wp_store_row t x y ho g cs.toArray hx hy t0 old.toArray hw (by rw [ht.2]; simp [hz]) (by simp [hz, hold]) (cells_one h1)
    (hK _ _ (h _ (setRow_heap w g _ _ _ _ hw) ⟨rfl, rfl, rfl, by simp, fun k _ hk => setRow_other w g k _ (by simpa using hk)⟩))
theorem cells_gives {t : TypeId} {n : Nat} (ht : FlatT P t n) {o : Oper} {a : Act} {w : World} (x : Operand) (ho : o.op = .load t x) (g : Nat) (hx : a.eval x = .pointer (some ⟨g, 0, none⟩)) (cs : List Value) (hz : cs.length = n) (t0 : TypeId)
    (hw : Whole w g t0 cs) : gives P o a w fun u _ => u = .agg cs.toArray := by
  obtain ⟨⟨d, hd', hm⟩, hs⟩ := ht
  have hr := run_loadVar_row (P := P) w g t0 t cs.toArray (0, 0) d hw hd' (by cases d <;> first | rfl | exact hm) (by rw [hs]; simp [hz])
  unfold gives execOp
  simp only [ho, hx, Instr.loadAt, Instr.sureAddr, Sem.run_bind, Sem.run_pure, Result.andThen_ok, hr]
  exact ⟨Behind.refl w, trivial⟩
theorem cells_end {t : TypeId} {n : Nat} (ht : FlatT P t n) {fn : Func} {p : Tmp} {R : Ending → World → Prop} (hr : fn.results = #[.cell p t]) (g : Nat) (hp : a.tmps.getD p undef = .pointer (some ⟨g, 0, none⟩)) (cs : List Value) (hz : cs.length = n) (t0 : TypeId)
    (hw : Whole w g t0 cs) (hd : a.defers = []) (hR : R (.returned (.agg cs.toArray)) w) : bodyPost P fn R .ret a w := by
  obtain ⟨⟨d, hd', hm⟩, hs⟩ := ht
  exact bodyPost_ret (v := .agg cs.toArray) (results_cell_row hr a.tmps w g t0 cs.toArray (0, 0) d hp hw hd' (by cases d <;> first | rfl | exact hm) (by rw [hs]; simp [hz])) hd hR
theorem cells_end2 {t : TypeId} {n : Nat} (ht : FlatT P t n) {fn : Func} {p u : Tmp} {R : Ending → World → Prop} (hr : fn.results = #[.cell p t, .tmp u]) (g : Nat) (hp : a.tmps.getD p undef = .pointer (some ⟨g, 0, none⟩)) (cs : List Value) (hz : cs.length = n) (t0 : TypeId)
    (hw : Whole w g t0 cs) (hd : a.defers = []) (hR : R (.returned (.tuple #[.agg cs.toArray, a.tmps.getD u undef])) w) : bodyPost P fn R .ret a w := by
  obtain ⟨⟨d, hd', hm⟩, hs⟩ := ht
  have h1 := run_loadVar_row (P := P) w g t0 t cs.toArray (0, 0) d hw hd' (by cases d <;> first | rfl | exact hm) (by rw [hs]; simp [hz])
  exact bodyPost_ret (v := .tuple #[.agg cs.toArray, a.tmps.getD u undef]) (by rw [results_cell_tmp hr, hp]; simp [asAddr, h1, Result.andThen]) hd hR
theorem cells_build (t : TypeId) (parts : Array (Nat × Operand)) (hgd : o.guard = none) (ho : o.op = .build t parts) (cs : List Value) (hf : P.built t (parts.map fun (i, x) => (i, a.eval x)).toList = some cs.toArray) (h : wpList P ops Q rest (a.put o.dst (.agg cs.toArray)) w) : wpList P ops Q (o :: rest) a w :=
  wpList_plain hgd fun K hK => wp_build t parts ho (by rw [hf]; rfl) (by rw [hf]; exact hK _ _ h)
theorem cells_buildW (t : TypeId) (parts : Array (Nat × Operand)) (hgd : Region.wanted o (yielded ops a.tmps) = true) (ho : o.op = .build t parts) (cs : List Value) (hf : P.built t (parts.map fun (i, x) => (i, a.eval x)).toList = some cs.toArray) (h : wpList P ops Q rest (a.put o.dst (.agg cs.toArray)) w) : wpList P ops Q (o :: rest) a w :=
  wpList_wanted hgd fun K hK => wp_build t parts ho (by rw [hf]; rfl) (by rw [hf]; exact hK _ _ h)
theorem built_gives {o : Oper} {a : Act} {w : World} (t : TypeId) (parts : Array (Nat × Operand)) (ho : o.op = .build t parts) (cells : Array Value) (hf : P.built t (parts.map fun (i, x) => (i, a.eval x)).toList = some cells) : gives P o a w fun u _ => u = .agg cells := by
  unfold gives execOp
  simp only [ho, Sem.run_bind, run_build w t _ cells hf, Result.andThen_ok, Sem.run_pure]
  exact ⟨Behind.refl w, trivial⟩
end
end Go.Proofs.Ytncaichachipkaa
/- gaug.Wide. -/
namespace Go.Proofs.Ytncaichachipkaa
open Go Go.RowKit
set_option linter.unusedVariables false
set_option linter.unusedSimpArgs false
set_option maxRecDepth 20000
set_option maxHeartbeats 4000000

theorem gheld_any (n : Int) (w : World) : Calls Try.prog 44 #[.int .i64 n] w fun e w' => e = .returned (.int .i64 (advZ n)) ∧ w = w' := by
  rcases (show n < 0 ∨ (n = 0) ∨ (0 < n ∧ n ≤ 65536) ∨ 65536 < n by omega) with h | h | ⟨h, h'⟩ | h
  all_goals
    go_enter Try.func44, Try.ntmps44
    go_wp2
    all_goals (go_ret; exact ⟨ret_int (by unfold advZ; omega), rfl⟩)
theorem wide_any (zs : List Int) (hz : zs.length = 256) (s : ByteArray) (hs : s.size ≤ 1000000) (W : World) :
    Calls Try.prog 41 #[.agg (i64s zs).toArray, .string s] W fun e w' => e = .returned (.int .i64 (wideZ zs s)) ∧ Below W.heap.size W w' := by
  have HZ := Lib.hid hz
  clear hz
  have MW := Lib.hid (Whole.mk W 25 (i64s zs).toArray)
  go_enter Try.func41, Try.ntmps41
  go_wp2
  go_loop [5, 6, 9] (fun t v i => ∃ k : Nat, k ≤ s.size ∧ i = .int .i64 k ∧ t = .int .i64 (wideL zs ((bytesOf s).take k))) (fun _ _ i => s.size - (intOf i).toNat)
  case atStart => exact ⟨0, Nat.zero_le _, rfl, by simp [wideL]⟩
  case round =>
    obtain ⟨k, hk, rfl, rfl⟩ := hrel
    by_cases hlt : k < s.size
    · have hs2 := Lib.hid (wideL_take zs s k hlt)
      obtain ⟨b1, b2⟩ := wideL_bd zs ((bytesOf s).take k)
      have b3 : ((bytesOf s).take k).length ≤ 1000000 := by rw [List.length_take, bytesOf_length]; omega
      have hby : (s[k].toNat : Int) < 256 := by have := s[k].toNat_lt; omega
      have hc := MW.out.num s[k].toNat (by rw [HZ.out]; omega)
      obtain ⟨b4, b5⟩ := advZ_bd (zs.getD s[k].toNat 0)
      generalize zs.getD s[k].toNat 0 = z at *
      generalize wideL zs ((bytesOf s).take k) = t at *
      go_wp2_with (go_at_call 44; refine (gheld_any _ _).mono ?_; rintro e w' ⟨rfl, rfl⟩)
      go_round
      case rel => exact ⟨k + 1, by omega, by go_num, by rw [hs2.out]⟩
      case measure => simp [intOf]; omega
    · go_wp2
      obtain rfl : k = s.size := by omega
      go_ret
      exact ⟨ret_int (wideL_all zs s), (Below.refl _ _).alloc (Nat.le_refl _) _⟩
end Go.Proofs.Ytncaichachipkaa
/- Glyphs, byte by byte: what is left to do. No program is named here. -/
namespace Go.Proofs.Ytncaichachipkaa
open Go Go.RowKit
set_option linter.unusedVariables false
set_option linter.unusedSimpArgs false

def lastB (l : List Gl) : Bool := (l.getLast?.map isB).getD false
theorem lastB_nil : lastB [] = false := rfl
theorem lastB_push (l : List Gl) (g : Gl) : lastB (l ++ [g]) = isB g := by simp [lastB]
theorem lastB_at (l : List Gl) (m : Nat) (h : l.length = m + 1) : lastB l = isB (l[m]'(by omega)) := by
  have e : l.getLast? = some (l[m]'(by omega)) := by
    rw [List.getLast?_eq_getElem?, List.getElem?_eq_getElem (by omega)]
    simp [h]
  simp [lastB, e]
/-- .. behind cur, of a run from byte k on, and of the rest. -/
def leftI (zs : List Int) (r w : Int) (l : List UInt8) (rest : List Gl) (k : Nat) (cur : List Gl) : List Gl := cur ++ colG (lastB cur) (rawRun zs r w k (l.drop k) ++ rest)
def leftO (zs : List Int) (rs : List Rn) (r : Nat) (cur : List Gl) : List Gl := cur ++ colG (lastB cur) (rawAll zs r (rs.drop r))
theorem leftI_step (zs : List Int) (r w : Int) (l : List UInt8) (rest : List Gl) (k : Nat) (cur : List Gl) (h : k < l.length) (g : Gl) (hg : g = rawG zs r w k l[k]) :
    ((lastB cur && isB g) = true → leftI zs r w l rest k cur = leftI zs r w l rest (k + 1) cur) ∧ ((lastB cur && isB g) = false → leftI zs r w l rest k cur = leftI zs r w l rest (k + 1) (cur ++ [g])) := by
  subst hg
  unfold leftI
  rw [List.drop_eq_getElem_cons h, rawRun, List.cons_append, colG, show ((k : Int) + 1) = ((k + 1 : Nat) : Int) by omega]
  constructor
  · intro hb
    rw [if_pos hb]
    rw [Bool.and_eq_true] at hb
    rw [hb.1]
  · intro hb
    rw [if_neg (by rw [hb]; decide), lastB_push]
    simp
theorem leftI_end (zs : List Int) (rs : List Rn) (r : Nat) (h : r < rs.length) (cur : List Gl) : leftI zs r rs[r].white (bytesOf rs[r].text) (rawAll zs ((r + 1 : Nat) : Int) (rs.drop (r + 1))) rs[r].text.size cur = leftO zs rs (r + 1) cur := by
  unfold leftI leftO
  rw [List.drop_of_length_le (by rw [bytesOf_length]; exact Nat.le_refl _)]
  rfl
theorem leftO_start (zs : List Int) (rs : List Rn) (r : Nat) (h : r < rs.length) (cur : List Gl) : leftO zs rs r cur = leftI zs r rs[r].white (bytesOf rs[r].text) (rawAll zs ((r + 1 : Nat) : Int) (rs.drop (r + 1))) 0 cur := by
  unfold leftI leftO
  rw [List.drop_eq_getElem_cons h, rawAll]
  rfl
theorem leftO_zero (zs : List Int) (rs : List Rn) : leftO zs rs 0 [] = colG false (rawAll zs 0 rs) := rfl
theorem leftO_end (zs : List Int) (rs : List Rn) (cur : List Gl) : leftO zs rs rs.length cur = cur := by
  unfold leftO; rw [List.drop_of_length_le (Nat.le_refl _)]; simp [rawAll, colG]
theorem leftI_len (zs : List Int) (r w : Int) (l : List UInt8) (rest : List Gl) (k : Nat) (cur T : List Gl) (h : leftI zs r w l rest k cur = T) : cur.length ≤ T.length := by
  rw [← h]; unfold leftI; simp
theorem colAll_length (zs : List Int) (rs : List Rn) : (colG false (rawAll zs 0 rs)).length ≤ sizeAll rs := by
  rw [← rawAll_length zs rs 0]; exact (colG_sub _ _).length_le
/- The second round. -/
def edgeB (T : List Gl) (i : Nat) : Bool := decide (i = 0) || decide ((T.getD (i - 1) ⟨0, 0, 0, 0⟩).kind = 4)
def leftT (T : List Gl) (i : Nat) (out : List Gl) : List Gl := out ++ trimG (edgeB T i) (T.drop i)
theorem leftT_zero (T : List Gl) : leftT T 0 [] = trimG true T := by simp [leftT, edgeB]
theorem leftT_end (T out : List Gl) : leftT T T.length out = out := by
  unfold leftT; rw [List.drop_of_length_le (Nat.le_refl _)]; simp [trimG]
theorem endsG_drop (T : List Gl) (i : Nat) (h : i < T.length) : endsG (T.drop (i + 1)) = (decide (i + 1 = T.length) || decide ((T.getD (i + 1) ⟨0, 0, 0, 0⟩).kind = 4)) := by
  by_cases he : i + 1 < T.length
  · rw [List.drop_eq_getElem_cons he]
    simp only [endsG, List.getD, List.getElem?_eq_getElem he, Option.getD_some]
    rw [decide_eq_false (show ¬ i + 1 = T.length by omega)]
    simp
  · rw [List.drop_of_length_le (by omega)]
    simp only [endsG]
    rw [decide_eq_true (show i + 1 = T.length by omega)]
    simp
/-- .. the test at place i, in the program's order. -/
def testB (T : List Gl) (i : Nat) : Bool := decide (i = 0) || decide (i + 1 = T.length) || decide ((T.getD (i - 1) ⟨0, 0, 0, 0⟩).kind = 4) || decide ((T.getD (i + 1) ⟨0, 0, 0, 0⟩).kind = 4)
theorem leftT_step (T out : List Gl) (i : Nat) (h : i < T.length) :
    ((isB T[i] && testB T i) = true → leftT T i out = leftT T (i + 1) out) ∧ ((isB T[i] && testB T i) = false → leftT T i out = leftT T (i + 1) (out ++ [T[i]])) := by
  have e1 : edgeB T (i + 1) = decide (T[i].kind = 4) := by
    simp [edgeB, List.getD, List.getElem?_eq_getElem h]
  have e2 : (edgeB T i || endsG (T.drop (i + 1))) = testB T i := by
    rw [endsG_drop T i h]
    unfold edgeB testB
    cases decide (i = 0) <;> cases decide (i + 1 = T.length) <;> cases decide ((T.getD (i - 1) ⟨0, 0, 0, 0⟩).kind = 4) <;> simp
  unfold leftT
  rw [List.drop_eq_getElem_cons h, trimG, e2, e1]
  constructor
  · intro hb; rw [if_pos hb]
  · intro hb; rw [if_neg (by rw [hb]; decide)]; simp
theorem testB_first (T : List Gl) : testB T 0 = true := by simp [testB]
theorem testB_last (T : List Gl) (i : Nat) (h : i + 1 = T.length) : testB T i = true := by simp [testB, h]
theorem testB_mid (T : List Gl) (q : Nat) (h : q + 2 < T.length) : testB T (q + 1) = (decide (T[q].kind = 4) || decide (T[q + 2].kind = 4)) := by
  unfold testB
  rw [decide_eq_false (show ¬ q + 1 = 0 by omega), decide_eq_false (show ¬ q + 1 + 1 = T.length by omega)]
  simp [List.getD, List.getElem?_eq_getElem (show q < T.length by omega), List.getElem?_eq_getElem h]
theorem leftT_len (T out F : List Gl) (i : Nat) (h : leftT T i out = F) : out.length ≤ F.length := by
  rw [← h]; unfold leftT; simp
end Go.Proofs.Ytncaichachipkaa
/- Glyphs, one by one, with a row of blanks that waits: what is left to do. No program is named here. -/
namespace Go.Proofs.Ytncaichachipkaa
open Go Go.RowKit
set_option linter.unusedVariables false
set_option linter.unusedSimpArgs false

structure Wr where
  cur : List Gl
  row : Gl
abbrev gl0 : Gl := ⟨0, 0, 0, 0⟩
/-- There is a glyph ahead, and it is no break. -/
def onL (l : List Gl) : Bool := (l.getLast?.map fun g => !decide (g.kind = 4)).getD false
theorem onL_nil : onL [] = false := rfl
theorem onL_push (l : List Gl) (g : Gl) : onL (l ++ [g]) = !decide (g.kind = 4) := by simp [onL]
theorem onL_push2 (l : List Gl) (a g : Gl) : onL (l ++ [a, g]) = !decide (g.kind = 4) := by simp [onL]
theorem onL_at (l : List Gl) (m : Nat) (h : l.length = m + 1) : onL l = !decide ((l[m]'(by omega)).kind = 4) := by
  have e : l.getLast? = some (l[m]'(by omega)) := by
    rw [List.getLast?_eq_getElem?, List.getElem?_eq_getElem (by omega)]
    simp [h]
  simp [onL, e]
def addW (s : Wr) (g : Gl) : Wr :=
  if isB g then (if s.row.kind = 0 then ⟨s.cur, g⟩ else s)
  else if (decide (g.kind = 1) && !decide (s.row.kind = 0) && onL s.cur) = true then ⟨s.cur ++ [s.row] ++ [g], gl0⟩
  else ⟨s.cur ++ [g], gl0⟩
/-- What waits: nothing, or a blank. -/
def OkW (s : Wr) : Prop := s.row = gl0 ∨ isB s.row = true
def leftW (s : Wr) (l : List Gl) : List Gl := s.cur ++ trimG (!onL s.cur) (if s.row.kind = 0 then colG false l else s.row :: colG true l)
theorem isB_kind {g : Gl} (h : isB g = true) : g.kind = 2 ∨ g.kind = 3 := by simpa [isB] using h
theorem isB_no {g : Gl} (h : isB g = false) : g.kind ≠ 2 ∧ g.kind ≠ 3 := by simpa [isB] using h
theorem addW_ok (s : Wr) (g : Gl) (h : OkW s) : OkW (addW s g) := by
  unfold addW
  split
  · split
    · exact .inr (by assumption)
    · exact h
  · split <;> exact .inl rfl
theorem addW_left (s : Wr) (g : Gl) (l : List Gl) (h : OkW s) (hk : g.kind = 1 ∨ g.kind = 2 ∨ g.kind = 3 ∨ g.kind = 4) : leftW s (g :: l) = leftW (addW s g) l := by
  obtain ⟨cur, row⟩ := s
  unfold addW leftW
  cases hb : isB g with
  | true =>
    have hb' := isB_kind hb
    simp only [if_true]
    by_cases h0 : row.kind = 0
    · have hg : ¬ g.kind = 0 := by omega
      simp only [h0, if_true, if_neg hg]
      simp [colG, hb]
    · simp only [if_neg h0]
      simp [colG, hb]
  | false =>
    have hb' := isB_no hb
    simp only [Bool.false_eq_true, if_false]
    by_cases h0 : row.kind = 0
    · have hg : g.kind = 1 ∨ g.kind = 4 := by omega
      simp only [h0, if_true, decide_true, Bool.not_true, Bool.and_false, Bool.false_and, Bool.false_eq_true, if_false]
      simp [colG, hb, trimG, onL_push]
    · have hr : isB row = true := by
        rcases h with h | h
        · exact absurd (by rw [show row = gl0 from h]) h0
        · exact h
      have hr4 : ¬ row.kind = 4 := by have := isB_kind hr; omega
      by_cases h1 : g.kind = 1
      · have h4 : ¬ g.kind = 4 := by omega
        cases ho : onL cur with
        | true => simp [h0, h1, ho, colG, hb, trimG, onL_push2, hr, hr4, h4, endsG]
        | false => simp [h0, h1, ho, colG, hb, trimG, onL_push, hr, hr4, h4, endsG]
      · have h4 : g.kind = 4 := by omega
        simp [h0, h1, h4, colG, hb, trimG, onL_push, hr, hr4, endsG]
theorem leftW_nil (s : Wr) (h : OkW s) : leftW s [] = s.cur := by
  obtain ⟨cur, row⟩ := s
  unfold leftW
  by_cases h0 : row.kind = 0
  · simp [h0, colG, trimG]
  · have hr : isB row = true := by
      rcases h with h | h
      · exact absurd (by rw [show row = gl0 from h]) h0
      · exact h
    simp [h0, colG, trimG, hr, endsG]
theorem leftW_zero (zs : List Int) (rs : List Rn) : leftW ⟨[], gl0⟩ (rawAll zs 0 rs) = glyphsL zs rs := by simp [leftW, onL, glyphsL]
/-- .. behind byte k of a run, and of the rest. -/
def wLeft (zs : List Int) (r w : Int) (l : List UInt8) (rest : List Gl) (k : Nat) (s : Wr) : List Gl := leftW s (rawRun zs r w k (l.drop k) ++ rest)
def wOut (zs : List Int) (rs : List Rn) (r : Nat) (s : Wr) : List Gl := leftW s (rawAll zs r (rs.drop r))
theorem wLeft_step (zs : List Int) (r w : Int) (l : List UInt8) (rest : List Gl) (k : Nat) (s : Wr) (hs : OkW s) (h : k < l.length) : wLeft zs r w l rest k s = wLeft zs r w l rest (k + 1) (addW s (rawG zs r w k l[k])) := by
  unfold wLeft
  rw [List.drop_eq_getElem_cons h, rawRun, List.cons_append, addW_left s _ _ hs (rawG_kind zs r w k l[k]), show ((k : Int) + 1) = ((k + 1 : Nat) : Int) by omega]
theorem wLeft_end (zs : List Int) (rs : List Rn) (r : Nat) (h : r < rs.length) (s : Wr) : wLeft zs r rs[r].white (bytesOf rs[r].text) (rawAll zs ((r + 1 : Nat) : Int) (rs.drop (r + 1))) rs[r].text.size s = wOut zs rs (r + 1) s := by
  unfold wLeft wOut
  rw [List.drop_of_length_le (by rw [bytesOf_length]; exact Nat.le_refl _)]
  rfl
theorem wOut_start (zs : List Int) (rs : List Rn) (r : Nat) (h : r < rs.length) (s : Wr) : wOut zs rs r s = wLeft zs r rs[r].white (bytesOf rs[r].text) (rawAll zs ((r + 1 : Nat) : Int) (rs.drop (r + 1))) 0 s := by
  unfold wLeft wOut
  rw [List.drop_eq_getElem_cons h, rawAll]
  rfl
theorem wOut_zero (zs : List Int) (rs : List Rn) : wOut zs rs 0 ⟨[], gl0⟩ = glyphsL zs rs := leftW_zero zs rs
theorem wOut_end (zs : List Int) (rs : List Rn) (s : Wr) (h : OkW s) : wOut zs rs rs.length s = s.cur := by
  unfold wOut; rw [List.drop_of_length_le (Nat.le_refl _)]; exact leftW_nil s h
theorem wLeft_len (zs : List Int) (r w : Int) (l : List UInt8) (rest : List Gl) (k : Nat) (s : Wr) (F : List Gl) (h : wLeft zs r w l rest k s = F) : s.cur.length ≤ F.length := by
  rw [← h]; unfold wLeft leftW; simp
/-- The kind of a byte's glyph, and how far it leads by it. -/
def kindZ (wh : Int) (b : UInt8) : Int := if wh = 2 then (if (b.toNat : Int) = 10 then 4 else 1) else if isW b then (if wh = 1 then 3 else 2) else 1
def kindAdv (zs : List Int) (k : Int) (s : ByteArray) : Int := if k = 4 then 0 else if k = 2 ∨ k = 3 then wideZ zs ⟨#[32]⟩ else wideZ zs s
theorem rawG_parts (zs : List Int) (r w : Int) (k : Nat) (s : ByteArray) (h : k < s.size) : (⟨kindZ w s[k], r, k, kindAdv zs (kindZ w s[k]) (s.extract k (k + 1))⟩ : Gl) = rawG zs r w k s[k] := by
  have e1 : wideZ zs ⟨#[32]⟩ = atZ zs 32 := by simp [wideZ, wideL, bytesOf]
  have e2 := wideZ_one zs s k h
  unfold rawG kindZ kindAdv
  rw [e1, e2]
  by_cases hw : w = 2
  · by_cases h10 : (s[k].toNat : Int) = 10
    · simp [hw, h10]
    · simp [hw, h10, atZ]
  · cases hb : isW s[k]
    · simp [hw, atZ]
    · by_cases h1 : w = 1 <;> simp [hw, h1]
end Go.Proofs.Ytncaichachipkaa
/- whit: kind, isWhite, adv. -/
namespace Go.Proofs.Ytncaichachipkaa
open Go Go.RowKit
set_option linter.unusedVariables false
set_option linter.unusedSimpArgs false
set_option maxRecDepth 20000
set_option maxHeartbeats 4000000

theorem wwhite_any (b : UInt8) (w : World) : Calls Try.prog 40 #[.int .u8 b.toNat] w fun e w' => e = .returned (.bool (isW b)) ∧ w = w' := by
  have hc := isW_cases b
  generalize isW b = v at *
  rcases hc with ⟨h1, rfl⟩ | ⟨h1, h2, rfl⟩ | ⟨h1, h2, h3, rfl⟩ | ⟨h1, h2, h3, h4, rfl⟩ | ⟨h1, h2, h3, h4, rfl⟩
  all_goals
    go_enter Try.func40, Try.ntmps40
    go_wp2
    go_ret
    exact ⟨rfl, rfl⟩
theorem kindZ_cases (wh : Int) (b : UInt8) : ((wh == 2) = true ∧ ((b.toNat : Int) == 10) = true ∧ kindZ wh b = 4) ∨ ((wh == 2) = true ∧ ((b.toNat : Int) == 10) = false ∧ kindZ wh b = 1) ∨
    ((wh == 2) = false ∧ isW b = false ∧ kindZ wh b = 1) ∨ ((wh == 2) = false ∧ isW b = true ∧ (wh == 1) = true ∧ kindZ wh b = 3) ∨ ((wh == 2) = false ∧ isW b = true ∧ (wh == 1) = false ∧ kindZ wh b = 2) := by
  unfold kindZ
  simp only [beq_iff_eq, beq_eq_false_iff_ne]
  by_cases h2 : wh = 2
  · by_cases h10 : (b.toNat : Int) = 10 <;> simp [h2, h10]
  · cases hb : isW b
    · simp [h2]
    · by_cases h1 : wh = 1 <;> simp [h2, h1]
theorem kind_any (wh : Int) (b : UInt8) (w : World) : Calls Try.prog 32 #[.int .u8 b.toNat, .int .i64 wh] w fun e w' => e = .returned (.int .i64 (kindZ wh b)) ∧ w = w' := by
  have hc := kindZ_cases wh b
  have CW := Lib.hid (fun w => wwhite_any b w)
  generalize kindZ wh b = v at *
  rcases hc with ⟨h1, h2, rfl⟩ | ⟨h1, h2, rfl⟩ | ⟨h1, h2, rfl⟩ | ⟨h1, h2, h3, rfl⟩ | ⟨h1, h2, h3, rfl⟩
  · go_enter Try.func32, Try.ntmps32
    go_wp2
    go_ret
    exact ⟨rfl, rfl⟩
  · go_enter Try.func32, Try.ntmps32
    go_wp2
    go_ret
    exact ⟨rfl, rfl⟩
  all_goals
    rw [h2] at CW
    go_enter Try.func32, Try.ntmps32
    go_wp2_with fail
    refine (CW.out _).mono ?_
    rintro e w' ⟨rfl, rfl⟩
    go_wp2
    go_ret
    exact ⟨rfl, rfl⟩
theorem kindAdv_cases (zs : List Int) (k : Int) (s : ByteArray) (hk : k = 1 ∨ k = 2 ∨ k = 3 ∨ k = 4) : (k = 4 ∧ kindAdv zs k s = 0) ∨ (k = 2 ∧ kindAdv zs k s = wideZ zs ⟨#[32]⟩) ∨ (k = 3 ∧ kindAdv zs k s = wideZ zs ⟨#[32]⟩) ∨ (k = 1 ∧ kindAdv zs k s = wideZ zs s) := by
  unfold kindAdv
  rcases hk with rfl | rfl | rfl | rfl <;> simp
theorem kindZ_in (wh : Int) (b : UInt8) : kindZ wh b = 1 ∨ kindZ wh b = 2 ∨ kindZ wh b = 3 ∨ kindZ wh b = 4 := by
  unfold kindZ
  split
  · split <;> simp
  · split
    · split <;> simp
    · simp
theorem wadv_any (zs : List Int) (hz : zs.length = 256) (k : Int) (hk : k = 1 ∨ k = 2 ∨ k = 3 ∨ k = 4) (s : ByteArray) (hs : s.size ≤ 1000000) (M : Nat) (W : World) (hm : Whole W M 25 (i64s zs)) :
    Calls Try.prog 33 #[.pointer (some ⟨M, 0, none⟩), .int .i64 k, .string s] W fun e w' => e = .returned (.int .i64 (kindAdv zs k s)) ∧ Below W.heap.size W w' := by
  have HM := Lib.hid hm
  have hc := kindAdv_cases zs k s hk
  have C1 := Lib.hid (fun w => wide_any zs hz s hs w)
  have C2 := Lib.hid (fun w => wide_any zs hz ⟨#[32]⟩ (by decide) w)
  have HZ := Lib.hid hz
  clear hm hz
  generalize kindAdv zs k s = v at *
  rcases hc with ⟨rfl, rfl⟩ | ⟨rfl, rfl⟩ | ⟨rfl, rfl⟩ | ⟨rfl, rfl⟩
  · go_enter Try.func33, Try.ntmps33
    go_wp2
    go_ret
    exact ⟨rfl, Below.refl _ _⟩
  · go_enter Try.func33, Try.ntmps33
    go_wp2_with (refine flat_load met_flat (.tmp 14) rfl rfl M rfl zs HZ.out 25 HM.out ?_)
    refine (C2.out _).mono ?_
    rintro e w' ⟨rfl, hb⟩
    go_wp2
    go_ret
    exact ⟨rfl, hb⟩
  · go_enter Try.func33, Try.ntmps33
    go_wp2_with (refine flat_load met_flat (.tmp 14) rfl rfl M rfl zs HZ.out 25 HM.out ?_)
    refine (C2.out _).mono ?_
    rintro e w' ⟨rfl, hb⟩
    go_wp2
    go_ret
    exact ⟨rfl, hb⟩
  · go_enter Try.func33, Try.ntmps33
    go_wp2_with (refine flat_load met_flat (.tmp 14) rfl rfl M rfl zs HZ.out 25 HM.out ?_)
    refine (C1.out _).mono ?_
    rintro e w' ⟨rfl, hb⟩
    go_wp2
    go_ret
    exact ⟨rfl, hb⟩
end Go.Proofs.Ytncaichachipkaa
/- 'append' onto a row of the call's own, its place told: the old block, or a new one. No program is named here. -/
namespace Go.Proofs.Ytncaichachipkaa
set_option linter.unusedVariables false
set_option linter.unusedSimpArgs false
open Go.RowKit

theorem own_raise {w : World} {b b' e size : Nat} {v : Value} {n : Nat} {xs : List Value} (h : w.ownsRow b e size v n xs) (hb : ∀ g, v.ownBlock = some g → b' ≤ g) : w.ownsRow b' e size v n xs := by
  refine ⟨h.1, ?_⟩
  rcases h.2 with h0 | ⟨g, cap, cur, hv, hg, rest⟩
  · exact .inl h0
  · exact .inr ⟨g, cap, cur, hv, hb g (by simp [hv, Value.ownBlock]), rest⟩
theorem own_zero {w : World} {b e size : Nat} {v : Value} {n : Nat} {xs : List Value} (h : w.ownsRow b e size v n xs) : w.ownsRow 0 e size v n xs := own_raise h fun _ _ => Nat.zero_le _
theorem own_low {w : World} {b e size : Nat} {v : Value} {n : Nat} {xs : List Value} (h : w.ownsRow b e size v n xs) : ∀ g, v.ownBlock = some g → b ≤ g := fun g hg => (h.lt g hg).1
theorem wpList_pushB {ops : Array Oper} {rest : List Oper} {o : Oper} {a : Act} {w : World} {Q : Exit → Act → World → Prop} {P : Program} (hw : Region.wanted o (yielded ops a.tmps) = true) (s x : Operand) (t : TypeId)
    (ho : o.op = .call { callee := .builtin .append, args := #[s, x], argTypes := #[t, t] })
    (base e size bytes : Nat) (z : Value) (ht : P.underlying t = some (.slice e)) (hinfo : (P.info? e).map (fun i => (i.zero, i.size, i.bytes)) = some (some z, size, bytes))
    (hzs : z.cells.size = size) (hsz : 0 < size) (n : Nat) (v : Value) (xs : List Value) (hs : a.eval s = v) (hown : w.ownsRow base e size v n xs) (hbase : base ≤ w.heap.size)
    (ad : Addr) (m c : Nat) (news : List Value) (hx : a.eval x = .slice (some ad) m c) (hl : news.length = m * size) (hm : 0 < m) (hnews : ∀ j u, news[j]? = some u → w.cell? (ad.add j) = some u) (h1 : ∀ u ∈ news, u.oneCell' = true)
    (h63 : n + m ≤ maxLen) (hbytes : (n + m) * bytes ≤ 140737488355328)
    (h : ∀ A' c' w', w'.ownsRow base e size (.slice A' (n + m) c') (n + m) (xs ++ news) → Only v.ownBlock.toList w w' → (∀ g, (Value.slice A' (n + m) c').ownBlock = some g → v.ownBlock = some g ∨ w.heap.size ≤ g) → wpList P ops Q rest (a.put o.dst (.slice A' (n + m) c')) w') : wpList P ops Q (o :: rest) a w :=
  wpList_wanted hw fun K hK => by
    obtain ⟨v', w', hr, h2, h3, h4⟩ := run_push (P := P) (w := w) t o.type z ht hinfo hzs hsz v (own_zero hown) ad m c news hl hm hnews h1 h63 hbytes
    obtain ⟨A', c', rfl, _⟩ := owns_nil h2
    have h5 := own_raise (b' := base) h2 fun g hg => by
      rcases h4 g hg with h6 | h6
      · exact own_low hown g h6
      · omega
    unfold Oper.wp execOp
    simp only [ho, resolve, invoke, builtin, Sem.run_bind, Sem.run_pure, Result.andThen_ok, List.map_toArray, List.map_cons, List.map_nil, hs, hx, hr]
    exact hK _ _ (h A' c' w' h5 (Only.of_grown h3) h4)
/-- One element of a literal that was just made. -/
theorem wpList_pushOne {ops : Array Oper} {rest : List Oper} {o : Oper} {a : Act} {w : World} {Q : Exit → Act → World → Prop} {P : Program} (hw : Region.wanted o (yielded ops a.tmps) = true) (s x : Operand) (t : TypeId)
    (ho : o.op = .call { callee := .builtin .append, args := #[s, x], argTypes := #[t, t] })
    (base e size bytes : Nat) (z : Value) (ht : P.underlying t = some (.slice e)) (hinfo : (P.info? e).map (fun i => (i.zero, i.size, i.bytes)) = some (some z, size, bytes))
    (hzs : z.cells.size = size) (hsz : 0 < size) (n : Nat) (v : Value) (xs : List Value) (hs : a.eval s = v) (hown : w.ownsRow base e size v n xs) (hbase : base ≤ w.heap.size)
    (g : Nat) (news : List Value) (hx : a.eval x = .slice (some ⟨g, 0, none⟩) 1 1) (hg : Whole w g e news) (hl : news.length = size) (h1 : ∀ u ∈ news, u.oneCell' = true)
    (h63 : n + 1 ≤ maxLen) (hbytes : (n + 1) * bytes ≤ 140737488355328)
    (h : ∀ A' c' w', w'.ownsRow base e size (.slice A' (n + 1) c') (n + 1) (xs ++ news) → Only v.ownBlock.toList w w' → (∀ g, (Value.slice A' (n + 1) c').ownBlock = some g → v.ownBlock = some g ∨ w.heap.size ≤ g) → wpList P ops Q rest (a.put o.dst (.slice A' (n + 1) c')) w') : wpList P ops Q (o :: rest) a w :=
  wpList_pushB hw s x t ho base e size bytes z ht hinfo hzs hsz n v xs hs hown hbase ⟨g, 0, none⟩ 1 1 news hx (by omega) (by decide) (fun j u hu => by rw [head_add, hg.cell j]; exact hu) h1 h63 hbytes h
theorem own_push {W w w' : World} {B : Nat} {v : Value} {e size n : Nat} {xs : List Value} (ho : w.ownsRow B e size v n xs) (hB : Below B W w) (hw : B ≤ w.heap.size) (h : Only v.ownBlock.toList w w') : Below B W w' :=
  hB.trans (h.below (fun x hx => (ho.lt x (by simpa using hx)).1) hw)
end Go.Proofs.Ytncaichachipkaa
/- slices.Index, slices.Contains: numbers. -/
namespace Go.Proofs.Ytncaichachipkaa
open Go Go.RowKit
set_option linter.unusedVariables false
set_option linter.unusedSimpArgs false
set_option maxRecDepth 20000
set_option maxHeartbeats 4000000

def idxZ (v : Int) (l : List Int) : Int := match l.findIdx? (· == v) with | none => -1 | some k => k
theorem idxZ_in (v : Int) (l : List Int) : decide (0 ≤ idxZ v l) = l.contains v := by
  unfold idxZ
  cases h : l.findIdx? (· == v) with
  | none =>
    rw [List.findIdx?_eq_none_iff] at h
    have : l.contains v = false := by
      rw [Bool.eq_false_iff]; intro hc
      rw [List.contains_iff_mem] at hc
      have := h v hc
      simp at this
    rw [this]; rfl
  | some k =>
    rw [List.findIdx?_eq_some_iff_getElem] at h
    obtain ⟨h1, h2, _⟩ := h
    have : l.contains v = true := by
      rw [List.contains_iff_mem]
      have e : l[k] = v := by simpa using h2
      rw [← e]; exact List.getElem_mem h1
    rw [this]; simp
theorem idxZ_at (v : Int) (l : List Int) (k : Nat) (hk : k < l.length) (h0 : ∀ j (h : j < l.length), j < k → (v == l[j]) = false) (h : (v == l[k]) = true) : idxZ v l = k := by
  have : l.findIdx? (· == v) = some k := by
    rw [List.findIdx?_eq_some_iff_getElem]
    refine ⟨hk, by rw [beq_iff_eq] at h ⊢; exact h.symm, fun j hj => ?_⟩
    have := h0 j (by omega) hj
    rw [beq_eq_false_iff_ne] at this
    simpa using fun e => this e.symm
  unfold idxZ; rw [this]
theorem idxZ_none (v : Int) (l : List Int) (h0 : ∀ j (h : j < l.length), (v == l[j]) = false) : idxZ v l = -1 := by
  have : l.findIdx? (· == v) = none := by
    rw [List.findIdx?_eq_none_iff]
    intro x hx
    obtain ⟨j, hj, rfl⟩ := List.getElem_of_mem hx
    have := h0 j hj
    rw [beq_eq_false_iff_ne] at this
    simpa using fun e => this e.symm
  unfold idxZ; rw [this]
end Go.Proofs.Ytncaichachipkaa
/- slices.Index, slices.Contains over []int. -/
namespace Go.Proofs.Ytncaichachipkaa
open Go Go.RowKit
set_option linter.unusedVariables false
set_option linter.unusedSimpArgs false
set_option maxRecDepth 20000
set_option maxHeartbeats 4000000

theorem index_any (l : List Int) (A : Option Addr) (c : Nat) (v : Int) (W : World) (hR : Row W W.heap.size A (i64s l)) (hl : l.length < 4611686018427387904) :
    Calls Try.prog 43 #[.slice A l.length c, .int .i64 v] W fun e w' => e = .returned (.int .i64 (idxZ v l)) ∧ w' = W := by
  have HR := Lib.hid hR
  clear hR
  go_enter Try.func43, Try.ntmps43
  go_wp2
  go_loopw [8] (fun r wr => ∃ k : Nat, k ≤ l.length ∧ r = .int .i64 k ∧ wr = W ∧ Hid (∀ j (h : j < l.length), j < k → (v == l[j]) = false)) (fun r _ => l.length - (intOf r).toNat)
  case atStart => exact ⟨0, Nat.zero_le _, rfl, rfl, Lib.hid fun j h hj => absurd hj (Nat.not_lt_zero _)⟩
  case round =>
    obtain ⟨k, hk, rfl, rfl, I⟩ := hrel
    by_cases hlt : k < l.length
    · have hki : (k : Int) < l.length := by omega
      obtain ⟨ad, rfl, hab, hcell⟩ := HR.out.get (k := k) (by simp [i64s_length]; exact hlt)
      have IN := Lib.hid (fun h => idxZ_at v l k hlt I.out h)
      have IO := Lib.hid (fun (h : (v == l[k]) = false) j (hj : j < l.length) (hj2 : j < k + 1) => (show (v == l[j]) = false from (by
        rcases Nat.lt_or_ge j k with h3 | h3
        · exact I.out j hj h3
        · obtain rfl : j = k := by omega
          exact h)))
      simp only [i64s, List.getElem_map] at hcell
      generalize l[k] = x at *
      cases hv : v == x
      · go_wp2
        go_roundw
        case rel => exact ⟨k + 1, by omega, by go_num, by first | rfl | trivial, Lib.hid (IO.out hv)⟩
        case measure => simp [intOf]; omega
      · have hvi := Lib.hid (IN.out hv)
        clear IN IO
        go_wp2
        go_ret
        exact ⟨ret_int hvi.out.symm, rfl⟩
    · obtain rfl : k = l.length := by omega
      have hki : ¬ (l.length : Int) < l.length := by omega
      have HE := Lib.hid (idxZ_none v l fun j h => I.out j h h)
      go_wp2
      go_ret
      exact ⟨ret_int HE.out.symm, rfl⟩
theorem contains_any (l : List Int) (A : Option Addr) (c : Nat) (v : Int) (W : World) (hR : Row W W.heap.size A (i64s l)) (hl : l.length < 4611686018427387904) :
    Calls Try.prog 38 #[.slice A l.length c, .int .i64 v] W fun e w' => e = .returned (.bool (l.contains v)) ∧ w' = W := by
  have HE := Lib.hid (idxZ_in v l)
  have IX := Lib.hid (index_any l A c v W hR hl)
  clear hR
  generalize idxZ v l = z at *
  go_enter Try.func38, Try.ntmps38
  go_wp2_with (go_at_call 43; refine IX.out.mono ?_; rintro e w' ⟨rfl, rfl⟩)
  go_ret
  exact ⟨ret_bool HE.out, by first | rfl | trivial⟩
end Go.Proofs.Ytncaichachipkaa
/- A cell of a row of records written. -/
namespace Go.Proofs.Ytncaichachipkaa
open Go Go.RowKit
set_option linter.unusedVariables false
set_option linter.unusedSimpArgs false
set_option maxRecDepth 20000
set_option maxHeartbeats 4000000

theorem rec_set {α : Type} {f : α → List Value} {k : Nat} (hf : ∀ x, (f x).length = k) (j : Nat) (hj : j < k) (v : Value) : ∀ (l : List α) (i : Nat) (h : i < l.length) (x : α), f x = (f l[i]).set j v → (l.flatMap f).set (i * k + j) v = (l.set i x).flatMap f
  | y :: l, 0, h, x, hx => by
    simp only [List.flatMap_cons, List.set_cons_zero, Nat.zero_mul, Nat.zero_add]
    rw [List.set_append_left _ _ (by rw [hf]; exact hj), hx]
    rfl
  | y :: l, i + 1, h, x, hx => by
    simp only [List.flatMap_cons, List.set_cons_succ]
    rw [← rec_set hf j hj v l i (by simpa using h) x hx, List.set_append_right _ _ (by rw [hf, Nat.succ_mul]; omega), hf, show (i + 1) * k + j - k = i * k + j by rw [Nat.succ_mul]; omega]
end Go.Proofs.Ytncaichachipkaa
/- What the laws of whit ask of glyphs. No program is named here. -/
namespace Go.Proofs.Ytncaichachipkaa
open Go Go.RowKit
set_option linter.unusedVariables false
set_option linter.unusedSimpArgs false

/-- Of a glyph of some texts: its run, its byte, and what kind it may be. -/
theorem inRuns_what {zs : List Int} {rs : List Rn} {g : Gl} (h : InRuns zs rs g) : ∃ (r i : Nat) (hr : r < rs.length) (hi : i < rs[r].text.size), g.run = r ∧ g.at_ = i ∧ 0 ≤ g.adv ∧ g.adv ≤ 65536 ∧
    isB g = (!decide (rs[r].white = 2) && isW rs[r].text[i]) ∧ decide (g.kind = 4) = (decide (rs[r].white = 2) && decide ((rs[r].text[i].toNat : Int) = 10)) ∧ (g.kind = 3 → rs[r].white = 1) := by
  obtain ⟨r, i, hr, hi, rfl⟩ := h
  exact ⟨r, i, hr, hi, (rawG_run _ _ _ _ _).1, (rawG_run _ _ _ _ _).2, (rawG_adv _ _ _ _ _).1, (rawG_adv _ _ _ _ _).2, rawG_isB _ _ _ _ _, rawG_break _ _ _ _ _, rawG_hold _ _ _ _ _⟩
/- The order of glyphs. -/
def Ahead (a b : Gl) : Prop := a.run < b.run ∨ (a.run = b.run ∧ a.at_ < b.at_)
theorem rawRun_at (zs : List Int) (r w : Int) : ∀ (l : List UInt8) (i : Int) (g : Gl), g ∈ rawRun zs r w i l → g.run = r ∧ i ≤ g.at_
  | b :: l, i, g, hg => by
    simp only [rawRun, List.mem_cons] at hg
    rcases hg with rfl | hg
    · have := rawG_run zs r w i b
      exact ⟨this.1, by omega⟩
    · have := rawRun_at zs r w l (i + 1) g hg
      exact ⟨this.1, by omega⟩
theorem rawRun_order (zs : List Int) (r w : Int) : ∀ (l : List UInt8) (i : Int), (rawRun zs r w i l).Pairwise Ahead
  | [], i => List.Pairwise.nil
  | b :: l, i => by
    refine List.Pairwise.cons (fun g hg => ?_) (rawRun_order zs r w l (i + 1))
    have h1 := rawRun_at zs r w l (i + 1) g hg
    have h2 := rawG_run zs r w i b
    exact .inr ⟨by rw [h2.1, h1.1], by omega⟩
theorem rawAll_run (zs : List Int) : ∀ (rs : List Rn) (r : Int) (g : Gl), g ∈ rawAll zs r rs → r ≤ g.run
  | x :: l, r, g, hg => by
    simp only [rawAll, List.mem_append] at hg
    rcases hg with hg | hg
    · have := (rawRun_at zs r x.white _ 0 g hg).1; omega
    · have := rawAll_run zs l (r + 1) g hg; omega
theorem rawAll_order (zs : List Int) : ∀ (rs : List Rn) (r : Int), (rawAll zs r rs).Pairwise Ahead
  | [], r => List.Pairwise.nil
  | x :: l, r => by
    refine List.pairwise_append.2 ⟨rawRun_order _ _ _ _ _, rawAll_order zs l (r + 1), fun a ha b hb => .inl ?_⟩
    have h1 := (rawRun_at zs r x.white _ 0 a ha).1
    have h2 := rawAll_run zs l (r + 1) b hb
    omega
theorem glyphsL_order (zs : List Int) (rs : List Rn) (i : Nat) (h : i + 1 < (glyphsL zs rs).length) : Ahead (glyphsL zs rs)[i] (glyphsL zs rs)[i + 1] :=
  List.pairwise_iff_getElem.1 (List.Pairwise.sublist (glyphsL_sub zs rs) (rawAll_order zs rs 0)) i (i + 1) (by omega) h (by omega)
/- Blanks' neighbours. -/
def NoTwo : List Gl → Prop
  | [] => True
  | g :: l => (isB g = true → ∀ h ∈ l.head?, isB h = false) ∧ NoTwo l
theorem colG_head : ∀ (l : List Gl) (h : Gl), h ∈ (colG true l).head? → isB h = false
  | g :: l, h, hh => by
    simp only [colG, Bool.true_and] at hh
    split at hh
    · exact colG_head l h hh
    · rename_i hb
      simp at hh
      subst hh
      simpa using hb
theorem colG_two : ∀ (l : List Gl) (p : Bool), NoTwo (colG p l)
  | [], p => trivial
  | g :: l, p => by
    simp only [colG]
    split
    · exact colG_two l true
    · refine ⟨fun hg h hh => ?_, colG_two l (isB g)⟩
      rw [hg] at hh
      exact colG_head l h hh
/-- In a row: each blank has ink on both sides; 'left': ink stands ahead. -/
def okT : Bool → List Gl → Prop
  | _, [] => True
  | left, g :: l => (isB g = true → left = true ∧ ∃ h ∈ l.head?, h.kind = 1) ∧ okT (decide (g.kind = 1)) l
theorem trimG_ok : ∀ (l : List Gl) (e left : Bool), (∀ g ∈ l, g.kind = 1 ∨ g.kind = 2 ∨ g.kind = 3 ∨ g.kind = 4) → NoTwo l → ((∃ h ∈ l.head?, isB h = true) → e = true ∨ left = true) → okT left (trimG e l)
  | [], e, left, _, _, _ => trivial
  | g :: l, e, left, hk, hn, hc => by
    have hkl : ∀ g ∈ l, g.kind = 1 ∨ g.kind = 2 ∨ g.kind = 3 ∨ g.kind = 4 := fun x hx => hk x (List.mem_cons_of_mem _ hx)
    have hkg := hk g List.mem_cons_self
    cases hb : isB g with
    | false =>
      simp only [trimG, hb, Bool.false_and, Bool.false_eq_true, if_false]
      refine ⟨fun h => absurd h (by rw [hb]; decide), ?_⟩
      refine trimG_ok l _ _ hkl hn.2 fun _ => ?_
      have : g.kind = 1 ∨ g.kind = 4 := by
        simp only [isB, decide_eq_false_iff_not] at hb
        omega
      rcases this with h | h <;> simp [h]
    | true =>
      have hnb : ∀ h ∈ l.head?, isB h = false := hn.1 hb
      have hk4 : decide (g.kind = 4) = false := by
        simp only [isB, decide_eq_true_eq] at hb
        simp; omega
      have hvac : ∀ lf, (∃ h ∈ l.head?, isB h = true) → false = true ∨ lf = true := fun lf ⟨h, hh, h1⟩ => by rw [hnb h hh] at h1; cases h1
      simp only [trimG, hb, Bool.true_and, hk4]
      split
      · exact trimG_ok l false left hkl hn.2 (hvac _)
      · rename_i hx
        simp only [Bool.or_eq_true, not_or, Bool.not_eq_true] at hx
        obtain ⟨he, hl⟩ := hx
        cases l with
        | nil => simp [endsG] at hl
        | cons h r =>
          simp only [endsG, decide_eq_false_iff_not] at hl
          have hbh := hnb h (by simp)
          have h1 : h.kind = 1 := by
            have := hkl h List.mem_cons_self
            simp only [isB, decide_eq_false_iff_not] at hbh
            omega
          refine ⟨fun _ => ⟨?_, h, ?_, h1⟩, ?_⟩
          · rcases hc ⟨g, by simp, hb⟩ with h2 | h2
            · rw [he] at h2; cases h2
            · exact h2
          · simp [trimG, hbh]
          · exact trimG_ok (h :: r) false _ hkl hn.2 (hvac _)
theorem okT_at : ∀ (l : List Gl) (left : Bool), okT left l → ∀ (i : Nat) (h : i < l.length), isB l[i] = true → (i = 0 → left = true) ∧ (∀ h0 : 0 < i, (l[i - 1]'(by omega)).kind = 1) ∧ ∃ h1 : i + 1 < l.length, l[i + 1].kind = 1
  | g :: l, left, ho, 0, h, hb => by
    obtain ⟨h1, x, hx, h2⟩ := ho.1 hb
    refine ⟨fun _ => h1, fun h0 => absurd h0 (by omega), ?_⟩
    cases l with
    | nil => simp at hx
    | cons y r =>
      simp at hx
      subst hx
      exact ⟨by simp, h2⟩
  | g :: l, left, ho, i + 1, h, hb => by
    obtain ⟨h1, h2, h3, h4⟩ := okT_at l _ ho.2 i (by simpa using h) (by simpa using hb)
    refine ⟨fun h0 => absurd h0 (by omega), fun _ => ?_, by simpa using h3, by simpa using h4⟩
    cases i with
    | zero => simpa using h1 rfl
    | succ i => simpa using h2 (by omega)
theorem glyphsL_blank (zs : List Int) (rs : List Rn) (i : Nat) (h : i < (glyphsL zs rs).length) (hb : isB (glyphsL zs rs)[i] = true) :
    (∃ h0 : 0 < i, ((glyphsL zs rs)[i - 1]'(by omega)).kind = 1) ∧ ∃ h1 : i + 1 < (glyphsL zs rs).length, (glyphsL zs rs)[i + 1].kind = 1 := by
  have hk : ∀ g ∈ colG false (rawAll zs 0 rs), g.kind = 1 ∨ g.kind = 2 ∨ g.kind = 3 ∨ g.kind = 4 := fun g hg => by
    obtain ⟨r, k, _, _, e⟩ := mem_rawAll zs rs 0 g ((colG_sub _ _).subset hg)
    rw [e]; exact rawG_kind _ _ _ _ _
  have ho : okT false (glyphsL zs rs) := trimG_ok _ true false hk (colG_two _ _) (fun _ => .inl rfl)
  obtain ⟨h1, h2, h3⟩ := okT_at _ _ ho i h hb
  refine ⟨?_, h3⟩
  rcases Nat.eq_zero_or_pos i with h0 | h0
  · exact absurd (h1 h0) (by decide)
  · exact ⟨h0, h2 h0⟩
/- How many glyphs are of bytes that are not white. -/
def inkG (rs : List Rn) (g : Gl) : Bool := !isW (byteAt rs g)
theorem colG_count (P : Gl → Bool) : ∀ (l : List Gl) (p : Bool), (∀ g ∈ l, isB g = true → P g = false) → (colG p l).countP P = l.countP P
  | [], p, _ => rfl
  | g :: l, p, h => by
    have hl : ∀ g ∈ l, isB g = true → P g = false := fun x hx => h x (List.mem_cons_of_mem _ hx)
    simp only [colG]
    split
    · rename_i hx
      rw [List.countP_cons_of_neg (by rw [h g List.mem_cons_self (by simp at hx; exact hx.2)]; simp)]
      exact colG_count P l true hl
    · rw [List.countP_cons, List.countP_cons, colG_count P l _ hl]
theorem trimG_count (P : Gl → Bool) : ∀ (l : List Gl) (e : Bool), (∀ g ∈ l, isB g = true → P g = false) → (trimG e l).countP P = l.countP P
  | [], e, _ => rfl
  | g :: l, e, h => by
    have hl : ∀ g ∈ l, isB g = true → P g = false := fun x hx => h x (List.mem_cons_of_mem _ hx)
    simp only [trimG]
    split
    · rename_i hx
      rw [List.countP_cons_of_neg (by rw [h g List.mem_cons_self (by simp at hx; exact hx.1)]; simp)]
      exact trimG_count P l _ hl
    · rw [List.countP_cons, List.countP_cons, trimG_count P l _ hl]
def inkRun (l : List UInt8) : Nat := l.countP fun b => !isW b
def inkAll (rs : List Rn) : Nat := (rs.map fun x => inkRun (bytesOf x.text)).sum
theorem byteAt_raw (zs : List Int) (rs : List Rn) (r i : Nat) (w : Int) (hr : r < rs.length) (hi : i < rs[r].text.size) (b : UInt8) : byteAt rs (rawG zs r w i b) = rs[r].text[i] := by
  have h := rawG_run zs r w i b
  unfold byteAt
  rw [h.1, h.2]
  have hl : i < (bytesOf rs[r].text).length := by rw [bytesOf_length]; exact hi
  simp [List.getElem?_eq_getElem hr, List.getD, List.getElem?_eq_getElem hl]
  exact bytesOf_get _ _ hi
theorem countP_rawRun (zs : List Int) (r w : Int) (P : Gl → Bool) (q : UInt8 → Bool) : ∀ (l : List UInt8) (i : Int), (∀ (k : Nat) (h : k < l.length), P (rawG zs r w (i + k) l[k]) = q l[k]) → (rawRun zs r w i l).countP P = l.countP q
  | [], i, _ => rfl
  | b :: l, i, h => by
    have h0 := h 0 (by simp)
    simp at h0
    have ih := countP_rawRun zs r w P q l (i + 1) fun k hk => by
      have := h (k + 1) (by simpa using hk)
      simp only [List.getElem_cons_succ] at this
      rw [← this]
      congr 2
      omega
    rw [rawRun, List.countP_cons, List.countP_cons, ih, h0]
theorem countP_rawAll (zs : List Int) (P : Gl → Bool) : ∀ (rs : List Rn) (r0 : Nat), (∀ (r i : Nat) (h : r < rs.length) (h' : i < rs[r].text.size), P (rawG zs ((r0 + r : Nat) : Int) rs[r].white i rs[r].text[i]) = !isW rs[r].text[i]) →
    (rawAll zs r0 rs).countP P = inkAll rs
  | [], r0, _ => rfl
  | x :: l, r0, h => by
    have h1 := countP_rawRun zs r0 x.white P (fun b => !isW b) (bytesOf x.text) 0 fun k hk => by
      rw [bytesOf_length] at hk
      have := h 0 k (by simp) hk
      simp at this
      rw [bytesOf_get x.text k hk]
      simpa using this
    have h2 := countP_rawAll zs P l (r0 + 1) fun r i hr hi => by
      have := h (r + 1) i (by simpa using hr) (by simpa using hi)
      simp only [List.getElem_cons_succ] at this
      rw [show r0 + 1 + r = r0 + (r + 1) by omega]
      exact this
    rw [rawAll, List.countP_append, h1]
    have e : ((r0 : Int) + 1) = ((r0 + 1 : Nat) : Int) := by omega
    rw [e, h2]
    simp [inkAll, inkRun]
theorem glyphsL_ink (zs : List Int) (rs : List Rn) : (glyphsL zs rs).countP (inkG rs) = inkAll rs := by
  have hb : ∀ g ∈ rawAll zs 0 rs, isB g = true → inkG rs g = false := fun g hg hb => by
    obtain ⟨r, i, hr, hi, e⟩ := mem_rawAll zs rs 0 g hg
    simp only [Nat.zero_add] at e
    rw [e, rawG_isB] at hb
    unfold inkG
    rw [e, byteAt_raw zs rs r i _ hr hi]
    simp at hb
    simp [hb.2]
  unfold glyphsL
  rw [trimG_count _ _ _ fun g hg => hb g ((colG_sub _ _).subset hg), colG_count _ _ _ hb]
  refine countP_rawAll zs _ rs 0 fun r i hr hi => ?_
  unfold inkG
  rw [show ((0 + r : Nat) : Int) = (r : Int) by omega, byteAt_raw zs rs r i _ hr hi]
/-- Of a glyph of some texts: its run, its byte .., and the byte itself. -/
theorem inRuns_byte {zs : List Int} {rs : List Rn} {g : Gl} (h : InRuns zs rs g) : ∃ (r i : Nat) (hr : r < rs.length) (hi : i < rs[r].text.size), g.run = r ∧ g.at_ = i ∧ 0 ≤ g.adv ∧ byteAt rs g = rs[r].text[i] ∧
    isB g = (!decide (rs[r].white = 2) && isW rs[r].text[i]) ∧ decide (g.kind = 4) = (decide (rs[r].white = 2) && decide ((rs[r].text[i].toNat : Int) = 10)) ∧ (g.kind = 3 → rs[r].white = 1) := by
  obtain ⟨r, i, hr, hi, rfl⟩ := h
  exact ⟨r, i, hr, hi, (rawG_run _ _ _ _ _).1, (rawG_run _ _ _ _ _).2, (rawG_adv _ _ _ _ _).1, byteAt_raw _ _ _ _ _ hr hi _, rawG_isB _ _ _ _ _, rawG_break _ _ _ _ _, rawG_hold _ _ _ _ _⟩
/-- What the law asks of a glyph's kind, case by case. -/
theorem kind_cases (k w : Int) (b : UInt8) (bl : Bool) (hb : bl = (!decide (w = 2) && isW b)) (hk : bl = decide (k = 2 ∨ k = 3)) (h4 : decide (k = 4) = (decide (w = 2) && decide ((b.toNat : Int) = 10))) (h3 : k = 3 → w = 1) :
    ((w == 2) = true ∧ bl = false ∧ isW b = true ∧ ((b.toNat : Int) == 10) = true ∧ (k == 4) = true ∧ (k == 3) = false) ∨
    ((w == 2) = true ∧ bl = false ∧ isW b = true ∧ ((b.toNat : Int) == 10) = false ∧ (k == 4) = false ∧ (k == 3) = false) ∨
    ((w == 2) = true ∧ bl = false ∧ isW b = false ∧ ((b.toNat : Int) == 10) = false ∧ (k == 4) = false ∧ (k == 3) = false) ∨
    ((w == 2) = false ∧ bl = true ∧ isW b = true ∧ ((b.toNat : Int) == 10) = true ∧ (k == 4) = false ∧ (k == 3) = true ∧ (w == 1) = true) ∨
    ((w == 2) = false ∧ bl = true ∧ isW b = true ∧ ((b.toNat : Int) == 10) = true ∧ (k == 4) = false ∧ (k == 3) = false) ∨
    ((w == 2) = false ∧ bl = true ∧ isW b = true ∧ ((b.toNat : Int) == 10) = false ∧ (k == 4) = false ∧ (k == 3) = true ∧ (w == 1) = true) ∨
    ((w == 2) = false ∧ bl = true ∧ isW b = true ∧ ((b.toNat : Int) == 10) = false ∧ (k == 4) = false ∧ (k == 3) = false) ∨
    ((w == 2) = false ∧ bl = false ∧ isW b = false ∧ ((b.toNat : Int) == 10) = false ∧ (k == 4) = false ∧ (k == 3) = false) := by
  have hW : isW b = decide ((b.toNat : Int) = 32 ∨ (b.toNat : Int) = 9 ∨ (b.toNat : Int) = 10 ∨ (b.toNat : Int) = 13) := rfl
  simp only [beq_iff_eq, beq_eq_false_iff_ne]
  generalize (b.toNat : Int) = c at *
  by_cases hw : w = 2
  · have h3' : ¬ k = 3 := fun h => by have := h3 h; omega
    rw [decide_eq_true hw] at hb h4
    simp only [Bool.not_true, Bool.false_and, Bool.true_and] at hb h4
    subst hb
    by_cases h10 : c = 10
    · have : isW b = true := by rw [hW]; exact decide_eq_true (by omega)
      rw [decide_eq_true h10, decide_eq_true_eq] at h4
      simp [hw, this, h10, h4]
    · rw [decide_eq_false h10, decide_eq_false_iff_not] at h4
      cases hv : isW b <;> simp [hw, h10, h4, h3']
  · rw [decide_eq_false hw] at hb h4
    simp only [Bool.not_false, Bool.true_and, Bool.false_and, decide_eq_false_iff_not] at hb h4
    cases hv : isW b
    · rw [hv] at hb
      subst hb
      have h10 : ¬ c = 10 := fun h => by rw [hv] at hW; have := (decide_eq_false_iff_not.1 hW.symm); omega
      have hk3 : ¬ k = 3 := fun h => (decide_eq_false_iff_not.1 hk.symm) (.inr h)
      simp [hw, h10, h4, hk3]
    · rw [hv] at hb
      subst hb
      by_cases h10 : c = 10 <;> by_cases hk3 : k = 3
      · simp [hw, h10, h4, hk3, h3 hk3]
      · simp [hw, h10, h4, hk3]
      · simp [hw, h10, h4, hk3, h3 hk3]
      · simp [hw, h10, h4, hk3]
theorem countP_take {α : Type} (P : α → Bool) (l : List α) (k : Nat) (h : k < l.length) : (l.take (k + 1)).countP P = (l.take k).countP P + (if P l[k] then 1 else 0) := by
  rw [List.take_succ_eq_append_getElem h, List.countP_append]
  simp [List.countP_cons]
theorem inkAll_take (rs : List Rn) (k : Nat) (h : k < rs.length) : inkAll (rs.take (k + 1)) = inkAll (rs.take k) + inkRun (bytesOf rs[k].text) := by
  rw [List.take_succ_eq_append_getElem h]
  simp only [inkAll, List.map_append, List.sum_append, List.map_cons, List.map_nil, List.sum_cons, List.sum_nil, Nat.add_zero]
theorem inkRun_take (l : List UInt8) (k : Nat) (h : k < l.length) : inkRun (l.take (k + 1)) = inkRun (l.take k) + (if isW l[k] then 0 else 1) := by
  unfold inkRun
  rw [countP_take _ l k h]
  cases isW l[k] <;> rfl
theorem inkRun_le (l : List UInt8) : inkRun l ≤ l.length := List.countP_le_length
theorem inkAll_le : ∀ (rs : List Rn), inkAll rs ≤ sizeAll rs
  | [] => Nat.le_refl _
  | x :: l => by
    have h1 := inkAll_le l
    have h2 := inkRun_le (bytesOf x.text)
    rw [bytesOf_length] at h2
    simp only [inkAll, sizeAll, List.map_cons, List.sum_cons] at *
    omega
/-- All that the law asks of a row of glyphs. -/
structure RowFacts (zs : List Int) (rs : List Rn) (F : List Gl) : Prop where
  isin : ∀ g ∈ F, InRuns zs rs g
  blank : ∀ (i : Nat) (h : i < F.length), isB F[i] = true → (∃ h0 : 0 < i, (F[i - 1]'(by omega)).kind = 1) ∧ ∃ h1 : i + 1 < F.length, F[i + 1].kind = 1
  order : ∀ (i : Nat) (h : i + 1 < F.length), Ahead F[i] F[i + 1]
  ink : F.countP (inkG rs) = inkAll rs
  len : F.length ≤ sizeAll rs
theorem row_facts (zs : List Int) (rs : List Rn) : RowFacts zs rs (glyphsL zs rs) := ⟨glyphsL_in zs rs, glyphsL_blank zs rs, glyphsL_order zs rs, glyphsL_ink zs rs, glyphsL_length zs rs⟩
end Go.Proofs.Ytncaichachipkaa
/- The least is no more than the most. -/
namespace Go.Proofs.Ytncaichachipkaa
open Go Go.RowKit
set_option linter.unusedVariables false
set_option linter.unusedSimpArgs false
set_option maxRecDepth 20000
set_option maxHeartbeats 4000000

def Adv0 (g : List Gl) : Prop := ∀ x ∈ g, 0 ≤ x.adv
theorem longL_both : ∀ (l : List Gl) (m m' n n' : Int), Adv0 l → m ≤ m' → n ≤ n' → 0 ≤ n' → longL true l m n ≤ longL false l m' n'
  | [], m, m', n, n', hg, h1, h2, h3 => h1
  | x :: l, m, m', n, n', hg, h1, h2, h3 => by
    have hx := hg x (by simp)
    have hl : Adv0 l := fun y hy => hg y (by simp [hy])
    simp only [longL]
    by_cases h4 : x.kind = 4
    · rw [if_pos (.inl h4), if_pos (.inl h4)]
      exact longL_both l _ _ _ _ hl (by omega) (Int.le_refl _) (Int.le_refl _)
    · have hn : ¬ (x.kind = 4 ∨ (false = true ∧ x.kind = 2)) := fun h => by rcases h with h | ⟨h, _⟩ <;> simp_all
      rw [if_neg hn]
      split
      · exact longL_both l _ _ _ _ hl (by omega) (by omega) (by omega)
      · exact longL_both l _ _ _ _ hl (by omega) (by omega) (by omega)
theorem least_most {g : List Gl} (hg : Adv0 g) : leastL g ≤ mostL g := longL_both g 0 0 0 0 hg (Int.le_refl _) (Int.le_refl _) (Int.le_refl _)
end Go.Proofs.Ytncaichachipkaa
