import Derived.WalkKit
import Derived.Below
import Derived.Deep.Draws
import Derived.OwnWalk
import Derived.Laws.OwnMore
import Derived.Laws.AppendOwnNone
import Derived.Lib.Hide
import Derived.Laws.BitsAllLaws
import Derived.Laws.BitsLemmas
import Derived.ProofKit
import Derived.OpenShut
import Derived.ShutString
import Derived.ChangeOld
import Derived.Deep.Slices
import Derived.Lib.SmallJoins
import Derived.Test.YtjhmdflagkenbaaProg
import Derived.WalkLawsBesides
import Derived.WalkSpells
import Derived.Outline
import Derived.Laws.Rows
import Derived.Deep.Quiet
import Derived.StillTail
import Derived.Deep.QuietTactic
import Derived.BigQuiet
import Derived.Deep.Cut
import Derived.Deep.CutBlock
import Derived.Deep.DeepCutAuto
import Derived.Deep.CutRange
import Derived.Laws.Tables
import Derived.LoopTactic
import Derived.Laws.Strings
import Derived.Lib.IndexBytes
/- Words for memory: a slice that reads as a list of cells, whatever its address; plain lemmas on lists of numbers. No program is named here. -/
namespace Go.Proofs.Ytjhmdflagkenbaa
set_option linter.unusedVariables false
set_option linter.unusedSimpArgs false
open Go.RowKit

theorem add_block (a : Addr) (n : Nat) : (a.add n).block = a.block := by unfold Addr.add; split <;> rfl
theorem add_zero (a : Addr) : a.add 0 = a := by simp [Addr.add]

/-- The cells from A on are xs, in a block below B; where xs is empty nothing is asked of A. -/
def Row (w : World) (B : Nat) (A : Option Addr) (xs : List Value) : Prop :=
  0 < xs.length → ∃ ad, A = some ad ∧ ad.block < B ∧ ∀ i (h : i < xs.length), w.cell? (ad.add i) = some xs[i]

section
variable {w w' : World} {B B' : Nat} {A : Option Addr} {xs : List Value}
theorem Row.nil (w : World) (B : Nat) (A : Option Addr) : Row w B A [] := fun h => absurd h (by simp)
theorem Row.get (h : Row w B A xs) {k : Nat} (hk : k < xs.length) : ∃ ad, A = some ad ∧ ad.block < B ∧ w.cell? (ad.add k) = some xs[k] := by
  obtain ⟨ad, e, hb, hc⟩ := h (by omega)
  exact ⟨ad, e, hb, hc k hk⟩
theorem Row.keep (h : Row w B A xs) (hk : ∀ p : Addr, p.block < B → w'.cell? p = w.cell? p) : Row w' B A xs := fun hn => by
  obtain ⟨ad, e, hb, hc⟩ := h hn
  exact ⟨ad, e, hb, fun i hi => (hk _ (by rw [add_block]; exact hb)).trans (hc i hi)⟩
theorem Row.more (h : Row w B A xs) (hB : B ≤ B') : Row w B' A xs := fun hn => by
  obtain ⟨ad, e, hb, hc⟩ := h hn
  exact ⟨ad, e, by omega, hc⟩
theorem Row.below (h : Row w B A xs) (hb : Below B w w') : Row w' B A xs := h.keep fun _ hp => hb.cell hp
theorem Row.drew (h : Row w B A xs) : Row w.drew B A xs := h
theorem Row.drewN (h : Row w B A xs) (k : Nat) : Row (w.drewN k) B A xs := h
theorem Row.alloc (h : Row w B A xs) (hB : B ≤ w.heap.size) (o : Obj) : Row (w.alloc o) B A xs := h.keep fun p hp => World.cell?_alloc_lt w o p (by omega)
theorem Row.setCell (h : Row w B A xs) {p : Addr} (hB : B ≤ p.block) (u : Value) : Row (w.setCell p u) B A xs :=
  h.keep fun q hq => World.cell?_setCell_other w p q u (fun e => by subst e; omega)
theorem Row.undrew {n : Nat} (h : Row (w.drewN n) B A xs) : Row w B A xs := h
end


theorem head_add (g i : Nat) : (⟨g, 0, none⟩ : Addr).add i = ⟨g, i, none⟩ := by unfold Addr.add; split <;> simp_all
theorem row_new (w : World) (cs : Array Value) (t : TypeId) : Row (w.alloc (.cells cs t)) (w.heap.size + 1) (some ⟨w.heap.size, 0, none⟩) cs.toList := fun _ =>
  ⟨_, rfl, by simp, fun i hi => by
    rw [head_add, World.cell?_alloc_at _ _ _ _ rfl]
    simp at hi
    simp [hi]⟩

theorem Below.drewN' {B : Nat} {a w : World} (h : Below B a w) (n : Nat) : Below B a (w.drewN n) := ⟨h.os, h.tape, h.output, h.size, h.block⟩
theorem row_at (w : World) (g : Nat) (cs : Array Value) (t : TypeId) (hg : g = w.heap.size) : Row (w.alloc (.cells cs t)) (g + 1) (some ⟨g, 0, none⟩) cs.toList := by
  subst hg; exact row_new w cs t

section
variable {P : Program} {w w' : World} {base e size n c : Nat} {A : Option Addr} {xs : List Value}
theorem own_shape {v : Value} (h : w.ownsRow base e size v n xs) : ∃ A c, v = .slice A n c := by
  rcases h.2 with ⟨rfl, rfl⟩ | ⟨g, cap, cur, rfl, _⟩
  · exact ⟨none, 0, rfl⟩
  · exact ⟨_, _, rfl⟩
theorem row_of_own (h : w.ownsRow base e size (.slice A n c) n xs) : Row w w.heap.size A xs := fun hn => by
  rcases h.2 with ⟨_, h0⟩ | ⟨g, cap, cur, hv, _, hg, _⟩
  · have := h.1; rw [h0, Nat.zero_mul] at this; omega
  · injection hv with hA _ _
    subst hA
    have hlt : g < w.heap.size := (Array.getElem?_eq_some_iff.1 hg).1
    exact ⟨_, rfl, hlt, fun i hi => h.cells (g := g) rfl i _ (List.getElem?_eq_getElem hi)⟩
theorem own_below (h : w.ownsRow base e size (.slice A n c) n xs) {B : Nat} (hb : Below B w w') (hB : w.heap.size ≤ B) : w'.ownsRow base e size (.slice A n c) n xs := by
  refine ⟨h.1, ?_⟩
  rcases h.2 with h0 | ⟨g, cap, cur, hv, h1, h2, h3⟩
  · exact .inl h0
  · have hlt : g < w.heap.size := (Array.getElem?_eq_some_iff.1 h2).1
    exact .inr ⟨g, cap, cur, hv, h1, (hb.block g (by omega)).trans h2, h3⟩
theorem wpList_wanted {ops : Array Oper} {rest : List Oper} {o : Oper} {a : Act} {Q : Exit → Act → World → Prop} (hw : Region.wanted o (yielded ops a.tmps) = true)
    (h : ∀ K : Act → World → Prop, (∀ a w, wpList P ops Q rest a w → K a w) → o.wp P a w K Q) : wpList P ops Q (o :: rest) a w :=
  wpList_step fun K hK => by rw [if_pos hw]; exact h K hK
/-- 'xs = append(xs, ys...)' onto a slice of the call's own, the source a row wherever it lies; nil too. -/
theorem wp_push_all {o : Oper} {a : Act} {K : Act → World → Prop} {Q : Exit → Act → World → Prop} (s x : Operand) (t : TypeId)
    (ho : o.op = .call { callee := .builtin .append, args := #[s, x], argTypes := #[t, t] })
    (base e size bytes : Nat) (z : Value) (ht : P.underlying t = some (.slice e)) (hinfo : (P.info? e).map (fun i => (i.zero, i.size, i.bytes)) = some (some z, size, bytes))
    (hzs : z.cells.size = size) (hsz : 0 < size) (n c : Nat) (A : Option Addr) (xs : List Value) (hs : a.eval s = .slice A n c) (hown : w.ownsRow base e size (.slice A n c) n xs)
    (B m c' : Nat) (A' : Option Addr) (news : List Value) (hx : a.eval x = .slice A' m c') (hnil : A' = none → c' = 0) (hl : news.length = m * size) (hr : Row w B A' news) (h1 : ∀ u ∈ news, u.oneCell' = true)
    (h63 : n + m ≤ maxLen) (hbytes : (n + m) * bytes ≤ 140737488355328) (hbase : base ≤ w.heap.size)
    (h : ∀ A' c' w', w'.ownsRow base e size (.slice A' (n + m) c') (n + m) (xs ++ news) → Below base w w' → K (a.put o.dst (.slice A' (n + m) c')) w') : o.wp P a w K Q := by
  obtain ⟨i, hi, hz, hsize, hby⟩ := info_parts hinfo
  rcases A' with _ | ad
  · have hn : news = [] := by
      rcases Nat.eq_zero_or_pos news.length with h0 | h0
      · exact List.eq_nil_of_length_eq_zero h0
      · obtain ⟨ad, e, _⟩ := hr h0; cases e
    subst hn
    have hm : m = 0 := by
      have : 0 = m * size := hl
      rcases Nat.eq_zero_or_pos m with h0 | h0
      · exact h0
      · have := Nat.mul_pos h0 hsz; omega
    subst hm
    rw [hnil rfl] at hx
    have hrun := run_append_owned_none (P := P) (w := w) base t o.type e i size ht hi (.slice A n c) n xs hown
    have hK := h A c w (by simpa using hown) (Below.refl _ _)
    unfold Oper.wp execOp
    simp only [ho, resolve, invoke, builtin, Sem.run_bind, Sem.run_pure, Result.andThen_ok, List.map_toArray, List.map_cons, List.map_nil, hs, hx, hrun]
    exact hK
  · refine wp_append_own w s x t ho base e i z size bytes ht hi hz hsize hby hzs hsz (.slice A n c) n xs hs hown ad m c' news hx hl (fun j u hu => ?_) h1 h63 hbytes hbase ?_
    · obtain ⟨hj, rfl⟩ := List.getElem?_eq_some_iff.1 hu
      obtain ⟨ad', e', _, hc⟩ := hr (by omega)
      injection e' with e'
      subst e'
      exact hc j hj
    · intro v' w1 h2 h3 _
      obtain ⟨A', c1, rfl⟩ := own_shape h2
      refine h A' c1 w1 h2 ?_
      refine (Below.refl base w).grown h3 hbase fun k hk => ?_
      exact (hown.lt k hk).1
theorem wpList_push_all {ops : Array Oper} {rest : List Oper} {o : Oper} {a : Act} {Q : Exit → Act → World → Prop} (hw : Region.wanted o (yielded ops a.tmps) = true) (s x : Operand) (t : TypeId)
    (ho : o.op = .call { callee := .builtin .append, args := #[s, x], argTypes := #[t, t] })
    (base e size bytes : Nat) (z : Value) (ht : P.underlying t = some (.slice e)) (hinfo : (P.info? e).map (fun i => (i.zero, i.size, i.bytes)) = some (some z, size, bytes))
    (hzs : z.cells.size = size) (hsz : 0 < size) (n c : Nat) (A : Option Addr) (xs : List Value) (hs : a.eval s = .slice A n c) (hown : w.ownsRow base e size (.slice A n c) n xs)
    (B m c' : Nat) (A' : Option Addr) (news : List Value) (hx : a.eval x = .slice A' m c') (hnil : A' = none → c' = 0) (hl : news.length = m * size) (hr : Row w B A' news) (h1 : ∀ u ∈ news, u.oneCell' = true)
    (h63 : n + m ≤ maxLen) (hbytes : (n + m) * bytes ≤ 140737488355328) (hbase : base ≤ w.heap.size)
    (h : ∀ A' c' w', w'.ownsRow base e size (.slice A' (n + m) c') (n + m) (xs ++ news) → Below base w w' → wpList P ops Q rest (a.put o.dst (.slice A' (n + m) c')) w') : wpList P ops Q (o :: rest) a w :=
  wpList_wanted hw fun _ hK => wp_push_all s x t ho base e size bytes z ht hinfo hzs hsz n c A xs hs hown B m c' A' news hx hnil hl hr h1 h63 hbytes hbase fun A' c' w' h2 h3 => hK _ _ (h A' c' w' h2 h3)
/-- .. the element just laid in a block of its own. -/
theorem wpList_new {ops : Array Oper} {rest : List Oper} {o : Oper} {a : Act} {Q : Exit → Act → World → Prop} {cs : Array Value} (hw : Region.wanted o (yielded ops a.tmps) = true) (s x : Operand) (t : TypeId)
    (ho : o.op = .call { callee := .builtin .append, args := #[s, x], argTypes := #[t, t] })
    (base e size bytes : Nat) (z : Value) (ht : P.underlying t = some (.slice e)) (hinfo : (P.info? e).map (fun i => (i.zero, i.size, i.bytes)) = some (some z, size, bytes))
    (hzs : z.cells.size = size) (hsz : 0 < size) (n c : Nat) (A : Option Addr) (xs : List Value) (hs : a.eval s = .slice A n c) (hown : w.ownsRow base e size (.slice A n c) n xs)
    (hx : a.eval x = .slice (some ⟨w.heap.size, 0, none⟩) 1 1) (hb : (n + 1) * bytes ≤ 140737488355328 ∧ n + 1 ≤ maxLen ∧ base ≤ w.heap.size) (hl : cs.toList.length = size) (h1 : ∀ u ∈ cs.toList, u.oneCell' = true)
    (h : ∀ A' c' w', w'.ownsRow base e size (.slice A' (n + 1) c') (n + 1) (xs ++ cs.toList) → Below base w w' → wpList P ops Q rest (a.put o.dst (.slice A' (n + 1) c')) w') :
    wpList P ops Q (o :: rest) a (w.alloc (.cells cs e)) := by
  obtain ⟨hbytes, h63, hbase⟩ := hb
  have hbase' : base ≤ (w.alloc (.cells cs e)).heap.size := by simp; omega
  refine wpList_push_all hw s x t ho base e size bytes z ht hinfo hzs hsz n c A xs hs (hown.alloc _) (w.heap.size + 1) 1 1 (some ⟨w.heap.size, 0, none⟩) cs.toList hx (fun h => by cases h) (by omega) (row_new w cs e) h1 h63 hbytes hbase' (fun A' c' w' h2 h3 => h A' c' w' h2 (((Below.refl base w).alloc hbase _).trans h3))
/-- .. as a step of a region that draws its order. -/
theorem step_new {ops : Array Oper} {o : Oper} {a : Act} {K : Act → World → Prop} {Q : Exit → Act → World → Prop} {E : Prop} {cs : Array Value} (hw : Region.wanted o (yielded ops a.tmps) = true) (s x : Operand) (t : TypeId)
    (ho : o.op = .call { callee := .builtin .append, args := #[s, x], argTypes := #[t, t] })
    (base e size bytes : Nat) (z : Value) (ht : P.underlying t = some (.slice e)) (hinfo : (P.info? e).map (fun i => (i.zero, i.size, i.bytes)) = some (some z, size, bytes))
    (hzs : z.cells.size = size) (hsz : 0 < size) (n c : Nat) (A : Option Addr) (xs : List Value) (hs : a.eval s = .slice A n c) (hown : w.ownsRow base e size (.slice A n c) n xs)
    (hx : a.eval x = .slice (some ⟨w.heap.size, 0, none⟩) 1 1) (hb : (n + 1) * bytes ≤ 140737488355328 ∧ n + 1 ≤ maxLen ∧ base ≤ w.heap.size) (hl : cs.toList.length = size) (h1 : ∀ u ∈ cs.toList, u.oneCell' = true)
    (W : World) (hW : ∃ q, W = (w.alloc (.cells cs e)).drewN q)
    (h : ∀ A' c' w', w'.ownsRow base e size (.slice A' (n + 1) c') (n + 1) (xs ++ cs.toList) → Below base w w' → K (a.put o.dst (.slice A' (n + 1) c')) w') :
    if Region.wanted o (yielded ops a.tmps) = true then Oper.wp P o a W K Q else E := by
  obtain ⟨hbytes, h63, hbase⟩ := hb
  obtain ⟨q, rfl⟩ := hW
  have hbase' : base ≤ ((w.alloc (.cells cs e)).drewN q).heap.size := by show base ≤ (w.alloc (.cells cs e)).heap.size; simp; omega
  rw [if_pos hw]
  refine wp_push_all (w := (w.alloc (.cells cs e)).drewN q) s x t ho base e size bytes z ht hinfo hzs hsz n c A xs hs (show ((w.alloc (.cells cs e)).drewN q).ownsRow base e size _ n xs from hown.alloc _) (w.heap.size + 1) 1 1 (some ⟨w.heap.size, 0, none⟩) cs.toList hx (fun h => by cases h) (by omega) (Row.drewN (row_new w cs e) q) h1 h63 hbytes hbase' (fun A' c' w' h2 h3 => h A' c' w' h2 ((Below.drewN' ((Below.refl base w).alloc hbase _) q).trans h3))
theorem add_of_add (a : Addr) (i j : Nat) : (a.add i).add j = a.add (i + j) := by
  unfold Addr.add
  by_cases hi : i = 0 <;> by_cases hj : j = 0 <;> simp [hi, hj, Nat.add_assoc]
theorem Row.take {B : Nat} (h : Row w B A xs) (k : Nat) : Row w B A (xs.take k) := fun hn => by
  obtain ⟨ad, e, hb, hc⟩ := h (by simp at hn; omega)
  exact ⟨ad, e, hb, fun i hi => by rw [hc i (by simp at hi; omega)]; simp⟩
theorem Row.drop {B : Nat} {ad : Addr} (h : Row w B (some ad) xs) (k : Nat) : Row w B (some (ad.add k)) (xs.drop k) := fun hn => by
  obtain ⟨ad', e, hb, hc⟩ := h (by simp at hn; omega)
  injection e with e
  subst e
  refine ⟨_, rfl, by rw [add_block]; exact hb, fun i hi => ?_⟩
  rw [add_of_add, hc (k + i) (by simp at hi; omega)]
  simp
theorem Row.none_nil {B : Nat} (h : Row w B none xs) : xs = [] := by
  rcases Nat.eq_zero_or_pos xs.length with h0 | h0
  · exact List.eq_nil_of_length_eq_zero h0
  · obtain ⟨ad, e, _⟩ := h h0; cases e
theorem Row.dropMap {B : Nat} (h : Row w B A xs) (k : Nat) : Row w B (A.map (fun x => x.add k)) (xs.drop k) := by
  rcases A with _ | ad
  · rw [h.none_nil]; exact fun hn => absurd hn (by simp)
  · exact h.drop k
/-- 'xs[k:]' as the model writes it. -/
theorem Row.cut {B : Nat} (h : Row w B A xs) (k c : Nat) (hc : xs.length ≤ c) : Row w B (if c = k then A else A.map (fun x => x.add k)) (xs.drop k) := by
  by_cases e : c = k
  · rw [List.drop_of_length_le (by omega)]; exact fun hn => absurd hn (by simp)
  · rw [if_neg e]; exact h.dropMap k
theorem cut_nil {k c : Nat} (hnil : A = none → c = 0) : (if c = k then A else A.map (fun x => x.add k)) = none → c - k = 0 := by
  intro h
  by_cases e : c = k
  · omega
  · rw [if_neg e] at h
    have := hnil (by simpa using h)
    omega
end

theorem below_undrew {w w' : World} {n : Nat} (h : Below (w.drewN n).heap.size (w.drewN n) w') : Below w.heap.size w w' := ⟨h.os, h.tape, h.output, h.size, h.block⟩
theorem below_next {a w : World} (h : Below a.heap.size a w) (o : Obj) : Below a.heap.size a (w.alloc o) := h.alloc h.size o

/-- Numbers as cells. -/
def i64s (zs : List Int) : List Value := zs.map (Value.int .i64)
theorem i64s_length (zs : List Int) : (i64s zs).length = zs.length := by simp [i64s]
theorem Row.int {w : World} {B : Nat} {A : Option Addr} {zs : List Int} (h : Row w B A (i64s zs)) {k : Nat} (hk : k < zs.length) :
    ∃ ad, A = some ad ∧ ad.block < B ∧ w.cell? (ad.add k) = some (.int .i64 (zs[k])) := by
  obtain ⟨ad, e, hb, hc⟩ := h.get (k := k) (by rw [i64s_length]; exact hk)
  exact ⟨ad, e, hb, by rw [hc]; simp [i64s]⟩

theorem take_succ' {α : Type} (l : List α) (k : Nat) (h : k < l.length) : l.take (k + 1) = l.take k ++ [l[k]] := List.take_succ_eq_append_getElem h
theorem i64s_append (a b : List Int) : i64s (a ++ b) = i64s a ++ i64s b := by simp [i64s]
theorem i64s_drop (a : List Int) (k : Nat) : (i64s a).drop k = i64s (a.drop k) := by simp [i64s]
theorem i64s_take (a : List Int) (k : Nat) : (i64s a).take k = i64s (a.take k) := by simp [i64s]
theorem i64s_one (a : List Int) : ∀ u ∈ i64s a, u.oneCell' = true := by
  intro u hu; obtain ⟨z, _, rfl⟩ := List.mem_map.1 hu; rfl
theorem sum_take_succ (l : List Int) (k : Nat) (h : k < l.length) : (l.take (k + 1)).sum = (l.take k).sum + l[k] := by
  rw [take_succ' l k h, List.sum_append]; simp
theorem and_mask_i64 (n : Int) (k : Nat) (hk : k ≤ 62) : bits .and .i64 n ((2 ^ k - 1 : Nat) : Int) = n % (2 ^ k : Nat) := by
  have hp : 2 ^ k ≤ 2 ^ 62 := Nat.pow_le_pow_right (by decide) hk
  have hpos : 0 < 2 ^ k := Nat.two_pow_pos k
  show IntKind.i64.wrap ((BitVec.ofInt 64 n &&& BitVec.ofInt 64 ((2 ^ k - 1 : Nat) : Int)).toNat : Int) = _
  rw [BitVec.toNat_and, BitVec.toNat_ofInt, BitVec.toNat_ofInt]
  have e1 : (((2 ^ k - 1 : Nat) : Int) % ((2 ^ 64 : Nat) : Int)).toNat = 2 ^ k - 1 := by
    rw [Int.emod_eq_of_lt (by omega) (by omega)]; omega
  rw [e1, Nat.and_two_pow_sub_one_eq_mod]
  have hlt : (n % ((2 ^ 64 : Nat) : Int)).toNat % 2 ^ k < 2 ^ k := Nat.mod_lt _ hpos
  rw [IntKind.wrap_i64]
  have e2 : (((n % ((2 ^ 64 : Nat) : Int)).toNat % 2 ^ k : Nat) : Int) = n % ((2 ^ k : Nat) : Int) := by
    rw [Int.natCast_emod, Int.toNat_of_nonneg (Int.emod_nonneg _ (by decide))]
    apply Int.emod_emod_of_dvd
    exact Int.natCast_dvd_natCast.2 (Nat.pow_dvd_pow 2 (by omega))
  rw [← e2]
  omega
end Go.Proofs.Ytjhmdflagkenbaa
/- Arguments opened into what the walks are told of them. No program is named here. -/
namespace Go.Proofs.Ytjhmdflagkenbaa
open Go.ChangeShapes Go.WideShapes Go.ChangeAt Go.RowKit
set_option linter.unusedVariables false

theorem cell_lt {w : World} {a : Addr} {v : Value} (h : w.cell? a = some v) : a.block < w.heap.size := by
  rcases Nat.lt_or_ge a.block w.heap.size with hlt | hge
  · exact hlt
  · have hn : w.heap[a.block]? = none := Array.getElem?_eq_none hge
    simp [World.cell?, hn] at h

section
variable {H : Type} {enc : TypeId × Value → H} {P : Program} {w : World} {base : Nat} {spare : Nat → Bool} {held : Bool}
theorem row_of_cells {A : Addr} {xs : List Value} (h : ∀ i (hi : i < xs.length), w.cell? (A.add i) = some xs[i]) : Row w w.heap.size (some A) xs := fun hn => by
  have h0 := cell_lt (h 0 hn)
  rw [add_block] at h0
  exact ⟨A, rfl, h0, h⟩
/-- A slice of integers of one kind: its numbers, whatever the address. -/
theorem open_int_row {t e : TypeId} {k : IntKind} {fuel : Nat} {A : Option Addr} {n c : Nat} {x : DataW H × List MemPlace} (ht : P.underlying t = some (.slice e)) (he : P.underlying e = some (.int k)) (hc : P.cellsOf e = 1)
    (h : DataW.trod enc P w base spare held fuel t (Value.slice A n c).cells.toList = some x) :
    ∃ zs : List Int, n = zs.length ∧ Row w w.heap.size A (zs.map (Value.int k)) ∧ (∀ z ∈ zs, (Lit.int k z).wf = true) ∧ zs.length ≤ c ∧ c ≤ maxLen ∧ (A = none → c = 0) := by
  rcases open_ints ht he hc h with ⟨hcs, _⟩ | ⟨a, l, cap, zs, hcs, _, hl, hm, hz, _, hcell, hwz⟩
  · simp [Value.cells] at hcs
    obtain ⟨rfl, rfl, rfl⟩ := hcs
    exact ⟨[], rfl, Row.nil _ _ _, by simp, by simp, by simp [maxLen], fun _ => rfl⟩
  · simp [Value.cells] at hcs
    obtain ⟨rfl, rfl, rfl⟩ := hcs
    have hlen : n ≤ zs.length := by rw [hz]; split <;> omega
    refine ⟨zs.take n, by simp; omega, row_of_cells (fun i hi => ?_), fun z hz => hwz z (List.mem_of_mem_take hz), by simp; omega, hm, fun h => by cases h⟩
    have hi' : i < n ∧ i < zs.length := by simp at hi; omega
    rw [hcell i hi'.2]
    simp [hi'.2]
end
theorem i64_bounds {zs : List Int} (h : ∀ z ∈ zs, (Lit.int .i64 z).wf = true) : ∀ k (hk : k < zs.length), -9223372036854775808 ≤ zs[k] ∧ zs[k] ≤ 9223372036854775807 :=
  fun k hk => bounds_i64 (h _ (List.getElem_mem hk))
end Go.Proofs.Ytjhmdflagkenbaa
/- Arguments whose cells are all integers (structs of structs and arrays of such), and slices of such, opened. -/
namespace Go.Proofs.Ytjhmdflagkenbaa
open Go.Joins Go.ChangeShapes Go.WideShapes Go.RowKit Go.ChangeAt Go.Deep
set_option linter.unusedVariables false
set_option linter.unusedSimpArgs false

/-- All cells of a type are integers of kind i64. -/
def flatT (P : Program) : Nat → TypeId → Bool
  | 0, _ => false
  | d + 1, t => match P.underlying t with
    | some (.int .i64) => true
    | some (.struct fs) => (fs.all fun f => flatT P d f.type) && (List.range (P.cellsOf t)).all fun i => fs.any fun f => decide (f.offset ≤ i) && decide (i < f.offset + P.cellsOf f.type)
    | some (.array n e) => flatT P d e && decide (0 < P.cellsOf e) && decide (P.cellsOf t = n * P.cellsOf e)
    | _ => false
def IsInt (v : Value) : Prop := ∃ z : Int, v = .int .i64 z ∧ (Lit.int .i64 z).wf = true
section
variable {H : Type} {enc : TypeId × Value → H} {P : Program} {w : World} {base : Nat} {spare : Nat → Bool} {held : Bool}
theorem trod_flat : ∀ (d : Nat) (t : TypeId) (fuel : Nat) (cs : List Value) (x : DataW H × List MemPlace), flatT P d t = true → DataW.trod enc P w base spare held fuel t cs = some x → ∀ i (hi : i < cs.length), IsInt cs[i] := by
  intro d
  induction d with
  | zero => intro t fuel cs x h; simp [flatT] at h
  | succ d ih =>
    intro t fuel cs x h hx i hi
    unfold flatT at h
    split at h
    · rename_i hu
      obtain ⟨n, rfl, _, hw⟩ := DataW.trod_int hu hx
      have : i = 0 := by simp at hi; exact hi
      subst this
      exact ⟨n, rfl, hw⟩
    · rename_i fs hu
      simp only [Bool.and_eq_true, Array.all_eq_true_iff_forall_mem, List.all_eq_true, List.mem_range, Array.any_eq_true, decide_eq_true_eq] at h
      obtain ⟨h1, h2⟩ := h
      obtain ⟨xs, n, _, _, hl, hlen, hf⟩ := DataW.trod_struct hu hx
      obtain ⟨j, hj, h3, h4⟩ := h2 i (by omega)
      have h5 := hf j fs[j] (by simp [hj])
      rw [show xs[j]? = some (xs[j]'(by omega)) from List.getElem?_eq_getElem (by omega)] at h5
      have hlt : i - fs[j].offset < ((cs.drop fs[j].offset).take (P.cellsOf fs[j].type)).length := by
        rw [List.length_take, List.length_drop]; omega
      have h6 := ih _ _ _ _ (h1 _ (Array.getElem_mem hj)) h5 (i - fs[j].offset) hlt
      rw [List.getElem_take, List.getElem_drop] at h6
      have : fs[j].offset + (i - fs[j].offset) = i := by omega
      simpa [this] using h6
    · rename_i n e hu
      simp only [Bool.and_eq_true, decide_eq_true_eq] at h
      obtain ⟨⟨h1, h2⟩, h3⟩ := h
      obtain ⟨xs, m, _, _, hl, hlen, hf⟩ := DataW.trod_array hu hx
      have hin : i < n * P.cellsOf e := by omega
      have hq : i / P.cellsOf e < n := Nat.div_lt_of_lt_mul (by rw [Nat.mul_comm]; exact hin)
      have h5 := hf _ hq
      rw [show xs[i / P.cellsOf e]? = some (xs[i / P.cellsOf e]'(by omega)) from List.getElem?_eq_getElem (by omega)] at h5
      have hdm : i / P.cellsOf e * P.cellsOf e + i % P.cellsOf e = i := Nat.div_add_mod' i _
      have hm := Nat.mod_lt i h2
      have hle : i / P.cellsOf e * P.cellsOf e + P.cellsOf e ≤ n * P.cellsOf e := by
        have := Nat.mul_le_mul_right (P.cellsOf e) hq
        rw [Nat.succ_mul] at this
        exact this
      have hlt : i % P.cellsOf e < ((cs.drop (i / P.cellsOf e * P.cellsOf e)).take (P.cellsOf e)).length := by
        rw [List.length_take, List.length_drop]; omega
      have h6 := ih _ _ _ _ h1 h5 (i % P.cellsOf e) hlt
      rw [List.getElem_take, List.getElem_drop] at h6
      simpa [hdm] using h6
    · cases h
theorem ints_of (cs : List Value) (h : ∀ i (hi : i < cs.length), IsInt cs[i]) : ∃ zs : List Int, cs = i64s zs ∧ ∀ z ∈ zs, (Lit.int .i64 z).wf = true := by
  induction cs with
  | nil => exact ⟨[], rfl, by simp⟩
  | cons c r ih =>
    obtain ⟨z, e, hz⟩ := h 0 (by simp)
    obtain ⟨zs, e', hzs⟩ := ih fun i hi => by
      have := h (i + 1) (by simpa using hi)
      rw [List.getElem_cons_succ] at this
      exact this
    simp only [List.getElem_cons_zero] at e
    subst e e'
    refine ⟨z :: zs, rfl, fun x hx => ?_⟩
    rcases List.mem_cons.1 hx with rfl | hx
    · exact hz
    · exact hzs x hx
/-- A struct whose cells are all integers. -/
theorem open_flat {r : Reach} {b0 : Nat} {t : TypeId} {fs : Array Field} {v : Value} {x : DataW H} {p : List MemPlace} {C d : Nat} (hs : P.underlying t = some (.struct fs)) (hC : P.cellsOf t = C) (hf : flatT P d t = true)
    (hv : Value.okWide P w r b0 t v) (h : DataW.Trod enc P w base spare held t v x p) : ∃ zs : List Int, v = .agg (i64s zs).toArray ∧ zs.length = C ∧ ∀ z ∈ zs, (Lit.int .i64 z).wf = true := by
  obtain ⟨cs, rfl, hsz⟩ := okWide_struct hs hv
  obtain ⟨fuel, hf'⟩ := h
  have h1 := trod_flat d t fuel _ _ hf hf'
  obtain ⟨zs, e, hz⟩ := ints_of cs.toList (by simpa [Value.cells] using h1)
  have hl := congrArg List.length e
  rw [i64s_length] at hl
  refine ⟨zs, by rw [← e], by rw [← hl]; simp [hsz, hC], hz⟩
/-- A slice of such. -/
theorem open_flat_row {t e : TypeId} {fuel n c C d : Nat} {A : Option Addr} {x : DataW H × List MemPlace} (ht : P.underlying t = some (.slice e)) (hC : P.cellsOf e = C) (hC0 : 0 < C) (hf : flatT P d e = true)
    (h : DataW.trod enc P w base spare held fuel t (Value.slice A n c).cells.toList = some x) :
    ∃ zs : List Int, zs.length = n * C ∧ Row w w.heap.size A (i64s zs) ∧ (∀ z ∈ zs, (Lit.int .i64 z).wf = true) ∧ n ≤ c ∧ c ≤ maxLen ∧ (A = none → c = 0) := by
  rcases open_slice ht h with ⟨hcs, _⟩ | ⟨a, len, cap, m, nn, D, Pl, hcs, _, hl, hm, hmm, _, hi⟩
  · simp [Value.cells] at hcs
    obtain ⟨rfl, rfl, rfl⟩ := hcs
    exact ⟨[], by simp, Row.nil _ _ _, by simp, by simp, by simp [maxLen], fun _ => rfl⟩
  · simp [Value.cells] at hcs
    obtain ⟨rfl, rfl, rfl⟩ := hcs
    have hlen : n ≤ m := by rw [hmm]; split <;> omega
    have each : ∀ j, j < n * C → ∃ z : Int, w.cell? (a.add j) = some (.int .i64 z) ∧ (Lit.int .i64 z).wf = true := fun j hj => by
      have hq : j / C < n := Nat.div_lt_of_lt_mul (by rw [Nat.mul_comm]; exact hj)
      have hr := Nat.mod_lt j hC0
      obtain ⟨cs', hc, htr⟩ := hi (j / C) (by omega)
      rw [hC] at hc
      obtain ⟨_, hcl, hat⟩ := World.cells?_some hc
      obtain ⟨z, e1, hz⟩ := trod_flat d _ _ _ _ hf htr (j % C) (by omega)
      have h1 := hat (j % C) hr
      rw [add_of_add, Nat.div_add_mod' j C, List.getElem?_eq_getElem (by omega), e1] at h1
      exact ⟨z, h1, hz⟩
    have hch : ∃ f : Nat → Int, ∀ j, j < n * C → w.cell? (a.add j) = some (.int .i64 (f j)) ∧ (Lit.int .i64 (f j)).wf = true := by
      refine ⟨fun j => if hj : j < n * C then Classical.choose (each j hj) else 0, fun j hj => ?_⟩
      simp only [hj, dif_pos]
      exact Classical.choose_spec (each j hj)
    obtain ⟨f, hf'⟩ := hch
    refine ⟨(List.range (n * C)).map f, by simp, row_of_cells fun j hj => ?_, fun z hz => ?_, hl, hm, fun h => by cases h⟩
    · have hj' : j < n * C := by simpa [i64s] using hj
      rw [(hf' j hj').1]
      simp [i64s]
    · obtain ⟨j, hj, rfl⟩ := List.mem_map.1 hz
      exact (hf' j (by simpa using hj)).2
end
end Go.Proofs.Ytjhmdflagkenbaa
/- Answers that are numbers and truth values. -/
namespace Go.Proofs.Ytjhmdflagkenbaa
open Go.RowKit

theorem ret_int {k : IntKind} {a b : Int} (h : a = b) : Ending.returned (.int k a) = .returned (.int k b) := by rw [h]
theorem ret_bool {a b : Bool} (h : a = b) : Ending.returned (.bool a) = .returned (.bool b) := by rw [h]
end Go.Proofs.Ytjhmdflagkenbaa
/- unit.Hold. -/
namespace Go.Proofs.Ytjhmdflagkenbaa
open Go.RowKit

def holdZ (n : Int) : Int := max (-1073741824) (min n 1073741824)
theorem hold_bd (n : Int) : -1073741824 ≤ holdZ n ∧ holdZ n ≤ 1073741824 := by unfold holdZ; omega
theorem within_any (n m : Int) (w : World) (h0 : 0 ≤ m) (h1 : m ≤ 4611686018427387904) (hn : -9223372036854775808 ≤ n) (hn' : n ≤ 9223372036854775807) :
    Calls Try.prog 50 #[.int .i64 n, .int .i64 m] w fun e w' => e = .returned (.int .i64 (max (-m) (min n m))) ∧ w = w' := by
  rcases (show n < -m ∨ (-m ≤ n ∧ n ≤ m) ∨ m < n by omega) with h | ⟨h, h'⟩ | h
  all_goals
    go_enter Try.func50, Try.ntmps50
    go_wp2
    all_goals (go_ret; exact ⟨ret_int (by omega), rfl⟩)
theorem hold_any (n : Int) (w : World) (hn : -9223372036854775808 ≤ n) (hn' : n ≤ 9223372036854775807) :
    Calls Try.prog 48 #[.int .i64 n] w fun e w' => e = .returned (.int .i64 (holdZ n)) ∧ w = w' := by
  go_enter Try.func48, Try.ntmps48
  go_wp2_with (go_at_call 50; refine (within_any _ _ _ (by omega) (by omega) (by omega) (by omega)).mono ?_; rintro e w' ⟨rfl, rfl⟩)
  go_ret
  exact ⟨rfl, rfl⟩
end Go.Proofs.Ytjhmdflagkenbaa
/- unit: lengths in pixels. -/
namespace Go.Proofs.Ytjhmdflagkenbaa
open Go.RowKit


def nearZ (n m : Int) : Int := (n + m / 2) / m
def pxZ (t : Int) : Int := holdZ (nearZ (64 * max (-1000000000000) (min t 1000000000000)) 1000)
def pctZ (b h : Int) : Int := holdZ (nearZ (holdZ b * max (-1000000000) (min h 1000000000)) 10000)
def In64 (n : Int) : Prop := -9223372036854775808 ≤ n ∧ n ≤ 9223372036854775807

theorem tdiv_floor (a m : Int) (hm : 0 < m) : (a.tmod m < 0 → a.tdiv m - 1 = a / m) ∧ (0 ≤ a.tmod m → a.tdiv m = a / m) := by
  have h1 := @Int.tdiv_eq_ediv a m
  have h2 := @Int.tmod_eq_emod a m
  have h3 := Int.emod_nonneg a (Int.ne_of_gt hm)
  have h4 := Int.emod_lt_of_pos a hm
  have h5 : m.sign = 1 := Int.sign_eq_one_of_pos hm
  have h6 : (m.natAbs : Int) = m := by omega
  by_cases h : 0 ≤ a ∨ m ∣ a
  · rw [if_pos h] at h1 h2
    constructor <;> intro h' <;> omega
  · rw [if_neg h, h5] at h1
    rw [if_neg h] at h2
    constructor <;> intro h' <;> omega
theorem tdiv_bd (a m : Int) (hm : 0 < m) (h0 : -6917529027641081856 ≤ a) (h1 : a ≤ 6917529027641081856) : -6917529027641081856 ≤ a / m ∧ a / m ≤ 6917529027641081856 := by
  have h := Int.mul_ediv_add_emod a m
  have h3 := Int.emod_nonneg a (Int.ne_of_gt hm)
  have h4 := Int.emod_lt_of_pos a hm
  constructor
  · by_cases ha : 0 ≤ a
    · have := Int.ediv_nonneg ha (Int.le_of_lt hm); omega
    · have : a ≤ a / m := by
        rw [Int.le_ediv_iff_mul_le hm]
        have : a * m ≤ a * 1 := Int.mul_le_mul_of_nonpos_left (by omega) (by omega)
        omega
      omega
  · by_cases ha : 0 ≤ a
    · have := Int.ediv_le_self m ha; omega
    · have : a / m < 0 := Int.ediv_neg_of_neg_of_pos (by omega) hm
      omega
theorem nearest_any (n m : Int) (w : World) (h0 : 1 ≤ m) (h1 : m ≤ 4611686018427387904) (hn : -4611686018427387904 ≤ n) (hn' : n ≤ 4611686018427387904) :
    Calls Try.prog 49 #[.int .i64 n, .int .i64 m] w fun e w' => e = .returned (.int .i64 (nearZ n m)) ∧ w = w' := by
  have hd := tdiv_floor (n + m / 2) m (by omega)
  have hb := tdiv_bd (n + m / 2) m (by omega) (by omega) (by omega)
  have hq : -9223372036854775807 ≤ (n + m / 2).tdiv m ∧ (n + m / 2).tdiv m ≤ 9223372036854775807 := by
    by_cases hs : (n + m / 2).tmod m < 0
    · have := hd.1 hs; omega
    · have := hd.2 (by omega); omega
  obtain ⟨hq1, hq2⟩ := hq
  by_cases hs : (n + m / 2).tmod m < 0
  · have h := Lib.hid (hd.1 hs)
    clear hd hb
    go_enter Try.func49, Try.ntmps49
    go_wp2
    go_ret
    exact ⟨ret_int h.out, rfl⟩
  · have h := Lib.hid (hd.2 (by omega))
    clear hd hb
    go_enter Try.func49, Try.ntmps49
    go_wp2
    go_ret
    exact ⟨ret_int h.out, rfl⟩
theorem near_bd (n m : Int) (h0 : 1 ≤ m) (hn : -4611686018427387904 ≤ n) (hn' : n ≤ 4611686018427387904) (hm : m ≤ 4611686018427387904) : -9223372036854775808 ≤ nearZ n m ∧ nearZ n m ≤ 9223372036854775807 := by
  have hd := tdiv_floor (n + m / 2) m (by omega)
  have hb := tdiv_bd (n + m / 2) m (by omega) (by omega) (by omega)
  unfold nearZ
  by_cases hs : (n + m / 2).tmod m < 0
  · have := hd.1 hs; omega
  · have := hd.2 (by omega); omega
end Go.Proofs.Ytjhmdflagkenbaa
/- One block of the call's own, its cells all told, none frozen: kept over draws, stores, new blocks. No program is named here. -/
namespace Go.Proofs.Ytjhmdflagkenbaa
set_option linter.unusedVariables false
set_option linter.unusedSimpArgs false
open Go.RowKit

/-- Block g holds just the cells cs (of element type t), and may be written. -/
def Whole (w : World) (g : Nat) (t : TypeId) (cs : List Value) : Prop := w.heap[g]? = some (.cells cs.toArray t (0, 0))

section
variable {w w' : World} {g : Nat} {t : TypeId} {cs : List Value}
theorem Whole.size (h : Whole w g t cs) : g < w.heap.size := (Array.getElem?_eq_some_iff.1 h).1
theorem Whole.cell (h : Whole w g t cs) (i : Nat) : w.cell? ⟨g, i, none⟩ = cs[i]? := by
  rw [cell_of_row w g i cs.toArray t (0, 0) h]; simp
theorem Whole.free (h : Whole w g t cs) (i : Nat) : w.frozen? ⟨g, i, none⟩ = false := by
  have h' : w.heap[g]? = some (.cells cs.toArray t (0, 0)) := h
  simp [World.frozen?, h']
theorem Whole.mk (w : World) (t : TypeId) (cs : Array Value) : Whole (w.alloc (.cells cs t)) w.heap.size t cs.toList := by
  have h := heap_alloc_new w (.cells cs t)
  simpa [Whole] using h
theorem Whole.made (h : Whole w g t cs) (o : Obj) : Whole (w.alloc o) g t cs := (Below.heap_alloc w o g h.size).trans h
theorem Whole.drawn (h : Whole w g t cs) (n : Nat) : Whole (w.drewN n) g t cs := h
theorem Whole.undrawn {n : Nat} (h : Whole (w.drewN n) g t cs) : Whole w g t cs := h
theorem Whole.put (h : Whole w g t cs) (i : Nat) (u : Value) : Whole (w.setCell ⟨g, i, none⟩ u) g t (cs.set i u) := by
  have h' : w.heap[g]? = some (.cells cs.toArray t (0, 0)) := h
  unfold Whole
  simp [World.setCell, Array.getElem?_modify, h']
theorem Whole.other (h : Whole w g t cs) {p : Addr} (hp : g ≠ p.block) (u : Value) : Whole (w.setCell p u) g t cs := (Below.heap_setCell w p u g hp).trans h
theorem Whole.under {B : Nat} (h : Whole w g t cs) (hb : Below B w w') (hg : g < B) : Whole w' g t cs := (hb.block g hg).trans h
/-- Four cells, as the walk asks for them. -/
theorem Whole.four {a b c d : Value} (h : Whole w g t [a, b, c, d]) : w.cell? ⟨g, 0, none⟩ = some a ∧ w.cell? ⟨g, 1, none⟩ = some b ∧ w.cell? ⟨g, 2, none⟩ = some c ∧ w.cell? ⟨g, 3, none⟩ = some d :=
  ⟨h.cell 0, h.cell 1, h.cell 2, h.cell 3⟩
theorem Whole.fourFree {a b c d : Value} (h : Whole w g t [a, b, c, d]) : w.frozen? ⟨g, 0, none⟩ = false ∧ w.frozen? ⟨g, 1, none⟩ = false ∧ w.frozen? ⟨g, 2, none⟩ = false ∧ w.frozen? ⟨g, 3, none⟩ = false :=
  ⟨h.free 0, h.free 1, h.free 2, h.free 3⟩
theorem Whole.putFour {a b c d : Value} (h : Whole w g t [a, b, c, d]) (a' b' c' d' : Value) :
    Whole ((((w.setCell ⟨g, 0, none⟩ a').setCell ⟨g, 1, none⟩ b').setCell ⟨g, 2, none⟩ c').setCell ⟨g, 3, none⟩ d') g t [a', b', c', d'] := (((h.put 0 a').put 1 b').put 2 c').put 3 d'
end
end Go.Proofs.Ytjhmdflagkenbaa
/- A region that draws its order: its head reads, and calls what keeps a class of worlds; its tail (stores, assignments) goes in one forced order. And a class told by a parameter, so that the walk rewrites with what all its worlds have in common. No program is named here. -/
namespace Go.Proofs.Ytjhmdflagkenbaa
set_option linter.unusedVariables false
set_option linter.unusedSimpArgs false
open Go Go.RowKit

section
variable {P : Program} {ops : Array Oper} {md : Region.Mode} {C : World → Prop}

/-- The head's operations in whatever order they come up, each before the n-th; L behind them. -/
def headAny (P : Program) (md : Region.Mode) (ops : Array Oper) (C : World → Prop) (n : Nat) (L : Array Bool → Act → Prop) : Nat → Array Bool → Act → Prop
  | 0, listed, a => L listed a
  | f + 1, listed, a => Region.ready md ops listed ≠ [] ∧ ∀ i ∈ Region.ready md ops listed, i < n ∧ qOp P ops C i (headAny P md ops C n L f (listed.setIfInBounds i true)) a

theorem any_of_headAny {n g : Nat} {L : Array Bool → Act → Prop} {Q' : Exit → Act → World → Prop} (hL : ∀ listed a w, C w → L listed a → wpAny P md ops Q' g listed a w) :
    ∀ (f : Nat) (listed : Array Bool) (a : Act) (w : World), C w → headAny P md ops C n L f listed a → wpAny P md ops Q' (f + g) listed a w := by
  intro f
  induction f with
  | zero => intro listed a w hw h; rw [Nat.zero_add]; exact hL _ _ _ hw h
  | succ f ih =>
    intro listed a w hw h
    rw [show f + 1 + g = (f + g) + 1 by omega]
    exact ⟨fun h0 => absurd h0 h.1, fun i hi => wpOp_of_qOp hw (fun a' w' hw' h' => ih _ a' w' hw' h') (h.2 i hi).2⟩

theorem headAny_first {n i : Nat} {oi : Oper} {v : Value} {L : Array Bool → Act → Prop} (hi : ops[i]? = some oi) (hsel : ∀ (j : Nat) (o : Oper) cs b, ops[j]? = some o → o.op ≠ .select cs b)
    (hs : Region.sinkB md ops n = true) (hc : Region.chainB md ops n = true) (hn : n < ops.size) (hin : i < n) (hdone : ∀ listed a, L listed a → ∀ j ∈ Region.ready md ops listed, n ≤ j) (f : Nat) :
    ∀ (listed : Array Bool) (a : Act), HeadInv md ops n listed →
      (∀ j oj, ops[j]? = some oj → j ≠ i → listed.getD j true = false → (∀ e ∈ oj.after, Region.binds md e = true → e.on ≠ i) → oi.apart ops oj = true) →
      i ∈ Region.ready md ops listed → YieldsIn P ops C oi v a →
      headAny P md ops C n L f (listed.setIfInBounds i true) (a.put oi.dst v) → headAny P md ops C n L (f + 1) listed a := by
  induction f with
  | zero =>
    intro listed a inv _ hr hy H
    have hun := (mem_ready.1 hr).1
    refine ⟨fun h => (by rw [h] at hr; cases hr), fun j hj => ?_⟩
    have hjn : j < n := Nat.lt_of_not_le fun h => tail_waits hs hc hn inv _ i rfl hin hun j h hj
    by_cases e : j = i
    · subst e; exact ⟨hjn, hy.qOp hi H⟩
    · have := hdone _ _ H j (ready_mono hj e); omega
  | succ f ih =>
    intro listed a inv hfree hr hy H
    have hun := (mem_ready.1 hr).1
    refine ⟨fun h => (by rw [h] at hr; cases hr), fun j hj => ?_⟩
    have hjn : j < n := Nat.lt_of_not_le fun h => tail_waits hs hc hn inv _ i rfl hin hun j h hj
    by_cases e : j = i
    · subst e; exact ⟨hjn, hy.qOp hi H⟩
    · obtain ⟨hjun, oj, hoj, hall⟩ := mem_ready.1 hj
      have hnot : ∀ e ∈ oj.after, Region.binds md e = true → e.on ≠ i := fun e he hb heq => by
        have h1 := hall e he hb
        rw [heq, getD_both hun] at h1
        cases h1
      refine ⟨hjn, qOp_mono (fun a' h3 => ih (listed.setIfInBounds j true) a' (inv.set hj hjn) (fun k ok hk hki hk1 hno => hfree k ok hk hki ?_ hno) (ready_mono hr (Ne.symm e)) h3.1 ?_)
        (qOp_put hoj (hfree j oj hoj e hjun hnot) (fun cs b => hsel i oi cs b hi) (fun cs b => hsel j oj cs b hoj) hy (H.2 j (ready_mono hj e)).2)⟩
      · by_cases hjk : j = k
        · subst hjk; exact hjun
        · rw [getD_set_ne true hjk] at hk1; exact hk1
      · rw [Array.setIfInBounds_comm _ _ e]; exact h3.2

theorem headAny_lex {n g : Nat} {Lq : Act → Prop} (hsel : Region.noSelect ops = true) (hs : Region.sinkB md ops n = true) (hc : Region.chainB md ops n = true) (hn : n < ops.size) (l : List Oper) :
    ∀ (k : Nat) (listed : Array Bool) (a : Act), (∀ j, j < l.length → l[j]? = ops[k + j]?) → k + l.length = n → HeadInv md ops n listed →
    Region.lexHead md ops g l.length k listed = true → wpQuiet P ops C Lq l a → headAny P md ops C n (fun listed' a' => Region.seqB md ops g n listed' = true ∧ Lq a') l.length listed a := by
  induction l with
  | nil =>
    intro k listed a _ hk _ hB h
    obtain rfl : k = n := by simpa using hk
    exact ⟨by simpa [Region.lexHead] using hB, h⟩
  | cons o l ih =>
    intro k listed a hl hk inv hB h
    have h0 : ops[k]? = some o := by simpa using (hl 0 (by simp)).symm
    simp only [List.length_cons, Region.lexHead, Bool.and_eq_true] at hB
    obtain ⟨⟨hr, hf⟩, hB'⟩ := hB
    simp only [List.length_cons] at hk
    have hr' : k ∈ Region.ready md ops listed := by simpa using hr
    have hst : qOp P ops C k (wpQuiet P ops C Lq l) a := by unfold qOp; simp only [h0]; exact h
    obtain ⟨v, hy, hK⟩ := yieldsIn_of_qOp h0 hst
    refine headAny_first h0 (Region.noSelect_spec hsel) hs hc hn (by omega) (fun listed' a' hL => seqB_ready hL.1) l.length listed a inv (Region.free_spec h0 hf) hr' hy
      (ih (k + 1) _ _ (fun j hj => ?_) (by omega) (inv.set hr' (by omega)) hB' hK)
    have := hl (j + 1) (by simp; omega)
    simpa [Nat.add_assoc, Nat.add_comm 1 j] using this

/-- The head in the text's order, once, over the class; then the tail as a list. -/
theorem region_class_tail {id : Nat} {Q : Exit → Act → World → Prop} {a : Act} {w : World} {l : List Oper} (n : Nat) (hm : P.follows .mixedOrders = true) (hB : Region.lexTailB .any l.toArray n = true) (hC : C { w with drawn := w.drawn + 1 })
    (h : wpQuiet P l.toArray C (fun a' => ∀ w', C w' → wpList P l.toArray Q (l.drop n) a' w') (l.take n) a) : (Code.region id l.toArray true).wp P Q a w := by
  simp only [Region.lexTailB, Bool.and_eq_true, decide_eq_true_eq] at hB
  obtain ⟨⟨⟨⟨hsel, hn⟩, hs⟩, hc⟩, hlex⟩ := hB
  have hn' : n < l.length := by simpa using hn
  have htl : (l.take n).length = n := by simp; omega
  have hdl : (l.drop n).length = l.toArray.size - n := by simp
  have inv0 : HeadInv .any l.toArray n (Array.replicate l.toArray.size false) :=
    ⟨by simp, fun j oj _ hl => (by rw [getD_replicate_false] at hl; cases hl), fun t _ ht => getD_in (by simpa using ht) (getD_replicate_false _ _)⟩
  have H := headAny_lex (md := .any) (g := l.toArray.size - n) hsel hs hc hn (l.take n) 0 _ a (fun j hj => by
    have hj' : j < n := by rw [htl] at hj; exact hj
    simp [hj']) (by simpa using htl) inv0 (by rw [htl]; exact hlex) h
  refine wp_region_any hm ?_
  have := any_of_headAny (Q' := Q) (g := l.toArray.size - n) (fun listed a' w' hw' hL => by
    have := wpAny_of_seq (md := .any) (Q' := Q) (l.drop n) n listed a' w' (fun j => by simp [List.getElem?_drop]) (by rw [hdl]; exact hL.1) (hL.2 w' hw')
    rwa [hdl] at this) _ _ _ _ hC H
  rw [htl, show n + (l.toArray.size - n) = l.toArray.size by omega] at this
  exact this
end

/-- A world that differs from w0 in blocks from B on alone. -/
structure Later (B : Nat) (w0 : World) where
  w : World
  h : Below B w0 w
instance laterSome {B : Nat} {w0 : World} : Nonempty (Later B w0) := ⟨⟨w0, Below.refl _ _⟩⟩
theorem Later.drawn {B : Nat} {w0 : World} (hb : Below B w0 w0) : ∃ s : Later B w0, ({ w0 with drawn := w0.drawn + 1 } : World) = s.w := ⟨⟨{ w0 with drawn := w0.drawn + 1 }, ⟨hb.os, hb.tape, hb.output, hb.size, hb.block⟩⟩, rfl⟩
theorem later_call {P : Program} {f : FuncId} {args : Array Value} {B : Nat} {w0 : World} {v : Value} (s : Later B w0) (hB : B ≤ w0.heap.size) (h : Calls P f args s.w fun e w' => e = .returned v ∧ Below s.w.heap.size s.w w') :
    Calls P f args s.w fun e w'' => e = .returned v ∧ ∃ s' : Later B w0, w'' = s'.w :=
  h.mono fun _ w' ⟨he, hb⟩ => ⟨he, ⟨w', s.h.trans (hb.mono (Nat.le_trans hB s.h.size))⟩, rfl⟩
theorem later_same {P : Program} {f : FuncId} {args : Array Value} {B : Nat} {w0 : World} {v : Value} (s : Later B w0) (h : Calls P f args s.w fun e w' => e = .returned v ∧ s.w = w') :
    Calls P f args s.w fun e w'' => e = .returned v ∧ ∃ s' : Later B w0, w'' = s'.w :=
  h.mono fun _ _ ⟨he, hb⟩ => ⟨he, s, hb.symm⟩
theorem region_later {P : Program} {id : Nat} {Q : Exit → Act → World → Prop} {a : Act} {w : World} {l : List Oper} (hm : P.follows .mixedOrders = true) (hB : Region.lexB .any l.toArray = true)
    (h : wpQuiet P l.toArray (fun w' => ∃ s : Later w.heap.size w, w' = s.w) (fun a' => ∀ w', (∃ s : Later w.heap.size w, w' = s.w) → Q .normal a' w') l a) : (Code.region id l.toArray true).wp P Q a w :=
  wp_region_quiet (C := fun w' => ∃ s : Later w.heap.size w, w' = s.w) hm hB (Later.drawn (Below.refl _ _)) (by simpa using h)
theorem region_later_tail {P : Program} {id : Nat} {Q : Exit → Act → World → Prop} {a : Act} {w : World} {l : List Oper} (n : Nat) (hm : P.follows .mixedOrders = true) (hB : Region.lexTailB .any l.toArray n = true)
    (h : wpQuiet P l.toArray (fun w' => ∃ s : Later w.heap.size w, w' = s.w) (fun a' => ∀ w', (∃ s : Later w.heap.size w, w' = s.w) → wpList P l.toArray Q (l.drop n) a' w') (l.take n) a) : (Code.region id l.toArray true).wp P Q a w :=
  region_class_tail n hm hB (Later.drawn (Below.refl _ _)) h
end Go.Proofs.Ytjhmdflagkenbaa
/- Regions that draw their order, met by promises: each operation of the head tells, of what it looks at alone, what it yields; then any order goes. No program is named here. -/
namespace Go.Proofs.Ytjhmdflagkenbaa
set_option linter.unusedVariables false
set_option linter.unusedSimpArgs false
open Go Go.RowKit

section
variable {P : Program} {ops : Array Oper}

/-- w' lies behind w: what was there is there. -/
def Behind (w w' : World) : Prop := Below w.heap.size w w'
theorem Behind.refl (w : World) : Behind w w := Below.refl _ _
theorem Behind.trans {a b c : World} (h : Behind a b) (k : Behind b c) : Behind a c := Below.trans h (Below.mono k h.size)
theorem Behind.drawn (w : World) : Behind w { w with drawn := w.drawn + 1 } := ⟨rfl, rfl, rfl, Nat.le_refl _, fun _ _ => rfl⟩

/-- What is told of a slot's value. -/
abbrev Told := Value → World → Prop
def Steady (T : Told) : Prop := ∀ v w w', Behind w w' → T v w → T v w'
theorem steady_eq (u : Value) : Steady fun v _ => v = u := fun _ _ _ _ h => h

def gives (P : Program) (o : Oper) (a : Act) (w : World) (T : Told) : Prop :=
  match (execOp a.eval o).run P w with
  | .ok (.value v) w' => Behind w w' ∧ T v w'
  | .ok .skip w' => Behind w w' ∧ T undef w'
  | .ok (.enter f args) w' => Behind w w' ∧ Calls P f args w' fun e w'' => ∃ v, e = .returned v ∧ Behind w' w'' ∧ T v w''
  | _ => False
def givesIf (P : Program) (ops : Array Oper) (o : Oper) (a : Act) (w : World) (T : Told) : Prop :=
  (Region.wanted o (yielded ops a.tmps) = true ∧ gives P o a w T) ∨ (Region.wanted o (yielded ops a.tmps) = false ∧ T undef w)

theorem wpOp_of_gives {Q : Exit → Act → World → Prop} {i : Nat} {o : Oper} {K : Act → World → Prop} {a : Act} {w : World} {T : Told} (hi : ops[i]? = some o) (h : givesIf P ops o a w T)
    (hK : ∀ v w', Behind w w' → T v w' → K (a.put o.dst v) w') : wpOp P ops Q i K a w := by
  unfold wpOp
  simp only [hi]
  rcases h with ⟨hw, h⟩ | ⟨hw, h⟩
  · rw [if_pos hw]
    refine .inl ?_
    unfold Oper.wp
    unfold gives at h
    generalize (execOp a.eval o).run P w = r at *
    cases r with
    | halt x w' => exact h.elim
    | ok n w' =>
      cases n <;> simp only [Oper.upon] at h ⊢
      case value v => exact hK _ _ h.1 h.2
      case skip => exact hK _ _ h.1 h.2
      case enter f args =>
        refine h.2.mono fun e w'' he => ?_
        obtain ⟨v, rfl, h1, h2⟩ := he
        exact hK _ _ (h.1.trans h1) h2
  · rw [if_neg (by rw [hw]; exact Bool.false_ne_true)]
    exact hK _ _ (Behind.refl w) h

/-- .. by the walk's own law, whatever follows. -/
def givesBy (P : Program) (ops : Array Oper) (o : Oper) (a : Act) (w : World) (T : Told) : Prop :=
  Region.wanted o (yielded ops a.tmps) = true ∧ ∀ (K : Act → World → Prop) (Q : Exit → Act → World → Prop), (∀ v w', Behind w w' → T v w' → K (a.put o.dst v) w') → o.wp P a w K Q
theorem wpOp_of_givesBy {Q : Exit → Act → World → Prop} {i : Nat} {o : Oper} {K : Act → World → Prop} {a : Act} {w : World} {T : Told} (hi : ops[i]? = some o) (h : givesBy P ops o a w T)
    (hK : ∀ v w', Behind w w' → T v w' → K (a.put o.dst v) w') : wpOp P ops Q i K a w := by
  unfold wpOp
  simp only [hi]
  rw [if_pos h.1]
  exact .inl (h.2 K Q hK)

/-- What is told of all slots. -/
abbrev Env := Tmp → Told
def upd (E : Env) (d : Option Tmp) (T : Told) : Env := fun t => if d = some t then T else E t
def dstOf (ops : Array Oper) (k : Nat) : Option Tmp := (ops[k]?).bind (·.dst)
def looksOf (ops : Array Oper) (k : Nat) : List Tmp := ((ops[k]?).map (·.looksAt ops)).getD []
def meets (E : Env) (ts : List Tmp) (a : Act) (w : World) : Prop := ∀ t ∈ ts, E t (a.tmps.getD t undef) w
/-- What operation o owes. -/
def owes (P : Program) (ops : Array Oper) (w0 : World) (E : Env) (o : Oper) (T : Told) : Prop :=
  Steady T ∧ ∀ a w, Behind w0 w → meets E (o.looksAt ops) a w → givesIf P ops o a w T ∨ givesBy P ops o a w T

def lane (P : Program) (ops : Array Oper) (w0 : World) (Fin : Env → Prop) : List Nat → Env → Prop
  | [], E => Fin E
  | k :: r, E => ∃ o T, ops[k]? = some o ∧ owes P ops w0 E o T ∧ lane P ops w0 Fin r (upd E o.dst T)

/-- The environment behind the operations pre, by their promises. -/
def envAt (ops : Array Oper) (Ts : Nat → Told) (pre : List Nat) (E : Env) : Env := pre.foldl (fun E j => upd E (dstOf ops j) (Ts j)) E
theorem envAt_congr {Ts Ts' : Nat → Told} (pre : List Nat) : ∀ (E : Env), (∀ j ∈ pre, Ts j = Ts' j) → envAt ops Ts pre E = envAt ops Ts' pre E := by
  induction pre with
  | nil => intro E _; rfl
  | cons j r ih =>
    intro E h
    simp only [envAt, List.foldl_cons]
    rw [h j (by simp)]
    exact ih _ fun i hi => h i (by simp [hi])
theorem lane_all {w0 : World} {Fin : Env → Prop} (hs : List Nat) : ∀ (E : Env), hs.Nodup → lane P ops w0 Fin hs E →
    ∃ Ts : Nat → Told, (∀ pre k post, hs = pre ++ k :: post → ∃ o, ops[k]? = some o ∧ owes P ops w0 (envAt ops Ts pre E) o (Ts k)) ∧ Fin (envAt ops Ts hs E) := by
  induction hs with
  | nil =>
    intro E _ h
    exact ⟨fun _ _ _ => True, fun pre k post e => by simp at e, h⟩
  | cons k r ih =>
    intro E hn h
    obtain ⟨o, T, ho, hT, hr⟩ := h
    obtain ⟨hk, hn⟩ := List.nodup_cons.1 hn
    have hd : dstOf ops k = o.dst := by simp [dstOf, ho]
    obtain ⟨Ts, h1, h2⟩ := ih _ hn hr
    have hne : ∀ j ∈ r, j ≠ k := fun j hj e => hk (e ▸ hj)
    refine ⟨fun i => if i = k then T else Ts i, fun pre k' post e => ?_, ?_⟩
    · cases pre with
      | nil =>
        simp only [List.nil_append, List.cons.injEq] at e
        obtain ⟨rfl, rfl⟩ := e
        exact ⟨o, ho, by simpa [envAt] using hT⟩
      | cons j pre =>
        simp only [List.cons_append, List.cons.injEq] at e
        obtain ⟨rfl, rfl⟩ := e
        obtain ⟨o', ho', h'⟩ := h1 pre k' post rfl
        have hk' : k' ≠ k := hne k' (by simp)
        refine ⟨o', ho', ?_⟩
        have e1 : envAt ops (fun i => if i = k then T else Ts i) (k :: pre) E = envAt ops Ts pre (upd E o.dst T) := by
          simp only [envAt, List.foldl_cons, if_pos, hd]
          exact envAt_congr pre _ fun j hj => by rw [if_neg (hne j (by simp [hj]))]
        rw [e1]
        simpa [hk'] using h'
    · have e1 : envAt ops (fun i => if i = k then T else Ts i) (k :: r) E = envAt ops Ts r (upd E o.dst T) := by
        simp only [envAt, List.foldl_cons, if_pos, hd]
        exact envAt_congr r _ fun j hj => by rw [if_neg (hne j hj)]
      rw [e1]; exact h2

theorem envAt_at {Ts : Nat → Told} {t : Tmp} {v : Value} {w : World} (pre : List Nat) : ∀ (E : Env), (∀ j ∈ pre, dstOf ops j = some t → Ts j v w) → ((∀ j ∈ pre, dstOf ops j ≠ some t) → E t v w) → envAt ops Ts pre E t v w := by
  induction pre with
  | nil => intro E _ h; exact h (by simp)
  | cons j r ih =>
    intro E h1 h2
    simp only [envAt, List.foldl_cons]
    refine ih _ (fun i hi => h1 i (by simp [hi])) fun h3 => ?_
    unfold upd
    split
    · rename_i e; exact h1 j (by simp) e
    · rename_i e; exact h2 fun i hi => by
        rcases List.mem_cons.1 hi with rfl | hi
        · exact e
        · exact h3 i hi

/-- The operations that must come up ahead of the t-th. -/
def edges (md : Region.Mode) (ops : Array Oper) (t : Nat) : List Nat := ((ops[t]?).map fun o => (o.after.toList.filter fun e => Region.binds md e).map (·.on)).getD []
def needsFrom (md : Region.Mode) (ops : Array Oper) : Nat → List Nat → List Nat
  | 0, acc => acc
  | i + 1, acc => needsFrom md ops i (if acc.contains i then edges md ops i ++ acc else acc)
def needs (md : Region.Mode) (ops : Array Oper) (t : Nat) : List Nat := needsFrom md ops ops.size (edges md ops t)

variable {md : Region.Mode}
theorem mem_edges {t j : Nat} : j ∈ edges md ops t ↔ ∃ o, ops[t]? = some o ∧ ∃ e ∈ o.after, Region.binds md e = true ∧ e.on = j := by
  unfold edges
  cases h : ops[t]? with
  | none => simp
  | some o => simp [and_assoc]
theorem mem_ready' {t : Nat} {listed : Array Bool} : t ∈ Region.ready md ops listed ↔ listed.getD t true = false ∧ t < ops.size ∧ ∀ j ∈ edges md ops t, listed.getD j false = true := by
  rw [mem_ready]
  constructor
  · rintro ⟨h0, o, ho, h⟩
    refine ⟨h0, (Array.getElem?_eq_some_iff.1 ho).1, fun j hj => ?_⟩
    obtain ⟨o', ho', e, he, hb, rfl⟩ := mem_edges.1 hj
    obtain rfl : o' = o := Option.some.inj (ho'.symm.trans ho)
    exact h e he hb
  · rintro ⟨h0, hlt, h⟩
    exact ⟨h0, ops[t], Array.getElem?_eq_getElem hlt, fun e he hb => h _ (mem_edges.2 ⟨_, Array.getElem?_eq_getElem hlt, e, he, hb, rfl⟩)⟩
def Closed (md : Region.Mode) (ops : Array Oper) (listed : Array Bool) : Prop := ∀ i, listed.getD i false = true → ∀ j ∈ edges md ops i, listed.getD j false = true
theorem needsFrom_listed {listed : Array Bool} (hc : Closed md ops listed) : ∀ (i : Nat) (acc : List Nat), (∀ j ∈ acc, listed.getD j false = true) → ∀ j ∈ needsFrom md ops i acc, listed.getD j false = true
  | 0, _, h => h
  | i + 1, acc, h => by
    refine needsFrom_listed hc i _ fun j hj => ?_
    split at hj
    · rename_i hi
      rcases List.mem_append.1 hj with hj | hj
      · exact hc i (h i (by simpa using hi)) j hj
      · exact h j hj
    · exact h j hj
theorem needs_listed {listed : Array Bool} (hc : Closed md ops listed) {t : Nat} (h : ∀ j ∈ edges md ops t, listed.getD j false = true) : ∀ j ∈ needs md ops t, listed.getD j false = true := needsFrom_listed hc _ _ h

/-- Who looks at what another one leaves comes behind it, or ahead of it, in every order; no two leave the same. -/
def pairsB (md : Region.Mode) (ops : Array Oper) : List Nat → Bool
  | [] => true
  | k :: r => (r.all fun j => (!((looksOf ops j).any fun t => dstOf ops k == some t) || (needs md ops j).contains k) && (!((looksOf ops k).any fun t => dstOf ops j == some t) || (needs md ops j).contains k) && !(dstOf ops j == dstOf ops k)) && pairsB md ops r
def inTurnB (md : Region.Mode) (ops : Array Oper) (L0 : Array Bool) : List Nat → List Nat → Bool
  | _, [] => true
  | pre, k :: r => ((edges md ops k).all fun j => pre.contains j || L0.getD j false) && inTurnB md ops L0 (pre ++ [k]) r
def headB (ops : Array Oper) (size : Nat) (L0 : Array Bool) (hs : List Nat) : Bool := hs.all fun k => decide (k < ops.size) && (match dstOf ops k with | some d => decide (d < size) | none => false) && !L0.getD k false
def tailB (md : Region.Mode) (ops : Array Oper) (L0 : Array Bool) (hs : List Nat) : Bool := (List.range ops.size).all fun t => hs.contains t || L0.getD t false || hs.all fun k => (needs md ops t).contains k
def laneB (md : Region.Mode) (ops : Array Oper) (size : Nat) (L0 : Array Bool) (hs : List Nat) : Bool := pairsB md ops hs && inTurnB md ops L0 [] hs && headB ops size L0 hs && tailB md ops L0 hs
def listedAll (ops : Array Oper) (L0 : Array Bool) (hs : List Nat) : Array Bool := ((List.range ops.size).map fun i => L0.getD i false || hs.contains i).toArray

theorem pairsB_spec : ∀ (hs : List Nat), pairsB md ops hs = true → hs.Nodup ∧ ∀ pre k post, hs = pre ++ k :: post → ∀ j ∈ post,
    ((∃ t ∈ looksOf ops j, dstOf ops k = some t) → k ∈ needs md ops j) ∧ ((∃ t ∈ looksOf ops k, dstOf ops j = some t) → k ∈ needs md ops j) ∧ dstOf ops j ≠ dstOf ops k
  | [], _ => ⟨List.nodup_nil, fun pre k post e => by simp at e⟩
  | k :: r, h => by
    simp only [pairsB, Bool.and_eq_true, List.all_eq_true] at h
    obtain ⟨h1, h2⟩ := h
    obtain ⟨hn, ih⟩ := pairsB_spec r h2
    have h3 : ∀ j ∈ r, ((∃ t ∈ looksOf ops j, dstOf ops k = some t) → k ∈ needs md ops j) ∧ ((∃ t ∈ looksOf ops k, dstOf ops j = some t) → k ∈ needs md ops j) ∧ dstOf ops j ≠ dstOf ops k := fun j hj => by
      obtain ⟨⟨a1, a2⟩, a3⟩ := h1 j hj
      refine ⟨fun ⟨t, ht, e⟩ => ?_, fun ⟨t, ht, e⟩ => ?_, by simpa using a3⟩
      · simp only [Bool.or_eq_true, Bool.not_eq_true', List.contains_iff_mem] at a1
        exact a1.resolve_left fun hf => by
          rw [List.any_eq_false] at hf
          exact hf t ht (by simp [e])
      · simp only [Bool.or_eq_true, Bool.not_eq_true', List.contains_iff_mem] at a2
        exact a2.resolve_left fun hf => by
          rw [List.any_eq_false] at hf
          exact hf t ht (by simp [e])
    refine ⟨List.nodup_cons.2 ⟨fun hk => (h3 k hk).2.2 rfl, hn⟩, fun pre k' post e j hj => ?_⟩
    cases pre with
    | nil =>
      simp only [List.nil_append, List.cons.injEq] at e
      obtain ⟨rfl, rfl⟩ := e
      exact h3 j hj
    | cons x pre =>
      simp only [List.cons_append, List.cons.injEq] at e
      exact ih pre k' post e.2 j hj
theorem inTurnB_spec (L0 : Array Bool) : ∀ (hs pre0 : List Nat), inTurnB md ops L0 pre0 hs = true → ∀ pre k post, hs = pre ++ k :: post → ∀ j ∈ edges md ops k, j ∈ pre0 ∨ j ∈ pre ∨ L0.getD j false = true
  | [], _, _ => fun pre k post e => by simp at e
  | x :: r, pre0, h => by
    simp only [inTurnB, Bool.and_eq_true, List.all_eq_true, Bool.or_eq_true, List.contains_iff_mem] at h
    obtain ⟨h1, h2⟩ := h
    intro pre k post e j hj
    cases pre with
    | nil =>
      simp only [List.nil_append, List.cons.injEq] at e
      obtain ⟨rfl, rfl⟩ := e
      rcases h1 j hj with h | h
      · exact .inl h
      · exact .inr (.inr h)
    | cons y pre =>
      simp only [List.cons_append, List.cons.injEq] at e
      obtain ⟨rfl, e⟩ := e
      rcases inTurnB_spec L0 r _ h2 pre k post e j hj with h | h | h
      · rcases List.mem_append.1 h with h | h
        · exact .inl h
        · exact .inr (.inl (by simp at h; simp [h]))
      · exact .inr (.inl (by simp [h]))
      · exact .inr (.inr h)

/-- How it stands in the middle of a region, whatever has come up. -/
structure Mid (md : Region.Mode) (ops : Array Oper) (w0 : World) (a0 : Act) (L0 : Array Bool) (hs : List Nat) (E0 : Env) (Ts : Nat → Told) (listed : Array Bool) (a : Act) (w : World) : Prop where
  behind : Behind w0 w
  size : listed.size = ops.size
  defers : a.defers = a0.defers
  tsize : a.tmps.size = a0.tmps.size
  closed : Closed md ops listed
  first : ∀ i, L0.getD i false = true → listed.getD i false = true
  only : ∀ i, listed.getD i false = true → L0.getD i false = true ∨ i ∈ hs
  told : ∀ t, ∀ k ∈ hs, listed.getD k false = true → dstOf ops k = some t → Ts k (a.tmps.getD t undef) w
  rest : ∀ t, (∀ k ∈ hs, listed.getD k false = true → dstOf ops k ≠ some t) → E0 t (a.tmps.getD t undef) w

theorem getD_of_size {listed : Array Bool} {i : Nat} (h : listed.getD i true = false) : listed.getD i false = false := getD_both h
theorem getD_back {listed : Array Bool} {i : Nat} (hi : i < listed.size) (h : ¬ listed.getD i false = true) : listed.getD i true = false := getD_in hi (by simpa using h)
theorem set_getD {listed : Array Bool} {i j : Nat} (hi : i < listed.size) : (listed.setIfInBounds i true).getD j false = true ↔ j = i ∨ listed.getD j false = true := by
  by_cases h : i = j
  · subst h; simp [hi]
  · rw [getD_set_ne false h]; constructor
    · exact .inr
    · rintro (rfl | h')
      · exact absurd rfl h
      · exact h'
theorem put_getD (a : Act) (d t : Tmp) (v : Value) (hd : d < a.tmps.size) : (a.put (some d) v).tmps.getD t undef = if d = t then v else a.tmps.getD t undef := by
  simp only [Act.put]
  by_cases h : d = t
  · subst h; simp [hd]
  · simp [h, Array.getElem?_setIfInBounds_ne h]

section
variable {w0 : World} {a0 : Act} {L0 : Array Bool} {hs : List Nat} {E0 : Env} {Ts : Nat → Told} {g : Nat} {Q : Exit → Act → World → Prop}
theorem Mid.step (hB : laneB md ops a0.tmps.size L0 hs = true) (hE : ∀ t, Steady (E0 t)) (hT : ∀ k ∈ hs, Steady (Ts k)) {listed : Array Bool} {a : Act} {w : World} (m : Mid md ops w0 a0 L0 hs E0 Ts listed a w) {k : Nat} (hk : k ∈ hs)
    (hr : k ∈ Region.ready md ops listed) {v : Value} {w' : World} (hb : Behind w w') (hv : Ts k v w') : Mid md ops w0 a0 L0 hs E0 Ts (listed.setIfInBounds k true) (a.put (dstOf ops k) v) w' := by
  simp only [laneB, Bool.and_eq_true] at hB
  obtain ⟨⟨⟨hp, hi⟩, hh⟩, ht⟩ := hB
  obtain ⟨hn, hpair⟩ := pairsB_spec hs hp
  obtain ⟨hun, hlt, hed⟩ := mem_ready'.1 hr
  have hlt' : k < listed.size := by rw [m.size]; exact hlt
  simp only [headB, List.all_eq_true, Bool.and_eq_true] at hh
  obtain ⟨⟨_, hd⟩, _⟩ := hh k hk
  obtain ⟨d, hd', hds⟩ : ∃ d, dstOf ops k = some d ∧ d < a.tmps.size := by
    cases e : dstOf ops k with
    | none => rw [e] at hd; cases hd
    | some d => rw [e] at hd; exact ⟨d, rfl, by rw [m.tsize]; simpa using hd⟩
  have hne : ∀ j ∈ hs, j ≠ k → dstOf ops j ≠ some d := fun j hj hjk e => by
    obtain ⟨pre, post, rfl⟩ := List.append_of_mem hk
    rcases List.mem_append.1 hj with hj | hj
    · obtain ⟨p1, p2, rfl⟩ := List.append_of_mem hj
      exact (hpair p1 j (p2 ++ k :: post) (by simp) k (by simp)).2.2 (hd'.trans e.symm)
    · rcases List.mem_cons.1 hj with rfl | hj
      · exact hjk rfl
      · exact (hpair pre k post rfl j hj).2.2 (e.trans hd'.symm)
  rw [hd']
  refine ⟨m.behind.trans hb, by simp [m.size], by simp [Act.put, m.defers], by simp [Act.put, m.tsize], fun i hi' j hj => ?_, fun i h => (set_getD hlt').2 (.inr (m.first i h)), fun i h => ?_, fun t j hj hl e => ?_, fun t h => ?_⟩
  · refine (set_getD hlt').2 (.inr ?_)
    rcases (set_getD hlt').1 hi' with rfl | h
    · exact hed j hj
    · exact m.closed i h j hj
  · rcases (set_getD hlt').1 h with rfl | h
    · exact .inr hk
    · exact m.only i h
  · rw [put_getD a d t v hds]
    by_cases hjk : j = k
    · subst hjk
      rw [hd'] at e
      injection e with e
      rw [if_pos e]; exact hv
    · have hjl : listed.getD j false = true := ((set_getD hlt').1 hl).resolve_left hjk
      rw [if_neg (fun e' => hne j hj hjk (e.trans (by rw [e'])))]
      exact hT j hj _ _ _ hb (m.told t j hj hjl e)
  · rw [put_getD a d t v hds]
    have hdt : d ≠ t := fun e => h k hk ((set_getD hlt').2 (.inl rfl)) (by rw [hd', e])
    rw [if_neg hdt]
    exact hE t _ _ _ hb (m.rest t fun j hj hl => h j hj ((set_getD hlt').2 (.inr hl)))

theorem Mid.meets (hB : laneB md ops a0.tmps.size L0 hs = true) {listed : Array Bool} {a : Act} {w : World} (m : Mid md ops w0 a0 L0 hs E0 Ts listed a w) {pre post : List Nat} {k : Nat} (e : hs = pre ++ k :: post) (hr : k ∈ Region.ready md ops listed) :
    meets (envAt ops Ts pre E0) (looksOf ops k) a w := by
  simp only [laneB, Bool.and_eq_true] at hB
  obtain ⟨⟨⟨hp, hi⟩, hh⟩, ht⟩ := hB
  obtain ⟨hn, hpair⟩ := pairsB_spec hs hp
  obtain ⟨hun, hlt, hed⟩ := mem_ready'.1 hr
  have hnk := needs_listed m.closed hed
  intro t hl
  have hpre : ∀ j ∈ pre, dstOf ops j = some t → listed.getD j false = true := fun j hj e' => by
    obtain ⟨p1, p2, rfl⟩ := List.append_of_mem hj
    exact hnk j ((hpair p1 j (p2 ++ k :: post) (by rw [e]; simp) k (by simp)).1 ⟨t, hl, e'⟩)
  refine envAt_at pre E0 (fun j hj e' => m.told t j (by rw [e]; simp [hj]) (hpre j hj e') e') fun h => m.rest t fun j hj hjl e' => ?_
  rw [e] at hj
  rcases List.mem_append.1 hj with hj | hj
  · exact h j hj e'
  · rcases List.mem_cons.1 hj with rfl | hj
    · rw [getD_of_size hun] at hjl; cases hjl
    · have hk := (hpair pre k post e j hj).2.1 ⟨t, hl, e'⟩
      have := needs_listed m.closed (m.closed j hjl) k hk
      rw [getD_of_size hun] at this; cases this

theorem Mid.done {listed : Array Bool} {a : Act} {w : World} (m : Mid md ops w0 a0 L0 hs E0 Ts listed a w) (hf : (hs.filter fun k => !listed.getD k false).length = 0) : listed = listedAll ops L0 hs ∧ ∀ t, envAt ops Ts hs E0 t (a.tmps.getD t undef) w := by
  have hall : ∀ k ∈ hs, listed.getD k false = true := fun k hk => by
    rw [List.length_eq_zero_iff, List.filter_eq_nil_iff] at hf
    simpa using hf k hk
  refine ⟨Array.ext (by simp [listedAll, m.size]) fun i h1 h2 => ?_, fun t => envAt_at hs E0 (fun j hj e => m.told t j hj (hall j hj) e) fun h => m.rest t fun j hj _ => h j hj⟩
  have hg : listed.getD i false = listed[i] := by simp [h1]
  rw [← hg]
  have : (listedAll ops L0 hs)[i] = (L0.getD i false || hs.contains i) := by simp [listedAll]
  rw [this, Bool.eq_iff_iff]
  simp only [Bool.or_eq_true, List.contains_iff_mem]
  exact ⟨m.only i, fun h => h.elim (m.first i) (hall i)⟩
theorem Mid.more (hB : laneB md ops a0.tmps.size L0 hs = true) {listed : Array Bool} {a : Act} {w : World} (m : Mid md ops w0 a0 L0 hs E0 Ts listed a w) (hf : (hs.filter fun k => !listed.getD k false).length ≠ 0) (h0 : Region.ready md ops listed = []) : False := by
  simp only [laneB, Bool.and_eq_true] at hB
  obtain ⟨⟨⟨hp, hi⟩, hh⟩, ht⟩ := hB
  obtain ⟨k, pre, post, e, hkl, hprel⟩ : ∃ k pre post, hs = pre ++ k :: post ∧ listed.getD k false = false ∧ ∀ j ∈ pre, listed.getD j false = true := by
    have : ∀ (l : List Nat), (l.filter fun k => !listed.getD k false).length ≠ 0 → ∃ k pre post, l = pre ++ k :: post ∧ listed.getD k false = false ∧ ∀ j ∈ pre, listed.getD j false = true := by
      intro l
      induction l with
      | nil => intro h; simp at h
      | cons x r ihr =>
        intro h
        by_cases hx : listed.getD x false = true
        · rw [List.filter_cons_of_neg (by simp only [hx, Bool.not_true, Bool.false_eq_true, not_false_eq_true])] at h
          obtain ⟨k, pre, post, e, h1, h2⟩ := ihr h
          exact ⟨k, x :: pre, post, by rw [e]; rfl, h1, fun j hj => (List.mem_cons.1 hj).elim (fun e => e ▸ hx) (h2 j)⟩
        · exact ⟨x, [], r, rfl, by simpa using hx, by simp⟩
    exact this hs hf
  have hk : k ∈ hs := by rw [e]; simp
  simp only [headB, List.all_eq_true, Bool.and_eq_true, decide_eq_true_eq] at hh
  have hlt := (hh k hk).1.1
  have : k ∈ Region.ready md ops listed := mem_ready'.2 ⟨getD_in (by rw [m.size]; exact hlt) hkl, hlt, fun j hj => by
    rcases inTurnB_spec L0 hs [] hi pre k post e j hj with h | h | h
    · cases h
    · exact hprel j h
    · exact m.first j h⟩
  rw [h0] at this
  cases this
theorem Mid.turn (hB : laneB md ops a0.tmps.size L0 hs = true) {listed : Array Bool} {a : Act} {w : World} (m : Mid md ops w0 a0 L0 hs E0 Ts listed a w) (hf : (hs.filter fun k => !listed.getD k false).length ≠ 0) {k : Nat} (hk : k ∈ Region.ready md ops listed) :
    k ∈ hs ∧ (hs.filter fun j => !(listed.setIfInBounds k true).getD j false).length + 1 = (hs.filter fun j => !listed.getD j false).length := by
  simp only [laneB, Bool.and_eq_true] at hB
  obtain ⟨⟨⟨hp, hi⟩, hh⟩, ht⟩ := hB
  obtain ⟨hun, hlt, hed⟩ := mem_ready'.1 hk
  have hkl := getD_of_size hun
  have hks : k ∈ hs := by
    simp only [tailB, List.all_eq_true, Bool.or_eq_true, List.mem_range, List.contains_iff_mem] at ht
    rcases ht k hlt with (h | h) | h
    · exact h
    · rw [m.first k h] at hkl; cases hkl
    · exfalso
      have hall := needs_listed m.closed hed
      have : (hs.filter fun k => !listed.getD k false) = [] := List.filter_eq_nil_iff.2 fun j hj => by
        have := hall j (by simpa using h j hj)
        simp only [this, Bool.not_true, Bool.false_eq_true, not_false_eq_true]
      rw [this] at hf
      exact hf rfl
  have hlt' : k < listed.size := by rw [m.size]; exact hlt
  obtain ⟨hn, _⟩ := pairsB_spec hs hp
  have h1 : ∀ (l : List Nat), l.Nodup → k ∈ l → (l.filter fun j => !(listed.setIfInBounds k true).getD j false).length + 1 = (l.filter fun j => !listed.getD j false).length := by
    intro l
    induction l with
    | nil => intro _ h; cases h
    | cons x r ihr =>
      intro hnd hx
      obtain ⟨hxr, hnr⟩ := List.nodup_cons.1 hnd
      by_cases hxk : x = k
      · subst hxk
        rw [List.filter_cons_of_neg (by rw [(set_getD hlt').2 (.inl rfl)]; simp), List.filter_cons_of_pos (by rw [hkl]; rfl)]
        have : (r.filter fun j => !(listed.setIfInBounds x true).getD j false) = r.filter fun j => !listed.getD j false := by
          refine List.filter_congr fun j hj => ?_
          rw [getD_set_ne false (fun e => hxr (by rw [e]; exact hj))]
        rw [this, List.length_cons]
      · have hkr : k ∈ r := (List.mem_cons.1 hx).resolve_left (Ne.symm hxk)
        have hg : (listed.setIfInBounds k true).getD x false = listed.getD x false := getD_set_ne false (Ne.symm hxk)
        by_cases hxl : listed.getD x false = true
        · rw [List.filter_cons_of_neg (by rw [hg, hxl]; simp), List.filter_cons_of_neg (by rw [hxl]; simp)]
          exact ihr hnr hkr
        · have hxl' : listed.getD x false = false := by simpa using hxl
          rw [List.filter_cons_of_pos (by rw [hg, hxl']; rfl), List.filter_cons_of_pos (by rw [hxl']; rfl), List.length_cons, List.length_cons]
          have := ihr hnr hkr
          omega
  exact ⟨hks, h1 hs hn hks⟩

/-- A tail that comes up in one order: its numbers. -/
def turnB (md : Region.Mode) (ops : Array Oper) : List Nat → Array Bool → Bool
  | [], L => (Region.ready md ops L).isEmpty
  | t :: r, L => decide (Region.ready md ops L = [t]) && turnB md ops r (L.setIfInBounds t true)
theorem wpAny_of_turn : ∀ (ts : List Nat) (L : Array Bool) (a : Act) (w : World), turnB md ops ts L = true → wpList P ops Q (ts.filterMap (ops[·]?)) a w → wpAny P md ops Q ts.length L a w
  | [], _, _, _, hB, h => ⟨by simpa [turnB] using hB, h⟩
  | t :: r, L, a, w, hB, h => by
    simp only [turnB, Bool.and_eq_true, decide_eq_true_eq] at hB
    have ht : t ∈ Region.ready md ops L := by rw [hB.1]; simp
    have ho : ops[t]? = some (ops[t]'(mem_ready'.1 ht).2.1) := Array.getElem?_eq_getElem _
    rw [List.filterMap_cons_some ho] at h
    refine ⟨fun h1 => (by rw [hB.1] at h1; cases h1), fun i hi => ?_⟩
    rw [hB.1] at hi
    obtain rfl : i = t := by simpa using hi
    have hw : wpOp P ops Q i (wpList P ops Q (r.filterMap (ops[·]?))) a w := by unfold wpOp; simp only [ho]; exact h
    exact wpOp_mono (fun a' w' h' => wpAny_of_turn r _ a' w' hB.2 h') hw

theorem wpAny_of_mid (hB : laneB md ops a0.tmps.size L0 hs = true) (hE : ∀ t, Steady (E0 t)) (hO : ∀ pre k post, hs = pre ++ k :: post → ∃ o, ops[k]? = some o ∧ owes P ops w0 (envAt ops Ts pre E0) o (Ts k))
    (hF : ∀ a w, Behind w0 w → a.defers = a0.defers → a.tmps.size = a0.tmps.size → (∀ t, envAt ops Ts hs E0 t (a.tmps.getD t undef) w) → wpAny P md ops Q g (listedAll ops L0 hs) a w) :
    ∀ (f : Nat) (listed : Array Bool) (a : Act) (w : World), (hs.filter fun k => !listed.getD k false).length = f → Mid md ops w0 a0 L0 hs E0 Ts listed a w → wpAny P md ops Q (f + g) listed a w := by
  have hT : ∀ k ∈ hs, Steady (Ts k) := fun k hk => by
    obtain ⟨pre, post, e⟩ := List.append_of_mem hk
    obtain ⟨o, _, h⟩ := hO pre k post e
    exact h.1
  intro f
  induction f with
  | zero =>
    intro listed a w hf m
    obtain ⟨hL, hend⟩ := m.done hf
    rw [Nat.zero_add, hL]
    exact hF a w m.behind m.defers m.tsize hend
  | succ f ih =>
    intro listed a w hf m
    rw [show f + 1 + g = (f + g) + 1 by omega]
    refine ⟨fun h0 => (m.more hB (by omega) h0).elim, fun k hk => ?_⟩
    obtain ⟨hks, hlen⟩ := m.turn hB (by omega) hk
    obtain ⟨pre, post, e⟩ := List.append_of_mem hks
    obtain ⟨o, ho, _, hob⟩ := hO pre k post e
    have hm := m.meets hB e hk
    have hlk : looksOf ops k = o.looksAt ops := by simp [looksOf, ho]
    have hdk : dstOf ops k = o.dst := by simp [dstOf, ho]
    rw [hlk] at hm
    have hgo : ∀ K : Act → World → Prop, (∀ v w', Behind w w' → Ts k v w' → K (a.put o.dst v) w') → wpOp P ops Q k K a w := fun K hK => (hob a w m.behind hm).elim (fun h => wpOp_of_gives ho h hK) fun h => wpOp_of_givesBy ho h hK
    refine hgo _ fun v w' hb hv => ?_
    rw [← hdk]
    exact ih _ _ _ (by omega) (m.step hB hE hT hks hk hb hv)
end
end
end Go.Proofs.Ytjhmdflagkenbaa
/- .. as it is walked: a literal frame, told slots beside it. No program is named here. -/
namespace Go.Proofs.Ytjhmdflagkenbaa
set_option linter.unusedVariables false
set_option linter.unusedSimpArgs false
open Go Go.RowKit

section
variable {P : Program} {ops : Array Oper}

/-- Operations that yield a value and leave the world alone. -/
def simpleOp : Op → Bool
  | .move _ | .assign _ | .pick _ _ _ | .binOp _ _ _ _ _ | .unOp _ _ _ | .convert _ _ _ | .extract _ _ | .fieldAddr _ _ _ | .indexAddr _ _ _ | .field _ _ _ | .load _ _ | .index _ _ _ | .slice _ _ _ _ _ | .nilCheck _ | .typeAssert _ _ _ _ | .makeInterface _ _ => true
  | _ => false
theorem quiet_value {C : World → Prop} {w : World} {u : Value} {s : Sem Value} (h : Oper.quietUpon P C w u ((do pure (Next.value (← s)) : Sem Next).run P w)) : (do pure (Next.value (← s)) : Sem Next).run P w = .ok (.value u) w := by
  rw [Sem.run_bind] at h ⊢
  generalize s.run P w = r at *
  cases r with
  | halt x w' => exact h.elim
  | ok v w' =>
    simp only [Result.andThen_ok, Sem.run_pure, Oper.quietUpon] at h ⊢
    rw [h.1, h.2]
theorem quiet_map {α : Type} {C : World → Prop} {w : World} {u : Value} {s : Sem α} {f : α → Value} (h : Oper.quietUpon P C w u ((do let x ← s; pure (Next.value (f x)) : Sem Next).run P w)) : (do let x ← s; pure (Next.value (f x)) : Sem Next).run P w = .ok (.value u) w := by
  rw [Sem.run_bind] at h ⊢
  generalize s.run P w = r at *
  cases r with
  | halt x w' => exact h.elim
  | ok v w' =>
    simp only [Result.andThen_ok, Sem.run_pure, Oper.quietUpon] at h ⊢
    rw [h.1, h.2]
theorem simple_run {C : World → Prop} {o : Oper} {a : Act} {w : World} {u : Value} (hs : simpleOp o.op = true) (h : o.quietAt P a C w u) : (execOp a.eval o).run P w = .ok (.value u) w := by
  unfold Oper.quietAt at h
  obtain ⟨d, op, ty, pos, af, gd⟩ := o
  cases op <;> simp only [simpleOp, Bool.false_eq_true] at hs
  all_goals simp only [execOp] at h ⊢
  all_goals
    first
      | exact quiet_value h
      | exact quiet_map h
      | (simp only [Sem.run_pure, Oper.quietUpon] at h ⊢; rw [h.2])
      | (rename_i x
         generalize a.eval x = z at *
         rcases z with _ | _ | _ | _ | _ | p | _ | _ | _ | ⟨f, first, captured⟩ | _ | _ | _ | _ | _
         case pointer =>
           cases p with
           | none => exfalso; simp [go_sem, Oper.quietUpon] at h
           | some p => simp only [Sem.run_pure, Oper.quietUpon] at h ⊢; rw [h.2]
         case nilFunc => exfalso; simp [go_sem, Oper.quietUpon] at h
         case nilIface => exfalso; simp [go_sem, Oper.quietUpon] at h
         case func =>
           cases f
           case method name =>
             simp only at h ⊢
             split at h
             · exfalso; simp [go_sem, Oper.quietUpon] at h
             · rename_i t v he
               simp only [Sem.run_bind] at h ⊢
               generalize program.run P w = r1 at *
               cases r1 with
               | halt y w' => exact h.elim
               | ok pr w1 =>
                 simp only [Result.andThen_ok] at h ⊢
                 generalize (nilAhead (pr.types.size + Made.depth) t v name).run P w1 = r2 at *
                 cases r2 with
                 | halt y w' => exact h.elim
                 | ok q w2 =>
                   simp only [Result.andThen_ok] at h ⊢
                   split at h
                   · exfalso; simp [go_sem, Oper.quietUpon] at h
                   · rename_i hq
                     rw [if_neg hq]
                     simp only [Sem.run_pure, Oper.quietUpon] at h ⊢
                     rw [h.1, h.2]
             · simp only [Sem.run_pure, Oper.quietUpon] at h
               rw [h.2, Sem.run_pure]
           all_goals (simp only [Sem.run_pure, Oper.quietUpon] at h ⊢; rw [h.2])
         all_goals (simp only [Sem.run_pure, Oper.quietUpon] at h ⊢; rw [h.2]))

variable {md : Region.Mode} {Q : Exit → Act → World → Prop}
/-- What hangs on no world at all, taken ahead of all. -/
def pureB (md : Region.Mode) (ops : Array Oper) : List Nat → Array Bool → Bool
  | [], _ => true
  | k :: r, L => (Region.ready md ops L).contains k && Region.free md ops L k && ((ops[k]?).map fun o => simpleOp o.op).getD false && pureB md ops r (L.setIfInBounds k true)
theorem pure_first {w : World} {f : Nat} {K : Act → Prop} (hs : Region.noSelect ops = true) (hQ : ∀ c (a : Act) (d : Tmp) v w, Q (.panic c) (a.put (some d) v) w → Q (.panic c) a w) : ∀ (ps : List Nat) (L : Array Bool) (a : Act), pureB md ops ps L = true →
    wpQuiet P ops (fun _ => True) K (ps.filterMap (ops[·]?)) a → (∀ a', K a' → wpAny P md ops Q f (ps.foldl (fun L k => L.setIfInBounds k true) L) a' w) → wpAny P md ops Q (ps.length + f) L a w
  | [], L, a, _, h, hK => by rw [show ([] : List Nat).length + f = f by simp]; exact hK a h
  | k :: r, L, a, hB, h, hK => by
    simp only [pureB, Bool.and_eq_true] at hB
    obtain ⟨⟨⟨hr, hf⟩, hp⟩, hB⟩ := hB
    cases ho : ops[k]? with
    | none => rw [ho] at hp; simp at hp
    | some o =>
      rw [ho] at hp
      simp only [Option.map_some, Option.getD_some] at hp
      rw [List.filterMap_cons_some ho] at h
      have hst : ∃ v, Yields P ops o v a ∧ wpQuiet P ops (fun _ => True) K (r.filterMap (ops[·]?)) (a.put o.dst v) := by
        simp only [wpQuiet] at h
        by_cases hw : Region.wanted o (yielded ops a.tmps) = true
        · rw [if_pos hw] at h
          obtain ⟨v, h1, h2⟩ := h
          exact ⟨v, .inl ⟨hw, fun w => simple_run hp (h1 w trivial)⟩, h2⟩
        · rw [if_neg hw] at h
          exact ⟨undef, .inr ⟨by simpa using hw, rfl⟩, h⟩
      obtain ⟨v, hy, hrest⟩ := hst
      rw [show (k :: r).length + f = (r.length + f) + 1 by simp; omega]
      exact wpAny_take ho hs hf hr (fun c a w h' => by cases hd : o.dst with | none => rw [hd] at h'; exact h' | some d => rw [hd] at h'; exact hQ c a d v w h') hy (pure_first hs hQ r _ _ hB hrest (by simpa using hK))

theorem wpQuiet_class {C C' : World → Prop} (h : ∀ w, C' w ↔ C w) {K : Act → Prop} : ∀ (l : List Oper) (a : Act), wpQuiet P ops C K l a → wpQuiet P ops C' K l a := by
  have e : C' = C := funext fun w => propext (h w)
  subst e
  exact fun _ _ h => h
/-- The lane over the operations themselves. -/
def laneO (P : Program) (ops : Array Oper) (w0 : World) (Fin : Env → Prop) : List Oper → Env → Prop
  | [], E => Fin E
  | o :: r, E => ∃ T, owes P ops w0 E o T ∧ laneO P ops w0 Fin r (upd E o.dst T)
theorem lane_of_laneO {w0 : World} {Fin : Env → Prop} : ∀ (hs : List Nat) (E : Env), (∀ k ∈ hs, k < ops.size) → laneO P ops w0 Fin (hs.filterMap (ops[·]?)) E → lane P ops w0 Fin hs E
  | [], _, _, h => h
  | k :: r, E, hl, h => by
    have ho : ops[k]? = some (ops[k]'(hl k (by simp))) := Array.getElem?_eq_getElem (hl k (by simp))
    rw [List.filterMap_cons_some ho] at h
    obtain ⟨T, h1, h2⟩ := h
    exact ⟨_, T, ho, h1, lane_of_laneO r _ (fun j hj => hl j (by simp [hj])) h2⟩

/-- A literal frame, some of whose slots are told another way. -/
def envOf (a : Act) (F : List (Tmp × Told)) : Env := fun t v w => match F.lookup t with | some T => T v w | none => v = a.tmps.getD t undef
def SteadyAll (F : List (Tmp × Told)) : Prop := ∀ x ∈ F, Steady x.2
theorem envOf_steady {a : Act} {F : List (Tmp × Told)} (h : SteadyAll F) (t : Tmp) : Steady (envOf a F t) := fun v w w' hb hv => by
  unfold envOf at hv ⊢
  cases hl : F.lookup t with
  | none => rw [hl] at hv; exact hv
  | some T =>
    rw [hl] at hv
    refine h (t, T) ?_ v w w' hb hv
    obtain ⟨l1, l2, e, _⟩ := List.lookup_eq_some_iff.1 hl
    rw [e]; simp
def clearB (F : List (Tmp × Told)) (ts : List Tmp) : Bool := ts.all fun t => (F.lookup t).isNone
theorem clear_spec {F : List (Tmp × Told)} {ts : List Tmp} (h : clearB F ts = true) {t : Tmp} (ht : t ∈ ts) : F.lookup t = none := by
  simp only [clearB, List.all_eq_true] at h
  simpa using h t ht
def isBool : Value → Option Bool
  | .bool b => some b
  | _ => none
theorem boolAt (x : Array Value) (t : Tmp) : (match x[t]? with | some (.bool b) => some b | _ => none) = isBool (x.getD t undef) := by
  rw [Array.getD_eq_getD_getElem?]
  cases x[t]? with
  | none => rfl
  | some v => cases v <;> rfl
theorem same_exec {a a' : Act} {w : World} {F : List (Tmp × Told)} {o : Oper} (hsel : ∀ cs b, o.op ≠ .select cs b) (hc : clearB F (o.looksAt ops) = true) (h : meets (envOf a F) (o.looksAt ops) a' w) :
    execOp a'.eval o = execOp a.eval o ∧ Region.wanted o (yielded ops a'.tmps) = Region.wanted o (yielded ops a.tmps) := by
  have hg : ∀ t ∈ o.looksAt ops, a'.tmps.getD t undef = a.tmps.getD t undef := fun t ht => by
    have := h t ht
    unfold envOf at this
    rw [clear_spec hc ht] at this
    exact this
  refine ⟨execOp_congr o hsel fun x hx => ?_, ?_⟩
  · cases x with
    | tmp t => exact hg t (List.mem_append_left _ (List.mem_filterMap.2 ⟨.tmp t, by simpa using hx, rfl⟩))
    | _ => rfl
  · unfold Region.wanted
    cases hgd : o.guard with
    | none => rfl
    | some gw =>
      obtain ⟨j, want⟩ := gw
      have hy : yielded ops a'.tmps j = yielded ops a.tmps j := by
        unfold yielded
        cases ht : (ops[j]?).bind (·.dst) with
        | none => rfl
        | some t =>
          have := hg t (List.mem_append_right _ (by simp [hgd, ht]))
          simp only [Option.bind_some]
          exact (boolAt a'.tmps t).trans ((congrArg isBool this).trans (boolAt a.tmps t).symm)
      simp only [hy]
theorem upd_fixed {a : Act} {F : List (Tmp × Told)} {d : Tmp} {v : Value} (hd : d < a.tmps.size) (hF : F.lookup d = none) : upd (envOf a F) (some d) (fun u _ => u = v) = envOf (a.put (some d) v) F := by
  funext t u w
  unfold upd envOf
  by_cases h : d = t
  · subst h
    rw [if_pos rfl, hF]
    simp only [put_getD a d d v hd, if_true]
  · rw [if_neg (fun e => h (Option.some.inj e))]
    cases F.lookup t with
    | some T => rfl
    | none => simp only [put_getD a d t v hd, if_neg h]
theorem upd_told {a : Act} {F : List (Tmp × Told)} {d : Tmp} {T : Told} : upd (envOf a F) (some d) T = envOf a ((d, T) :: F) := by
  funext t u w
  unfold upd envOf
  by_cases h : d = t
  · subst h; simp
  · rw [if_neg (fun e => h (Option.some.inj e)), List.lookup_cons]
    have : (t == d) = false := by rw [beq_eq_false_iff_ne]; exact fun e => h e.symm
    rw [this]

variable {w0 : World} {Fin : Env → Prop} {a : Act} {F : List (Tmp × Told)} {o : Oper} {r : List Oper} {d : Tmp}
def notSelect (o : Oper) : Bool := match o.op with | .select _ _ => false | _ => true
theorem notSelect_spec (h : notSelect o = true) : ∀ cs b, o.op ≠ .select cs b := fun cs b e => by simp [notSelect, e] at h
/-- The operation's own words: it has a slot, within the frame, that nothing is told of; nothing is told of what it looks at. -/
def plainB (ops : Array Oper) (size : Nat) (F : List (Tmp × Told)) (o : Oper) : Bool := notSelect o && clearB F (o.looksAt ops) && match o.dst with | some d => decide (d < size) && (F.lookup d).isNone | none => false
theorem laneO_fixed {v : Value} (hp : plainB ops a.tmps.size F o = true) (h : ∀ w, Behind w0 w → givesIf P ops o a w fun u _ => u = v) (hr : laneO P ops w0 Fin r (envOf (a.put o.dst v) F)) : laneO P ops w0 Fin (o :: r) (envOf a F) := by
  simp only [plainB, Bool.and_eq_true] at hp
  obtain ⟨⟨hsel, hc⟩, hd⟩ := hp
  cases ho : o.dst with
  | none => rw [ho] at hd; simp at hd
  | some d =>
    rw [ho] at hd hr
    simp only [Bool.and_eq_true, decide_eq_true_eq, Option.isNone_iff_eq_none] at hd
    refine ⟨_, ⟨steady_eq v, fun a' w hb hm => .inl ?_⟩, ?_⟩
    · obtain ⟨e1, e2⟩ := same_exec (notSelect_spec hsel) hc hm
      have := h w hb
      unfold givesIf gives at this ⊢
      rw [e1, e2]
      exact this
    · rw [ho, upd_fixed hd.1 hd.2]; exact hr
theorem laneO_told (T : Told) (hT : Steady T) (hp : plainB ops a.tmps.size F o = true) (ho : o.dst = some d) (h : ∀ w, Behind w0 w → givesIf P ops o a w T) (hr : laneO P ops w0 Fin r (envOf a ((d, T) :: F))) : laneO P ops w0 Fin (o :: r) (envOf a F) := by
  simp only [plainB, Bool.and_eq_true] at hp
  obtain ⟨⟨hsel, hc⟩, _⟩ := hp
  refine ⟨T, ⟨hT, fun a' w hb hm => .inl ?_⟩, ?_⟩
  · obtain ⟨e1, e2⟩ := same_exec (notSelect_spec hsel) hc hm
    have := h w hb
    unfold givesIf gives at this ⊢
    rw [e1, e2]
    exact this
  · rw [ho, upd_told]; exact hr
/-- A run of operations that leave the world alone, by the quiet walk. -/
theorem laneO_quiet : ∀ (l : List Oper) (a : Act), (l.all fun o => simpleOp o.op && plainB ops a.tmps.size F o) = true →
    wpQuiet P ops (fun w' => ∃ s : Later w0.heap.size w0, w' = s.w) (fun a' => laneO P ops w0 Fin r (envOf a' F)) l a → laneO P ops w0 Fin (l ++ r) (envOf a F)
  | [], a, _, h => h
  | o :: l, a, hB, h => by
    simp only [List.all_cons, Bool.and_eq_true] at hB
    obtain ⟨⟨hs, hp⟩, hB⟩ := hB
    simp only [wpQuiet] at h
    have hsz : ∀ v, (a.put o.dst v).tmps.size = a.tmps.size := fun v => by cases o.dst <;> simp [Act.put]
    by_cases hw : Region.wanted o (yielded ops a.tmps) = true
    · rw [if_pos hw] at h
      obtain ⟨v, h1, h2⟩ := h
      refine laneO_fixed hp (fun w hb => .inl ⟨hw, ?_⟩) (laneO_quiet l _ (by rw [hsz]; exact hB) h2)
      have := simple_run hs (h1 w ⟨⟨w, hb⟩, rfl⟩)
      unfold gives
      rw [this]
      exact ⟨Behind.refl w, rfl⟩
    · rw [if_neg hw] at h
      exact laneO_fixed hp (fun w hb => .inr ⟨by simpa using hw, rfl⟩) (laneO_quiet l _ (by rw [hsz]; exact hB) h)
theorem laneO_run (n : Nat) {l : List Oper} (hB : ((l.take n).all fun o => simpleOp o.op && plainB ops a.tmps.size F o) = true)
    (h : wpQuiet P ops (fun w' => ∃ s : Later w0.heap.size w0, w' = s.w) (fun a' => laneO P ops w0 Fin (l.drop n) (envOf a' F)) (l.take n) a) : laneO P ops w0 Fin l (envOf a F) := by
  have := laneO_quiet (r := l.drop n) (l.take n) a hB h
  rwa [List.take_append_drop] at this
/-- A call whose arguments are told by the frame: one value, in whatever world that lies behind. -/
theorem laneO_call {v : Value} (hp : plainB ops a.tmps.size F o = true) (hw : Region.wanted o (yielded ops a.tmps) = true)
    (h : ∀ C : World → Prop, (∀ w w', C w → Behind w w' → C w') → (∀ w, C w → Behind w0 w) → o.quiet P a C fun a' => a' = a.put o.dst v) (hr : laneO P ops w0 Fin r (envOf (a.put o.dst v) F)) : laneO P ops w0 Fin (o :: r) (envOf a F) := by
  refine laneO_fixed hp (fun w hb => .inl ⟨hw, ?_⟩) hr
  obtain ⟨u, h1, h2⟩ := h (Behind w) (fun w1 w2 h1 h2 => h1.trans h2) (fun w1 h1 => hb.trans h1)
  have hq := h1 w (Behind.refl w)
  have hu : u = v := by
    simp only [plainB, Bool.and_eq_true] at hp
    obtain ⟨_, hd⟩ := hp
    cases ho : o.dst with
    | none => rw [ho] at hd; simp at hd
    | some d =>
      rw [ho] at hd h2
      simp only [Bool.and_eq_true, decide_eq_true_eq] at hd
      have := congrArg (fun x : Act => x.tmps.getD d undef) h2
      simpa only [put_getD a d d _ hd.1, if_true] using this
  subst hu
  unfold Oper.quietAt at hq
  unfold gives
  generalize (execOp a.eval o).run P w = x at *
  cases x with
  | halt x w' => exact hq.elim
  | ok n w' =>
    cases n <;> simp only [Oper.quietUpon] at hq ⊢
    case value x => exact ⟨hq.1 ▸ Behind.refl w, hq.2⟩
    case skip => exact ⟨hq.1 ▸ Behind.refl w, hq.2.symm⟩
    case enter f args =>
      obtain ⟨rfl, hq⟩ := hq
      exact ⟨Behind.refl _, hq.mono fun e w'' ⟨he, hb⟩ => ⟨_, he, hb, rfl⟩⟩
/-- A call that hands back what is told. -/
theorem laneO_use {v : Value} (hsel : notSelect o = true) (ho : o.dst = some d) (hd : d < a.tmps.size) (hF : F.lookup d = none)
    (h : ∀ a' w, Behind w0 w → meets (envOf a F) (o.looksAt ops) a' w → givesIf P ops o a' w fun u _ => u = v) (hr : laneO P ops w0 Fin r (envOf (a.put (some d) v) F)) : laneO P ops w0 Fin (o :: r) (envOf a F) :=
  ⟨_, ⟨steady_eq v, fun a' w hb hm => .inl (h a' w hb hm)⟩, by rw [ho, upd_fixed hd hF]; exact hr⟩
/-- An operation that the walk's own law runs, on what is told. -/
theorem laneO_by (T : Told) (hT : Steady T) (ho : o.dst = some d) (h : ∀ a' w, Behind w0 w → meets (envOf a F) (o.looksAt ops) a' w → givesBy P ops o a' w T) (hr : laneO P ops w0 Fin r (envOf a ((d, T) :: F))) : laneO P ops w0 Fin (o :: r) (envOf a F) :=
  ⟨T, ⟨hT, fun a' w hb hm => .inr (h a' w hb hm)⟩, by rw [ho, upd_told]; exact hr⟩

/-- An operation that is not wanted. -/
theorem laneO_skip (hp : plainB ops a.tmps.size F o = true) (hw : Region.wanted o (yielded ops a.tmps) = false) (hr : laneO P ops w0 Fin r (envOf (a.put o.dst undef) F)) : laneO P ops w0 Fin (o :: r) (envOf a F) :=
  laneO_fixed hp (fun _ _ => .inr ⟨hw, rfl⟩) hr
def guardSlots (ops : Array Oper) (o : Oper) : List Tmp := match o.guard with | some (g, _) => ((ops[g]?).bind (·.dst)).toList | none => []
theorem same_wanted {a' : Act} (h : ∀ t ∈ guardSlots ops o, a'.tmps.getD t undef = a.tmps.getD t undef) : Region.wanted o (yielded ops a'.tmps) = Region.wanted o (yielded ops a.tmps) := by
  unfold Region.wanted
  cases hgd : o.guard with
  | none => rfl
  | some gw =>
    obtain ⟨j, want⟩ := gw
    have hy : yielded ops a'.tmps j = yielded ops a.tmps j := by
      unfold yielded
      cases ht : (ops[j]?).bind (·.dst) with
      | none => rfl
      | some t =>
        have := h t (by simp [guardSlots, hgd, ht])
        simp only [Option.bind_some]
        exact (boolAt a'.tmps t).trans ((congrArg isBool this).trans (boolAt a.tmps t).symm)
    simp only [hy]
theorem run_enter {f : FuncId} {fn : Func} {c : Code} {xs : Array Operand} {ts : Array TypeId} {a' : Act} {w : World} (hop : o.op = .call { callee := .value (.func f), args := xs, argTypes := ts }) (hf : P.funcs[f]? = some fn) (hname : (fn.name == "runtime.NumGoroutine") = false) (hb : fn.body = some c) :
    (execOp a'.eval o).run P w = .ok (.enter f (xs.map a'.eval)) w := by
  have hn : ¬ (fn.name = "runtime.NumGoroutine") := by simpa using hname
  simp [execOp, hop, resolve, Act.eval, Deferred.ofValue, invoke, callFunc, hf, hn, hb]
/-- A call of one argument that is told. -/
theorem laneO_useCall {f : FuncId} {fn : Func} {c : Code} {t : Tmp} {T : Told} {v : Value} {ts : Array TypeId} (hop : o.op = .call { callee := .value (.func f), args := #[.tmp t], argTypes := ts }) (ho : o.dst = some d) (hd : d < a.tmps.size) (hF : F.lookup d = none)
    (hw : Region.wanted o (yielded ops a.tmps) = true) (hg : clearB F (guardSlots ops o) = true) (hT : F.lookup t = some T) (hf : P.funcs[f]? = some fn) (hname : (fn.name == "runtime.NumGoroutine") = false) (hb : fn.body = some c)
    (h : ∀ x w, Behind w0 w → T x w → Calls P f #[x] w fun e w' => e = .returned v ∧ Below w.heap.size w w') (hr : laneO P ops w0 Fin r (envOf (a.put (some d) v) F)) : laneO P ops w0 Fin (o :: r) (envOf a F) := by
  refine laneO_use (by simp [notSelect, hop]) ho hd hF (fun a' w hb' hm => .inl ⟨?_, ?_⟩) hr
  · rw [same_wanted (a := a) fun s hs => ?_]
    · exact hw
    · have h1 := hm s (by
        unfold guardSlots at hs
        unfold Oper.looksAt
        exact List.mem_append_right _ hs)
      unfold envOf at h1
      rw [clear_spec hg hs] at h1
      exact h1
  · unfold gives
    rw [run_enter hop hf hname hb]
    have h1 := hm t (by simp [Oper.looksAt, hop, Op.operands, Call.operands])
    unfold envOf at h1
    rw [hT] at h1
    refine ⟨Behind.refl w, ?_⟩
    have e : (#[Operand.tmp t]).map a'.eval = #[a'.tmps.getD t undef] := by simp [Act.eval]
    rw [e]
    exact (h _ w hb' h1).mono fun e w' ⟨he, hb⟩ => ⟨v, he, hb, rfl⟩
/-- A slice that was just made: a block of its own. -/
def madeT (n : Nat) (t : TypeId) (cs : List Value) : Told := fun v w => ∃ g, v = .slice (some ⟨g, 0, none⟩) n n ∧ w.heap[g]? = some (.cells cs.toArray t (0, 0))
theorem madeT_steady (n : Nat) (t : TypeId) (cs : List Value) : Steady (madeT n t cs) := fun v w w' hb ⟨g, h1, h2⟩ => ⟨g, h1, (hb.block g (Array.getElem?_eq_some_iff.1 h2).1).trans h2⟩
theorem madeT_new (n : Nat) (t : TypeId) (cs : Array Value) (w : World) : Behind w (w.alloc (.cells cs t)) ∧ madeT n t cs.toList (.slice (some ⟨w.heap.size, 0, none⟩) n n) (w.alloc (.cells cs t)) :=
  ⟨(Below.refl _ _).alloc (Nat.le_refl _) _, _, rfl, by simpa using heap_alloc_new w (.cells cs t)⟩

/-- What is told is filled in. -/
def fillAll : List (Tmp × Told) → Act → World → (Act → Prop) → Prop
  | [], a, _, K => K a
  | (t, T) :: F, a, w, K => ∀ x, T x w → fillAll F (a.put (some t) x) w K
theorem fill_spec {w : World} {K : Act → Prop} {a' : Act} : ∀ (F : List (Tmp × Told)) (a : Act), (F.map (·.1)).Nodup → (∀ x ∈ F, x.1 < a.tmps.size) → a'.defers = a.defers → a'.tmps.size = a.tmps.size →
    (∀ t, envOf a F t (a'.tmps.getD t undef) w) → fillAll F a w K → K a'
  | [], a, _, _, hd, hs, hm, h => by
    have : a' = a := by
      obtain ⟨t1, d1⟩ := a'
      obtain ⟨t2, d2⟩ := a
      simp only at hd hs
      subst hd
      congr 1
      refine Array.ext hs fun i h1 h2 => ?_
      have := hm i
      simp only [envOf, List.lookup_nil] at this
      simpa [h1, h2] using this
    rw [this]; exact h
  | (t, T) :: F, a, hn, hl, hd, hs, hm, h => by
    simp only [List.map_cons, List.nodup_cons] at hn
    have ht : t < a.tmps.size := hl (t, T) (by simp)
    have hx : T (a'.tmps.getD t undef) w := by have := hm t; simpa [envOf] using this
    have hnone : F.lookup t = none := by
      rw [List.lookup_eq_none_iff]
      intro p hp
      have : t ≠ p.1 := fun e => hn.1 (List.mem_map.2 ⟨p, hp, e.symm⟩)
      simpa using this
    refine fill_spec F (a.put (some t) (a'.tmps.getD t undef)) hn.2 (fun x hx => by simpa [Act.put] using hl x (by simp [hx])) (by simpa [Act.put] using hd) (by simpa [Act.put] using hs) (fun s => ?_) (h _ hx)
    have := hm s
    unfold envOf at this ⊢
    by_cases hst : s = t
    · subst hst
      rw [hnone]
      simp only [put_getD a s s _ ht, if_true]
    · have hb : (s == t) = false := by rw [beq_eq_false_iff_ne]; exact hst
      rw [List.lookup_cons, hb] at this
      simp only at this
      cases hF : F.lookup s with
      | some U => rw [hF] at this; exact this
      | none => rw [hF] at this; simp only [put_getD a t s _ ht, if_neg (Ne.symm hst)]; exact this

def finOf (P : Program) (ops : Array Oper) (w0 : World) (Q : Exit → Act → World → Prop) (tail : List Oper) (a1 : Act) (E : Env) : Prop :=
  ∀ a' w', Behind w0 w' → a'.defers = a1.defers → a'.tmps.size = a1.tmps.size → (∀ t, E t (a'.tmps.getD t undef) w') → wpList P ops Q tail a' w'
theorem laneO_end {tail : List Oper} {a1 : Act} (hn : (F.map (·.1)).Nodup) (hl : (F.all fun x => decide (x.1 < a.tmps.size)) = true) (hd : a.defers = a1.defers) (hs : a.tmps.size = a1.tmps.size) (h : ∀ w', Behind w0 w' → fillAll F a w' fun a'' => wpList P ops Q tail a'' w') :
    laneO P ops w0 (finOf P ops w0 Q tail a1) [] (envOf a F) := fun a' w' hb h1 h2 hm => fill_spec F a hn (by simpa using hl) (h1.trans hd.symm) (h2.trans hs.symm) hm (h w' hb)
theorem laneO_end0 {tail : List Oper} {a1 : Act} (hd : a.defers = a1.defers) (hs : a.tmps.size = a1.tmps.size) (h : ∀ w', Behind w0 w' → wpList P ops Q tail a w') :
    laneO P ops w0 (finOf P ops w0 Q tail a1) [] (envOf a []) := laneO_end (by simp) rfl hd hs h
end

def firstAll (size : Nat) (ps : List Nat) : Array Bool := ps.foldl (fun L k => L.setIfInBounds k true) (Array.replicate size false)
def topB (ops : Array Oper) (size : Nat) (ps hs ts : List Nat) : Bool :=
  Region.noSelect ops && pureB .any ops ps (Array.replicate ops.size false) && laneB .any ops size (firstAll ops.size ps) hs && turnB .any ops ts (listedAll ops (firstAll ops.size ps) hs) && decide (ps.length + hs.length + ts.length = ops.size)
theorem closed_fold {md : Region.Mode} {ops : Array Oper} : ∀ (ps : List Nat) (L : Array Bool), L.size = ops.size → Closed md ops L → pureB md ops ps L = true → Closed md ops (ps.foldl (fun L k => L.setIfInBounds k true) L) ∧ (ps.foldl (fun L k => L.setIfInBounds k true) L).size = ops.size
  | [], _, hs, h, _ => ⟨h, hs⟩
  | k :: r, L, hs, h, hB => by
    simp only [pureB, Bool.and_eq_true] at hB
    obtain ⟨⟨⟨hr, _⟩, _⟩, hB⟩ := hB
    obtain ⟨_, hlt, hed⟩ := mem_ready'.1 (by simpa using hr)
    refine closed_fold r _ (by simp [hs]) (fun i hi j hj => (set_getD (by rw [hs]; exact hlt)).2 (.inr ?_)) hB
    rcases (set_getD (by rw [hs]; exact hlt)).1 hi with rfl | hi
    · exact hed j hj
    · exact h i hi j hj

def pick (l : List Oper) (ks : List Nat) : List Oper := ks.map fun k => l.getD k default
theorem pick_eq {l : List Oper} : ∀ (ks : List Nat), (∀ k ∈ ks, k < l.length) → ks.filterMap (l.toArray[·]?) = pick l ks
  | [], _ => rfl
  | k :: r, h => by
    have hk := h k (by simp)
    rw [List.filterMap_cons_some (b := l.getD k default) (by simp [hk]), pick_eq r fun j hj => h j (by simp [hj])]
    rfl
theorem pure_lt {md : Region.Mode} {ops : Array Oper} : ∀ (ps : List Nat) (L : Array Bool), pureB md ops ps L = true → ∀ k ∈ ps, k < ops.size
  | [], _, _ => by simp
  | k :: r, L, h => by
    simp only [pureB, Bool.and_eq_true] at h
    intro j hj
    rcases List.mem_cons.1 hj with rfl | hj
    · exact (mem_ready'.1 (by simpa using h.1.1.1)).2.1
    · exact pure_lt r _ h.2 j hj
theorem turn_lt {md : Region.Mode} {ops : Array Oper} : ∀ (ts : List Nat) (L : Array Bool), turnB md ops ts L = true → ∀ k ∈ ts, k < ops.size
  | [], _, _ => by simp
  | k :: r, L, h => by
    simp only [turnB, Bool.and_eq_true, decide_eq_true_eq] at h
    intro j hj
    rcases List.mem_cons.1 hj with rfl | hj
    · exact (mem_ready'.1 (by rw [h.1]; simp)).2.1
    · exact turn_lt r _ h.2 j hj
/-- A region that draws its order: ps hang on no world; hs by promises; then the tail ts in its order. -/
theorem region_lane {P : Program} {id : Nat} {Q : Exit → Act → World → Prop} {a : Act} {w : World} {l : List Oper} (ps hs ts : List Nat) (hm : P.follows .mixedOrders = true) (hB : topB l.toArray a.tmps.size ps hs ts = true)
    (hQ : ∀ c (a : Act) (d : Tmp) v w, Q (.panic c) (a.put (some d) v) w → Q (.panic c) a w)
    (h : wpQuiet P l.toArray (fun _ => True) (fun a1 => a1.tmps.size = a.tmps.size ∧ laneO P l.toArray w (finOf P l.toArray w Q (pick l ts) a1) (pick l hs) (envOf a1 [])) (pick l ps) a) : (Code.region id l.toArray true).wp P Q a w := by
  simp only [topB, firstAll, Bool.and_eq_true, decide_eq_true_eq] at hB
  obtain ⟨⟨⟨⟨hsel, hp⟩, hl⟩, hseq⟩, hlen⟩ := hB
  refine wp_region_any hm ?_
  have hsz : l.toArray.size = ps.length + (hs.length + ts.length) := by omega
  have key : ∀ fuel, fuel = ps.length + (hs.length + ts.length) → wpAny P .any l.toArray Q fuel (Array.replicate l.toArray.size false) a { w with drawn := w.drawn + 1 } := by
    intro fuel hfuel
    rw [hfuel]
    rw [← pick_eq ps (by simpa using pure_lt ps _ hp)] at h
    refine pure_first hsel hQ ps _ a hp h fun a1 ⟨hs1, h1⟩ => ?_
    have hl' : ∀ k ∈ hs, k < l.toArray.size := fun k hk => by
      simp only [laneB, Bool.and_eq_true] at hl
      obtain ⟨⟨⟨_, _⟩, hh⟩, _⟩ := hl
      simp only [headB, List.all_eq_true, Bool.and_eq_true, decide_eq_true_eq] at hh
      exact (hh k hk).1.1
    rw [← pick_eq hs (by simpa using hl'), ← pick_eq ts (by simpa using turn_lt ts _ hseq)] at h1
    have hpairs : hs.Nodup := by
      simp only [laneB, Bool.and_eq_true] at hl
      exact (pairsB_spec hs hl.1.1.1).1
    obtain ⟨Ts, hO, hF⟩ := lane_all hs _ hpairs (lane_of_laneO hs _ hl' h1)
    have hcl := closed_fold (md := .any) (ops := l.toArray) ps (Array.replicate l.toArray.size false) (by simp) (fun i hi => by rw [getD_replicate_false] at hi; cases hi) hp
    have hfil : (hs.filter fun k => !(ps.foldl (fun L k => L.setIfInBounds k true) (Array.replicate l.toArray.size false)).getD k false).length = hs.length := by
      rw [List.filter_eq_self.2]
      intro k hk
      simp only [laneB, Bool.and_eq_true] at hl
      obtain ⟨⟨⟨_, _⟩, hh⟩, _⟩ := hl
      simp only [headB, List.all_eq_true, Bool.and_eq_true] at hh
      exact (hh k hk).2
    refine wpAny_of_mid (w0 := w) (a0 := a1) (E0 := envOf a1 []) (Ts := Ts) (g := ts.length) (by rw [hs1]; exact hl) (envOf_steady (by intro x hx; cases hx)) hO (fun a' w' hb hd hsz' hm' => ?_) hs.length _ a1 _ hfil
      ⟨Behind.drawn w, hcl.2, rfl, rfl, hcl.1, fun _ h => h, fun _ h => .inl h, fun t k hk hlk => ?_, fun t _ => by simp [envOf]⟩
    · exact wpAny_of_turn ts _ a' w' hseq (hF a' w' hb hd hsz' hm')
    · simp only [laneB, Bool.and_eq_true] at hl
      obtain ⟨⟨⟨_, _⟩, hh⟩, _⟩ := hl
      simp only [headB, List.all_eq_true, Bool.and_eq_true] at hh
      have := (hh k hk).2
      rw [hlk] at this
      cases this
  exact key _ hsz
end Go.Proofs.Ytjhmdflagkenbaa
/- What a call may have turned: some blocks, and new ones. No program is named here. -/
namespace Go.Proofs.Ytjhmdflagkenbaa
set_option linter.unusedVariables false
set_option linter.unusedSimpArgs false
open Go.RowKit

structure Only (S : List Nat) (w w' : World) : Prop where
  os : w'.os = w.os
  tape : w'.tape = w.tape
  output : w'.output = w.output
  size : w.heap.size ≤ w'.heap.size
  block : ∀ k, k < w.heap.size → k ∉ S → w'.heap[k]? = w.heap[k]?

section
variable {S T : List Nat} {a b c w w' : World}
theorem Only.refl (S : List Nat) (w : World) : Only S w w := ⟨rfl, rfl, rfl, Nat.le_refl _, fun _ _ _ => rfl⟩
/-- What the second may turn, the first may, or it is new. -/
theorem Only.trans (h : Only S a b) (k : Only T b c) (ht : ∀ x ∈ T, x ∈ S ∨ a.heap.size ≤ x) : Only S a c :=
  ⟨k.os.trans h.os, k.tape.trans h.tape, k.output.trans h.output, Nat.le_trans h.size k.size, fun i hi hn =>
    (k.block i (Nat.lt_of_lt_of_le hi h.size) fun hT => by rcases ht i hT with h1 | h1
                                                           · exact hn h1
                                                           · omega).trans (h.block i hi hn)⟩
theorem Only.mono (h : Only S w w') (hs : ∀ x ∈ S, x ∈ T ∨ w.heap.size ≤ x) : Only T w w' := (Only.refl T w).trans h hs
theorem Only.then (h : Only S a b) (k : Only S b c) : Only S a c := h.trans k fun x hx => .inl hx
theorem Only.alloc (h : Only S a w) (o : Obj) : Only S a (w.alloc o) :=
  h.trans (T := []) ⟨rfl, rfl, rfl, by simp, fun k hk _ => Below.heap_alloc _ _ _ hk⟩ (by simp)
theorem Only.drewN (h : Only S a w) (n : Nat) : Only S a (w.drewN n) := ⟨h.os, h.tape, h.output, h.size, h.block⟩
theorem Only.drawn (h : Only S a w) : Only S a { w with drawn := w.drawn + 1 } := ⟨h.os, h.tape, h.output, h.size, h.block⟩
theorem Only.setCell (h : Only S a w) (p : Addr) (hp : p.block ∈ S ∨ a.heap.size ≤ p.block) (u : Value) : Only S a (w.setCell p u) :=
  h.trans (T := [p.block]) ⟨rfl, rfl, rfl, by simp [World.setCell], fun k _ hk => Below.heap_setCell _ _ _ _ (by simpa using hk)⟩ (by simpa using hp)
theorem Only.of_grown {row : Option Nat} (h : w.grownBy w' row) : Only row.toList w w' :=
  ⟨h.os, h.tape, h.output, h.size, fun k hk hn => h.block k hk fun e => hn (by simp [← e])⟩
theorem Only.of_below (h : Below w.heap.size w w') : Only S w w' := ⟨h.os, h.tape, h.output, h.size, fun k hk _ => h.block k hk⟩
theorem Only.below {B : Nat} (h : Only S w w') (hs : ∀ x ∈ S, B ≤ x) (hB : B ≤ w.heap.size) : Below B w w' :=
  ⟨h.os, h.tape, h.output, h.size, fun k hk => h.block k (by omega) fun hm => by have := hs k hm; omega⟩
theorem Only.cell (h : Only S w w') {p : Addr} (hp : p.block < w.heap.size) (hn : p.block ∉ S) : w'.cell? p = w.cell? p := World.cell?_of_block (w := w) (h.block _ hp hn)
theorem Only.frozen (h : Only S w w') {p : Addr} (hp : p.block < w.heap.size) (hn : p.block ∉ S) : w'.frozen? p = w.frozen? p := World.frozen?_of_block (w := w) (h.block _ hp hn)
theorem Only.whole (h : Only S w w') {g : Nat} {t : TypeId} {cs : List Value} (hw : Whole w g t cs) (hn : g ∉ S) : Whole w' g t cs := (h.block g hw.size hn).trans hw
theorem Only.owns (h : Only S w w') {base : Nat} {e : TypeId} {size : Nat} {v : Value} {n : Nat} {xs : List Value} (ho : w.ownsRow base e size v n xs) (hn : ∀ g, v.ownBlock = some g → g ∉ S) : w'.ownsRow base e size v n xs := by
  refine ⟨ho.1, ?_⟩
  rcases ho.2 with h0 | ⟨g, cap, cur, hv, hb, hg, rest⟩
  · exact .inl h0
  · refine .inr ⟨g, cap, cur, hv, hb, ?_, rest⟩
    rw [h.block g (Array.getElem?_eq_some_iff.1 hg).1 (hn g (by simp [hv, Value.ownBlock]))]
    exact hg
theorem Only.row (h : Only S w w') {B : Nat} {A : Option Addr} {xs : List Value} (hr : Row w B A xs) (hB : B ≤ w.heap.size) (hn : ∀ x ∈ S, B ≤ x) : Row w' B A xs :=
  hr.keep fun p hp => h.cell (by omega) fun hm => by have := hn _ hm; omega
end

/-- Two blocks of other element types are two. -/
theorem whole_ne {w : World} {g : Nat} {t : TypeId} {cs : List Value} (h : Whole w g t cs) {base : Nat} {e : TypeId} {size : Nat} {v : Value} {n : Nat} {xs : List Value} (ho : w.ownsRow base e size v n xs) (hne : t ≠ e) : v.ownBlock ≠ some g := by
  intro hv
  rcases ho.2 with ⟨rfl, _⟩ | ⟨g', cap, cur, rfl, _, hg, _⟩
  · simp [Value.ownBlock] at hv
  · simp [Value.ownBlock] at hv
    subst hv
    have h' : w.heap[g']? = some (.cells cs.toArray t (0, 0)) := h
    rw [h'] at hg
    simp at hg
    exact hne hg.2
theorem owns_ne {w : World} {b b' : Nat} {e e' : TypeId} {size size' : Nat} {v v' : Value} {n n' : Nat} {xs xs' : List Value} (h : w.ownsRow b e size v n xs) (h' : w.ownsRow b' e' size' v' n' xs') (hne : e ≠ e') {g : Nat} (hg : v.ownBlock = some g) : v'.ownBlock ≠ some g := by
  intro hv
  rcases h.2 with ⟨rfl, _⟩ | ⟨g1, cap, cur, rfl, _, hg1, _⟩
  · simp [Value.ownBlock] at hg
  · rcases h'.2 with ⟨rfl, _⟩ | ⟨g2, cap2, cur2, rfl, _, hg2, _⟩
    · simp [Value.ownBlock] at hv
    · simp [Value.ownBlock] at hv hg
      subst hv hg
      rw [hg1] at hg2
      simp at hg2
      exact hne hg2.2
theorem owns_lt {w : World} {b : Nat} {e : TypeId} {size : Nat} {v : Value} {n : Nat} {xs : List Value} (h : w.ownsRow b e size v n xs) {g : Nat} (hg : v.ownBlock = some g) : g < w.heap.size := (h.lt g hg).2
theorem owns_nil {w : World} {b : Nat} {e : TypeId} {size : Nat} {v : Value} {n : Nat} {xs : List Value} (h : w.ownsRow b e size v n xs) : ∃ A c, v = .slice A n c ∧ n ≤ c ∧ c ≤ maxLen ∧ (A = none → c = 0) := by
  rcases h.2 with ⟨rfl, rfl⟩ | ⟨g, cap, cur, rfl, _, hg, hn, hc, _⟩
  · exact ⟨none, 0, rfl, Nat.le_refl _, by simp [maxLen], fun _ => rfl⟩
  · exact ⟨_, _, rfl, hn, hc, fun h => by cases h⟩
theorem owns_some {w : World} {b : Nat} {e : TypeId} {size : Nat} {v : Value} {n : Nat} {xs : List Value} (h : w.ownsRow b e size v n xs) (hn : 0 < n) : ∃ g c, v = .slice (some ⟨g, 0, none⟩) n c ∧ n ≤ c ∧ c ≤ maxLen ∧ g < w.heap.size := by
  rcases h.2 with ⟨rfl, rfl⟩ | ⟨g, cap, cur, rfl, _, hg, hc, hm, _⟩
  · omega
  · exact ⟨_, _, rfl, hc, hm, (Array.getElem?_eq_some_iff.1 hg).1⟩
/-- The last elements let go: what is left is owned. -/
theorem owns_cut {w : World} {b : Nat} {e : TypeId} {size g n c : Nat} {xs : List Value} (h : w.ownsRow b e size (.slice (some ⟨g, 0, none⟩) n c) n xs) (m : Nat) (hm : m ≤ n) : w.ownsRow b e size (.slice (some ⟨g, 0, none⟩) m c) m (xs.take (m * size)) := by
  have hl := h.1
  rcases h.2 with ⟨h0, _⟩ | ⟨g', cap, cur, hv, hb, hg, hc, hmx, hcs, ht⟩
  · cases h0
  · injection hv with e1 _ e2
    injection e1 with e1
    injection e1 with e1 _ _
    subst e1 e2
    have hle : m * size ≤ n * size := Nat.mul_le_mul_right _ hm
    refine ⟨by rw [List.length_take, hl]; omega, .inr ⟨g, c, cur, rfl, hb, hg, by omega, hmx, hcs, ?_⟩⟩
    rw [← ht, List.take_take, Nat.min_eq_left hle]

section
variable {P : Program} {w : World} {e size bytes n : Nat} {xs : List Value}
/-- 'append' onto a row of the call's own: its block, or a new one. -/
theorem run_push (t ty : TypeId) (z : Value) (ht : P.underlying t = some (.slice e)) (hinfo : (P.info? e).map (fun i => (i.zero, i.size, i.bytes)) = some (some z, size, bytes))
    (hzs : z.cells.size = size) (hsz : 0 < size) (v : Value) (hown : w.ownsRow 0 e size v n xs) (a : Addr) (m c : Nat) (news : List Value) (hl : news.length = m * size) (hm : 0 < m)
    (hnews : ∀ j u, news[j]? = some u → w.cell? (a.add j) = some u) (h1 : ∀ u ∈ news, u.oneCell' = true) (h63 : n + m ≤ maxLen) (hbytes : (n + m) * bytes ≤ 140737488355328) :
    ∃ v' w', (Builtin.append_ #[t, t] ty #[v, .slice (some a) m c]).run P w = .ok v' w' ∧ w'.ownsRow 0 e size v' (n + m) (xs ++ news) ∧ w.grownBy w' v.ownBlock ∧ (∀ g, v'.ownBlock = some g → v.ownBlock = some g ∨ w.heap.size ≤ g) := by
  obtain ⟨i, hi, hz, hsize, hby⟩ := info_parts hinfo
  obtain ⟨v', w', hr, h2, h3, h4⟩ := run_append_own (P := P) w 0 t ty e i z size bytes ht hi hz hsize hby hzs hsz v n xs hown a m c news hl hnews h1 h63 hbytes (Nat.zero_le _)
  refine ⟨v', w', hr, h2, h3, fun g hg => ?_⟩
  rcases hown.2 with ⟨rfl, rfl⟩ | ⟨g0, cap, cur, rfl, _, hg0, hnc, hcm, hcs, htake⟩
  · have hx : xs = [] := List.eq_nil_of_length_eq_zero (by simpa using hown.1)
    subst hx
    obtain ⟨v2, w2, hr2, h22, _, _⟩ := run_append_own (P := P) w w.heap.size t ty e i z size bytes ht hi hz hsize hby hzs hsz _ 0 [] (World.ownsRow_nil w _ e size) a m c news hl hnews h1 h63 hbytes (Nat.le_refl _)
    rw [hr] at hr2
    injection hr2 with hv hw
    subst hv
    exact .inr (h22.lt g hg).1
  · by_cases hroom : n + m ≤ cap
    · obtain ⟨w2, hr2, _⟩ := run_append_fits (P := P) w 0 t ty e i size ht hi hsize g0 n cap xs hown a m c news hl hnews h1 hroom
      rw [hr] at hr2
      injection hr2 with hv hw
      subst hv
      exact .inl hg
    · have hsmall : n + m ≤ 9223372036854775807 := by simp only [maxLen] at h63; omega
      subst hsize
      have holds : ∀ j u, xs[j]? = some u → w.cell? ((⟨g0, 0, none⟩ : Addr).add j) = some u := hown.cells (g := g0) rfl
      have hr2 := run_append_grow (P := P) w t ty e i z ht hi hz ⟨g0, 0, none⟩ n cap xs hown.1 holds a m c news hl hnews (by omega) (by omega) (growslice_fits (by omega) (by rw [hby]; exact hbytes))
      rw [hr] at hr2
      injection hr2 with hv hw
      subst hv
      simp [Value.ownBlock] at hg
      exact .inr (by omega)
end

/-- A variable that was just made: a block of its own. -/
def newT (lo : Nat) (t : TypeId) (cs : List Value) : Told := fun v w => ∃ g, v = .pointer (some ⟨g, 0, none⟩) ∧ lo ≤ g ∧ Whole w g t cs
theorem newT_steady (lo : Nat) (t : TypeId) (cs : List Value) : Steady (newT lo t cs) := fun v w w' hb ⟨g, h1, h0, h2⟩ => ⟨g, h1, h0, h2.under hb h2.size⟩
theorem newT_new (lo : Nat) (t : TypeId) (cs : Array Value) (w : World) (h : lo ≤ w.heap.size) : Behind w (w.alloc (.cells cs t)) ∧ newT lo t cs.toList (.pointer (some ⟨w.heap.size, 0, none⟩)) (w.alloc (.cells cs t)) :=
  ⟨(Below.refl _ _).alloc (Nat.le_refl _) _, _, rfl, h, Whole.mk w t cs⟩
/-- .. a slice. -/
def rowT (lo n : Nat) (t : TypeId) (cs : List Value) : Told := fun v w => ∃ g, v = .slice (some ⟨g, 0, none⟩) n n ∧ lo ≤ g ∧ Whole w g t cs
theorem rowT_steady (lo n : Nat) (t : TypeId) (cs : List Value) : Steady (rowT lo n t cs) := fun v w w' hb ⟨g, h1, h0, h2⟩ => ⟨g, h1, h0, h2.under hb h2.size⟩
theorem rowT_new (lo n : Nat) (t : TypeId) (cs : Array Value) (w : World) (h : lo ≤ w.heap.size) : Behind w (w.alloc (.cells cs t)) ∧ rowT lo n t cs.toList (.slice (some ⟨w.heap.size, 0, none⟩) n n) (w.alloc (.cells cs t)) :=
  ⟨(Below.refl _ _).alloc (Nat.le_refl _) _, _, rfl, h, Whole.mk w t cs⟩
end Go.Proofs.Ytjhmdflagkenbaa
/- A block of integers of any type, read and written whole. No program is named here. -/
namespace Go.Proofs.Ytjhmdflagkenbaa
open Go Go.RowKit
set_option linter.unusedVariables false
set_option linter.unusedSimpArgs false

theorem flat_set (zs : List Int) (k : Nat) (n : Int) : (i64s zs).set k (.int .i64 n) = i64s (zs.set k n) := by simp [i64s, List.map_set]
theorem flat_one (zs : List Int) : (i64s zs).toArray.all (·.oneCell') = true :=
  Array.all_eq_true_iff_forall_mem.2 fun v hv => by
    have hv' : v ∈ i64s zs := by simpa using hv
    obtain ⟨z, _, rfl⟩ := List.mem_map.1 hv'
    rfl
section
variable {P : Program} {ops : Array Oper} {rest : List Oper} {o : Oper} {a : Act} {w : World} {Q : Exit → Act → World → Prop}
/-- Type t is a struct, or an array, of n cells. -/
def FlatT (P : Program) (t : TypeId) (n : Nat) : Prop := (∃ d, P.underlying t = some d ∧ (match d with | .struct _ | .array _ _ => true | _ => false) = true) ∧ (P.info? t).map (·.size) = some n
theorem flat_load {t : TypeId} {n : Nat} (ht : FlatT P t n) (x : Operand) (hgd : o.guard = none) (ho : o.op = .load t x) (g : Nat) (hx : a.eval x = .pointer (some ⟨g, 0, none⟩)) (zs : List Int) (hz : zs.length = n) (t0 : TypeId)
    (hw : Whole w g t0 (i64s zs)) (h : wpList P ops Q rest (a.put o.dst (.agg (i64s zs).toArray)) w) : wpList P ops Q (o :: rest) a w := by
  obtain ⟨⟨d, hd, hm⟩, hs⟩ := ht
  exact wpList_load_row hgd t x ho g hx t0 (i64s zs).toArray (0, 0) d hw hd (by cases d <;> first | rfl | exact hm) (by rw [hs]; simp [i64s_length, hz]) h
/-- .. of an operation that a guard has let through. -/
theorem flat_loadW {t : TypeId} {n : Nat} (ht : FlatT P t n) (x : Operand) (hgd : Region.wanted o (yielded ops a.tmps) = true) (ho : o.op = .load t x) (g : Nat) (hx : a.eval x = .pointer (some ⟨g, 0, none⟩)) (zs : List Int) (hz : zs.length = n) (t0 : TypeId)
    (hw : Whole w g t0 (i64s zs)) (h : wpList P ops Q rest (a.put o.dst (.agg (i64s zs).toArray)) w) : wpList P ops Q (o :: rest) a w := by
  obtain ⟨⟨d, hd, hm⟩, hs⟩ := ht
  exact wpList_wanted hgd fun _ hK => wp_load_row t x ho g hx t0 (i64s zs).toArray (0, 0) d hw hd (by cases d <;> first | rfl | exact hm) (by rw [hs]; simp [i64s_length, hz]) (hK _ _ h)
theorem flat_store {t : TypeId} {n : Nat} (ht : FlatT P t n) (x y : Operand) (hgd : o.guard = none) (ho : o.op = .store t x y) (g : Nat) (hx : a.eval x = .pointer (some ⟨g, 0, none⟩)) (zs : List Int) (hz : zs.length = n) (hy : a.eval y = .agg (i64s zs).toArray) (t0 : TypeId)
    (old : List Int) (hw : Whole w g t0 (i64s old)) (hold : old.length = n) (h : ∀ w', Whole w' g t0 (i64s zs) → Only [g] w w' → wpList P ops Q rest (a.put o.dst undef) w') : wpList P ops Q (o :: rest) a w :=
  wpList_plain hgd fun K hK => wp_store_row t x y ho g (i64s zs).toArray hx hy t0 (i64s old).toArray hw (by rw [ht.2]; simp [i64s_length, hz]) (by simp [i64s_length, hz, hold]) (flat_one zs)
    (hK _ _ (h _ (setRow_heap w g _ _ _ _ hw) ⟨rfl, rfl, rfl, by simp, fun k _ hk => setRow_other w g k _ (by simpa using hk)⟩))
theorem flat_end {t : TypeId} {n : Nat} (ht : FlatT P t n) {fn : Func} {p : Tmp} {R : Ending → World → Prop} (hr : fn.results = #[.cell p t]) (g : Nat) (hp : a.tmps.getD p undef = .pointer (some ⟨g, 0, none⟩)) (zs : List Int) (hz : zs.length = n) (t0 : TypeId)
    (hw : Whole w g t0 (i64s zs)) (hd : a.defers = []) (hR : R (.returned (.agg (i64s zs).toArray)) w) : bodyPost P fn R .ret a w := by
  obtain ⟨⟨d, hd', hm⟩, hs⟩ := ht
  exact bodyPost_ret (v := .agg (i64s zs).toArray) (results_cell_row hr a.tmps w g t0 (i64s zs).toArray (0, 0) d hp hw hd' (by cases d <;> first | rfl | exact hm) (by rw [hs]; simp [i64s_length, hz])) hd hR
theorem flat_gives {t : TypeId} {n : Nat} (ht : FlatT P t n) {o : Oper} {a : Act} {w : World} (x : Operand) (ho : o.op = .load t x) (g : Nat) (hx : a.eval x = .pointer (some ⟨g, 0, none⟩)) (zs : List Int) (hz : zs.length = n) (t0 : TypeId)
    (hw : Whole w g t0 (i64s zs)) : gives P o a w fun u _ => u = .agg (i64s zs).toArray := by
  obtain ⟨⟨d, hd', hm⟩, hs⟩ := ht
  have hr := run_loadVar_row (P := P) w g t0 t (i64s zs).toArray (0, 0) d hw hd' (by cases d <;> first | rfl | exact hm) (by rw [hs]; simp [i64s_length, hz])
  unfold gives execOp
  simp only [ho, hx, Instr.loadAt, Instr.sureAddr, Sem.run_bind, Sem.run_pure, Result.andThen_ok, hr]
  exact ⟨Behind.refl w, trivial⟩
end
/-- A text's length, in a region that draws its order. -/
theorem gives_len {P : Program} {o : Oper} {a : Act} {w : World} (x : Operand) (t : TypeId) (ho : o.op = .call { callee := .builtin .len, args := #[x], argTypes := #[t] }) (ht : P.underlying t = some .string) (s : ByteArray) (hx : a.eval x = .string s) :
    gives P o a w fun u _ => u = .int .i64 s.size := by
  have h := run_len_string (P := P) w t o.type s ht
  unfold gives execOp
  simp only [ho, resolve, invoke, builtin, Sem.run_bind, Sem.run_pure, Result.andThen_ok, List.map_toArray, List.map_cons, List.map_nil, hx, h]
  exact ⟨Behind.refl w, rfl⟩
/-- 'a[i]' of an array of integers, by value. -/
theorem run_index_ints {P : Program} {t e : TypeId} {n : Nat} {k : IntKind} (h : P.underlying t = some (.array n e)) (he : P.underlying e = some (.int .i64)) (hs : (P.info? e).map (·.size) = some 1) (zs : List Int) (hz : zs.length = n) (i : Nat) (hi : i < n) (w : World) :
    (Instr.index t (.agg (i64s zs).toArray) (.int k i)).run P w = .ok (.int .i64 (zs.getD i 0)) w := by
  have h1 : (0 : Int) ≤ i ∧ (i : Int) < n := by omega
  have hg : (i64s zs)[i]? = some (.int .i64 (zs.getD i 0)) := by simp [i64s, List.getD, List.getElem?_eq_getElem (show i < zs.length by omega)]
  have hsz : (sizeOf e).run P w = .ok 1 w := by
    cases hq : P.info? e with
    | none => simp [hq] at hs
    | some j =>
      have : j.size = 1 := by simpa [hq] using hs
      simp [sizeOf, typeInfo, hq, this, go_sem]
  simp [Instr.index, run_underlying h, asIntOf, h1, hsz, part, isAgg, run_underlying he, hg, hi, go_sem]
section
variable {w w' : World} {g : Nat} {t : TypeId} {zs : List Int}
theorem Whole.num (h : Whole w g t (i64s zs)) (i : Nat) (hi : i < zs.length) : w.cell? ⟨g, i, none⟩ = some (.int .i64 (zs.getD i 0)) := by
  rw [h.cell i]
  simp [i64s, List.getD, List.getElem?_eq_getElem hi]
theorem Whole.putNum (h : Whole w g t (i64s zs)) (i : Nat) (n : Int) : Whole (w.setCell ⟨g, i, none⟩ (.int .i64 n)) g t (i64s (zs.set i n)) := by
  rw [← flat_set]; exact h.put i _
end
end Go.Proofs.Ytjhmdflagkenbaa
/- A block of cells of any kinds read and written whole. No program is named here. -/
namespace Go.Proofs.Ytjhmdflagkenbaa
open Go Go.RowKit
set_option linter.unusedVariables false
set_option linter.unusedSimpArgs false

theorem cells_one {cs : List Value} (h : ∀ v ∈ cs, v.oneCell' = true) : cs.toArray.all (·.oneCell') = true := Array.all_eq_true_iff_forall_mem.2 fun v hv => h v (by simpa using hv)
section
variable {P : Program} {ops : Array Oper} {rest : List Oper} {o : Oper} {a : Act} {w : World} {Q : Exit → Act → World → Prop}
theorem cells_load {t : TypeId} {n : Nat} (ht : FlatT P t n) (x : Operand) (hgd : o.guard = none) (ho : o.op = .load t x) (g : Nat) (hx : a.eval x = .pointer (some ⟨g, 0, none⟩)) (cs : List Value) (hz : cs.length = n) (t0 : TypeId)
    (hw : Whole w g t0 cs) (h : wpList P ops Q rest (a.put o.dst (.agg cs.toArray)) w) : wpList P ops Q (o :: rest) a w := by
  obtain ⟨⟨d, hd, hm⟩, hs⟩ := ht
  exact wpList_load_row hgd t x ho g hx t0 cs.toArray (0, 0) d hw hd (by cases d <;> first | rfl | exact hm) (by rw [hs]; simp [hz]) h
theorem cells_loadW {t : TypeId} {n : Nat} (ht : FlatT P t n) (x : Operand) (hgd : Region.wanted o (yielded ops a.tmps) = true) (ho : o.op = .load t x) (g : Nat) (hx : a.eval x = .pointer (some ⟨g, 0, none⟩)) (cs : List Value) (hz : cs.length = n) (t0 : TypeId)
    (hw : Whole w g t0 cs) (h : wpList P ops Q rest (a.put o.dst (.agg cs.toArray)) w) : wpList P ops Q (o :: rest) a w := by
  obtain ⟨⟨d, hd, hm⟩, hs⟩ := ht
  exact wpList_wanted hgd fun _ hK => wp_load_row t x ho g hx t0 cs.toArray (0, 0) d hw hd (by cases d <;> first | rfl | exact hm) (by rw [hs]; simp [hz]) (hK _ _ h)
theorem cells_store {t : TypeId} {n : Nat} (ht : FlatT P t n) (x y : Operand) (hgd : o.guard = none) (ho : o.op = .store t x y) (g : Nat) (hx : a.eval x = .pointer (some ⟨g, 0, none⟩)) (cs : List Value) (hz : cs.length = n) (h1 : ∀ v ∈ cs, v.oneCell' = true) (hy : a.eval y = .agg cs.toArray) (t0 : TypeId)
    (old : List Value) (hw : Whole w g t0 old) (hold : old.length = n) (h : ∀ w', Whole w' g t0 cs → Only [g] w w' → wpList P ops Q rest (a.put o.dst undef) w') : wpList P ops Q (o :: rest) a w :=
  wpList_plain hgd fun K hK => wp_store_row t x y ho g cs.toArray hx hy t0 old.toArray hw (by rw [ht.2]; simp [hz]) (by simp [hz, hold]) (cells_one h1)
    (hK _ _ (h _ (setRow_heap w g _ _ _ _ hw) ⟨rfl, rfl, rfl, by simp, fun k _ hk => setRow_other w g k _ (by simpa using hk)⟩))
theorem cells_gives {t : TypeId} {n : Nat} (ht : FlatT P t n) {o : Oper} {a : Act} {w : World} (x : Operand) (ho : o.op = .load t x) (g : Nat) (hx : a.eval x = .pointer (some ⟨g, 0, none⟩)) (cs : List Value) (hz : cs.length = n) (t0 : TypeId)
    (hw : Whole w g t0 cs) : gives P o a w fun u _ => u = .agg cs.toArray := by
  obtain ⟨⟨d, hd', hm⟩, hs⟩ := ht
  have hr := run_loadVar_row (P := P) w g t0 t cs.toArray (0, 0) d hw hd' (by cases d <;> first | rfl | exact hm) (by rw [hs]; simp [hz])
  unfold gives execOp
  simp only [ho, hx, Instr.loadAt, Instr.sureAddr, Sem.run_bind, Sem.run_pure, Result.andThen_ok, hr]
  exact ⟨Behind.refl w, trivial⟩
theorem cells_end {t : TypeId} {n : Nat} (ht : FlatT P t n) {fn : Func} {p : Tmp} {R : Ending → World → Prop} (hr : fn.results = #[.cell p t]) (g : Nat) (hp : a.tmps.getD p undef = .pointer (some ⟨g, 0, none⟩)) (cs : List Value) (hz : cs.length = n) (t0 : TypeId)
    (hw : Whole w g t0 cs) (hd : a.defers = []) (hR : R (.returned (.agg cs.toArray)) w) : bodyPost P fn R .ret a w := by
  obtain ⟨⟨d, hd', hm⟩, hs⟩ := ht
  exact bodyPost_ret (v := .agg cs.toArray) (results_cell_row hr a.tmps w g t0 cs.toArray (0, 0) d hp hw hd' (by cases d <;> first | rfl | exact hm) (by rw [hs]; simp [hz])) hd hR
theorem cells_build (t : TypeId) (parts : Array (Nat × Operand)) (hgd : o.guard = none) (ho : o.op = .build t parts) (cs : List Value) (hf : P.built t (parts.map fun (i, x) => (i, a.eval x)).toList = some cs.toArray) (h : wpList P ops Q rest (a.put o.dst (.agg cs.toArray)) w) : wpList P ops Q (o :: rest) a w :=
  wpList_plain hgd fun K hK => wp_build t parts ho (by rw [hf]; rfl) (by rw [hf]; exact hK _ _ h)
theorem cells_buildW (t : TypeId) (parts : Array (Nat × Operand)) (hgd : Region.wanted o (yielded ops a.tmps) = true) (ho : o.op = .build t parts) (cs : List Value) (hf : P.built t (parts.map fun (i, x) => (i, a.eval x)).toList = some cs.toArray) (h : wpList P ops Q rest (a.put o.dst (.agg cs.toArray)) w) : wpList P ops Q (o :: rest) a w :=
  wpList_wanted hgd fun K hK => wp_build t parts ho (by rw [hf]; rfl) (by rw [hf]; exact hK _ _ h)
theorem built_gives {o : Oper} {a : Act} {w : World} (t : TypeId) (parts : Array (Nat × Operand)) (ho : o.op = .build t parts) (cells : Array Value) (hf : P.built t (parts.map fun (i, x) => (i, a.eval x)).toList = some cells) : gives P o a w fun u _ => u = .agg cells := by
  unfold gives execOp
  simp only [ho, Sem.run_bind, run_build w t _ cells hf, Result.andThen_ok, Sem.run_pure]
  exact ⟨Behind.refl w, trivial⟩
end
end Go.Proofs.Ytjhmdflagkenbaa
/- unit.Pct. -/
namespace Go.Proofs.Ytjhmdflagkenbaa
open Go.RowKit

theorem mul_bd (a b : Int) (A B : Int) (h1 : -A ≤ a) (h2 : a ≤ A) (h3 : -B ≤ b) (h4 : b ≤ B) : -(A * B) ≤ a * b ∧ a * b ≤ A * B := by
  have h : (a * b).natAbs ≤ A.natAbs * B.natAbs := by rw [Int.natAbs_mul]; exact Nat.mul_le_mul (by omega) (by omega)
  have e : ((A.natAbs * B.natAbs : Nat) : Int) = A * B := by rw [Int.natCast_mul]; congr 1 <;> omega
  omega
theorem pct_any (b h : Int) (w : World) (hb : -9223372036854775808 ≤ b) (hb' : b ≤ 9223372036854775807) (hn : -9223372036854775808 ≤ h) (hn' : h ≤ 9223372036854775807) :
    Calls Try.prog 29 #[.int .i64 b, .int .i64 h] w fun e w' => e = .returned (.int .i64 (pctZ b h)) ∧ w = w' := by
  have hd := hold_bd b
  obtain ⟨hm1, hm2⟩ := mul_bd (holdZ b) (max (-1000000000) (min h 1000000000)) 1073741824 1000000000 (by omega) (by omega) (by omega) (by omega)
  have hb := near_bd (holdZ b * max (-1000000000) (min h 1000000000)) 10000 (by omega) (by omega) (by omega) (by omega)
  go_enter Try.func29, Try.ntmps29
  go_wp2_with (first
    | (go_at_call 50; refine (within_any _ _ _ (by omega) (by omega) (by omega) (by omega)).mono ?_; rintro e w' ⟨rfl, rfl⟩)
    | (go_at_call 49; refine (nearest_any _ _ _ (by omega) (by omega) (by omega) (by omega)).mono ?_; rintro e w' ⟨rfl, rfl⟩)
    | (go_at_call 48; refine (hold_any _ _ (by omega) (by omega)).mono ?_; rintro e w' ⟨rfl, rfl⟩))
  go_ret
  exact ⟨rfl, rfl⟩
end Go.Proofs.Ytjhmdflagkenbaa
/- Declarations and styles as plain numbers. No program is named here. -/
set_option linter.unusedSimpArgs false
namespace Go.Proofs.Ytjhmdflagkenbaa
open Go.RowKit
set_option linter.unusedVariables false

/-- How many words a Prop has. -/
def wordsN (p : Int) : Int :=
  if p = 1 ∨ p = 20 ∨ p = 27 then 4 else if p = 21 ∨ p = 29 ∨ p = 30 then 3 else if p = 26 ∨ p = 28 then 5 else if p = 32 then 2 else 0
/-- Could a text tell a declaration of Prop p, Word w, Len (k, n)? -/
def mayP (p w k n : Int) : Prop :=
  if p < 1 ∨ 32 < p then False
  else if 0 < wordsN p then 0 ≤ w ∧ w < wordsN p ∧ k = 0 ∧ n = 0
  else if p = 23 ∨ p = 24 then 0 ≤ w ∧ w ≤ 100 ∧ k = 0 ∧ n = 0
  else if p = 25 then -1000 ≤ w ∧ w ≤ 1000 ∧ k = 0 ∧ n = 0
  else if (12 ≤ p ∧ p ≤ 19) ∨ p = 31 then w = 0 ∧ k = 1 ∧ 0 ≤ n ∧ n ≤ 6400000
  else if 8 ≤ p ∧ p ≤ 11 then w = 0 ∧ ((k = 1 ∧ -6400000 ≤ n ∧ n ≤ 6400000) ∨ (k = 2 ∧ -999999 ≤ n ∧ n ≤ 999999) ∨ (k = 0 ∧ n = 0))
  else if p = 4 ∨ p = 5 then w = 0 ∧ ((k = 1 ∧ 0 ≤ n ∧ n ≤ 6400000) ∨ (k = 2 ∧ 0 ≤ n ∧ n ≤ 999999))
  else w = 0 ∧ ((k = 1 ∧ 0 ≤ n ∧ n ≤ 6400000) ∨ (k = 2 ∧ 0 ≤ n ∧ n ≤ 999999) ∨ (k = 0 ∧ n = 0))
instance (p w k n : Int) : Decidable (mayP p w k n) := by unfold mayP; infer_instance
def mayZ (p w k n : Int) : Bool := decide (mayP p w k n)
/-- Where a Prop's cells begin, of a style's 43. -/
def offZ (p : Int) : Nat :=
  if p = 1 then 0 else if p = 20 then 1 else if p = 21 then 2 else if p = 26 then 3 else if p = 27 then 4 else if p = 28 then 5 else if p = 29 then 6 else if p = 30 then 7 else if p = 32 then 8
  else if p = 22 then 21 else if p < 8 then (2 * p + 5).toNat else if p < 12 then (2 * p + 7).toNat else if p < 20 then (p + 19).toNat else if p = 31 then 42 else (p + 16).toNat
/-- A style's cells with a declaration laid over. -/
def laidZ (zs : List Int) (p w k n : Int) : List Int :=
  if p < 1 ∨ 32 < p then zs
  else if 0 < wordsN p ∨ (23 ≤ p ∧ p ≤ 25) then zs.set (offZ p) w
  else if (12 ≤ p ∧ p ≤ 19) ∨ p = 31 then zs.set (offZ p) n
  else (zs.set (offZ p) k).set (offZ p + 1) n
theorem laidZ_length (zs : List Int) (p w k n : Int) : (laidZ zs p w k n).length = zs.length := by
  unfold laidZ; split <;> try split <;> try split
  all_goals simp
/-- What is initial. -/
def initZ : List Int := [1, 0, 0, 0, 3, 0, 0, 0, 0,  0, 0, 0, 0, 1, 0, 1, 0, 0, 0, 0, 0, 0, 0,  1, 0, 1, 0, 1, 0, 1, 0,  0, 0, 0, 0,  0, 0, 0, 0,  0, 1, 0,  1280]
structure Dc where
  p : Int
  w : Int
  k : Int
  n : Int
def dCells : List Dc → List Int
  | [] => []
  | d :: r => d.p :: d.w :: d.k :: d.n :: dCells r
/-- A style with each of a row laid over. -/
def styleZ (zs : List Int) : List Dc → List Int
  | [] => zs
  | d :: r => styleZ (if mayZ d.p d.w d.k d.n = true then laidZ zs d.p d.w d.k d.n else zs) r
theorem dCells_length (l : List Dc) : (dCells l).length = l.length * 4 := by
  induction l with
  | nil => rfl
  | cons d r ih => simp [dCells, ih]; omega
theorem dCells_append (a b : List Dc) : dCells (a ++ b) = dCells a ++ dCells b := by
  induction a with
  | nil => rfl
  | cons d r ih => simp [dCells, ih]
theorem dCells_get (l : List Dc) : ∀ k (h : k < l.length), (dCells l)[k * 4]? = some l[k].p ∧ (dCells l)[k * 4 + 1]? = some l[k].w ∧ (dCells l)[k * 4 + 2]? = some l[k].k ∧ (dCells l)[k * 4 + 3]? = some l[k].n := by
  induction l with
  | nil => intro k h; simp at h
  | cons d r ih =>
    intro k h
    cases k with
    | zero => exact ⟨rfl, rfl, rfl, rfl⟩
    | succ k =>
      have := ih k (by simpa using h)
      rw [show (k + 1) * 4 = k * 4 + 1 + 1 + 1 + 1 by omega]
      simpa [dCells] using this
theorem styleZ_append (a b : List Dc) : ∀ zs, styleZ zs (a ++ b) = styleZ (styleZ zs a) b := by
  induction a with
  | nil => intro zs; rfl
  | cons d r ih => intro zs; simp [styleZ, ih]
theorem styleZ_length (l : List Dc) : ∀ zs, (styleZ zs l).length = zs.length := by
  induction l with
  | nil => intro zs; rfl
  | cons d r ih => intro zs; rw [styleZ, ih]; split <;> simp [laidZ_length]
theorem styleZ_take (zs : List Int) (l : List Dc) (k : Nat) (h : k < l.length) :
    styleZ zs (l.take (k + 1)) = if mayZ l[k].p l[k].w l[k].k l[k].n = true then laidZ (styleZ zs (l.take k)) l[k].p l[k].w l[k].k l[k].n else styleZ zs (l.take k) := by
  rw [List.take_succ_eq_append_getElem h, styleZ_append]; rfl

def pxB (w k n : Int) : Bool := decide (w = 0 ∧ k = 1 ∧ -6400000 ≤ n ∧ n ≤ 6400000)
def pctB (w k n : Int) : Bool := decide (w = 0 ∧ k = 2 ∧ -999999 ≤ n ∧ n ≤ 999999)
def autoB (w k n : Int) : Bool := decide (w = 0 ∧ k = 0 ∧ n = 0)
section
variable {p w k n : Int}
theorem wordsN_none (h : ¬ (p = 1 ∨ p = 20 ∨ p = 21 ∨ p = 26 ∨ p = 27 ∨ p = 28 ∨ p = 29 ∨ p = 30 ∨ p = 32)) : wordsN p = 0 := by
  unfold wordsN
  rw [if_neg (by omega), if_neg (by omega), if_neg (by omega), if_neg (by omega)]
theorem wordsN_pos (h : p = 1 ∨ p = 20 ∨ p = 21 ∨ p = 26 ∨ p = 27 ∨ p = 28 ∨ p = 29 ∨ p = 30 ∨ p = 32) : 0 < wordsN p ∧ wordsN p ≤ 5 := by
  rcases h with rfl | rfl | rfl | rfl | rfl | rfl | rfl | rfl | rfl <;> decide
theorem wordsN_le (p : Int) : 0 ≤ wordsN p ∧ wordsN p ≤ 5 := by
  by_cases h : p = 1 ∨ p = 20 ∨ p = 21 ∨ p = 26 ∨ p = 27 ∨ p = 28 ∨ p = 29 ∨ p = 30 ∨ p = 32
  · have := wordsN_pos h; omega
  · rw [wordsN_none h]; decide
theorem may_iff : (mayZ p w k n = true) ↔ mayP p w k n := by unfold mayZ; exact decide_eq_true_iff
theorem may_out (h : p < 1 ∨ 32 < p) : mayZ p w k n = false := by
  rw [Bool.eq_false_iff]; intro h1; rw [may_iff] at h1; unfold mayP at h1; rw [if_pos h] at h1; exact h1
theorem may_words (h : p = 1 ∨ p = 20 ∨ p = 21 ∨ p = 26 ∨ p = 27 ∨ p = 28 ∨ p = 29 ∨ p = 30 ∨ p = 32) : mayZ p w k n = decide (0 ≤ w ∧ w < wordsN p ∧ k = 0 ∧ n = 0) := by
  have h1 := wordsN_pos h
  rw [Bool.eq_iff_iff, may_iff, decide_eq_true_iff]; unfold mayP
  rw [if_neg (by omega), if_pos h1.1]
theorem may_whole (h : p = 23 ∨ p = 24) : mayZ p w k n = decide (0 ≤ w ∧ w ≤ 100 ∧ k = 0 ∧ n = 0) := by
  have h1 := wordsN_none (p := p) (by omega)
  rw [Bool.eq_iff_iff, may_iff, decide_eq_true_iff]; unfold mayP
  rw [if_neg (by omega), if_neg (by omega), if_pos h]
theorem may_order (h : p = 25) : mayZ p w k n = decide (-1000 ≤ w ∧ w ≤ 1000 ∧ k = 0 ∧ n = 0) := by
  have h1 := wordsN_none (p := p) (by omega)
  rw [Bool.eq_iff_iff, may_iff, decide_eq_true_iff]; unfold mayP
  rw [if_neg (by omega), if_neg (by omega), if_neg (by omega), if_pos h]
theorem may_px (h : (12 ≤ p ∧ p ≤ 19) ∨ p = 31) : mayZ p w k n = (pxB w k n && decide (0 ≤ n)) := by
  have h1 := wordsN_none (p := p) (by omega)
  rw [Bool.eq_iff_iff, may_iff]; unfold mayP pxB
  rw [if_neg (by omega), if_neg (by omega), if_neg (by omega), if_neg (by omega), if_pos h]
  simp only [Bool.and_eq_true, Bool.or_eq_true, decide_eq_true_iff]
  omega
theorem may_margin (h : 8 ≤ p ∧ p ≤ 11) : mayZ p w k n = (pxB w k n || pctB w k n || autoB w k n) := by
  have h1 := wordsN_none (p := p) (by omega)
  rw [Bool.eq_iff_iff, may_iff]; unfold mayP pxB pctB autoB
  rw [if_neg (by omega), if_neg (by omega), if_neg (by omega), if_neg (by omega), if_neg (by omega), if_pos h]
  simp only [Bool.and_eq_true, Bool.or_eq_true, decide_eq_true_iff]
  omega
theorem may_min (h : p = 4 ∨ p = 5) : mayZ p w k n = ((pxB w k n || pctB w k n) && decide (0 ≤ n)) := by
  have h1 := wordsN_none (p := p) (by omega)
  rw [Bool.eq_iff_iff, may_iff]; unfold mayP pxB pctB
  rw [if_neg (by omega), if_neg (by omega), if_neg (by omega), if_neg (by omega), if_neg (by omega), if_neg (by omega), if_pos h]
  simp only [Bool.and_eq_true, Bool.or_eq_true, decide_eq_true_iff]
  omega
theorem may_rest (h : p = 2 ∨ p = 3 ∨ p = 6 ∨ p = 7 ∨ p = 22) : mayZ p w k n = (((pxB w k n || pctB w k n) && decide (0 ≤ n)) || autoB w k n) := by
  have h1 := wordsN_none (p := p) (by omega)
  rw [Bool.eq_iff_iff, may_iff]; unfold mayP pxB pctB autoB
  rw [if_neg (by omega), if_neg (by omega), if_neg (by omega), if_neg (by omega), if_neg (by omega), if_neg (by omega), if_neg (by omega)]
  simp only [Bool.and_eq_true, Bool.or_eq_true, decide_eq_true_iff]
  omega
end
end Go.Proofs.Ytjhmdflagkenbaa
/- A style in memory: 43 cells, read and written whole. -/
namespace Go.Proofs.Ytjhmdflagkenbaa
open Go Go.RowKit
set_option linter.unusedVariables false
set_option linter.unusedSimpArgs false

theorem style_size : (Try.prog.info? 27).map (·.size) = some 43 := by kernel_rfl
theorem i64s_set (zs : List Int) (k : Nat) (n : Int) : i64s (zs.set k n) = (i64s zs).set k (.int .i64 n) := by simp [i64s, List.map_set]
/-- A style as a value. -/
def styV (zs : List Int) : Value := .agg (i64s zs).toArray
theorem i64s_get (zs : List Int) (i : Nat) (h : i < zs.length) : ∃ z, (i64s zs)[i]? = some (.int .i64 z) := ⟨zs[i], by simp [i64s, h]⟩

section
variable {ops : Array Oper} {rest : List Oper} {o : Oper} {a : Act} {w : World} {Q : Exit → Act → World → Prop}
theorem style_load (x : Operand) (hgd : o.guard = none) (ho : o.op = .load 27 x) (g : Nat) (hx : a.eval x = .pointer (some ⟨g, 0, none⟩)) (zs : List Int) (hz : zs.length = 43)
    (hw : Whole w g 27 (i64s zs)) (h : wpList Try.prog ops Q rest (a.put o.dst (.agg (i64s zs).toArray)) w) : wpList Try.prog ops Q (o :: rest) a w :=
  wpList_load_row hgd 27 x ho g hx 27 (i64s zs).toArray (0, 0) _ hw Try.underlying27 rfl (by rw [style_size]; simp [i64s_length, hz]) h
theorem style_store (x y : Operand) (hgd : o.guard = none) (ho : o.op = .store 27 x y) (g : Nat) (hx : a.eval x = .pointer (some ⟨g, 0, none⟩)) (zs : List Int) (hz : zs.length = 43) (hy : a.eval y = .agg (i64s zs).toArray)
    (old : List Int) (hw : Whole w g 27 (i64s old)) (hold : old.length = 43) (h : ∀ w', Whole w' g 27 (i64s zs) → Only [g] w w' → wpList Try.prog ops Q rest (a.put o.dst undef) w') : wpList Try.prog ops Q (o :: rest) a w :=
  wpList_plain hgd fun K hK => wp_store_row 27 x y ho g (i64s zs).toArray hx hy 27 (i64s old).toArray hw (by rw [style_size]; simp [i64s_length, hz]) (by simp [i64s_length, hz, hold])
    (Array.all_eq_true_iff_forall_mem.2 fun v hv => i64s_one zs v (by simpa using hv))
    (hK _ _ (h _ (setRow_heap w g _ _ _ _ hw) ⟨rfl, rfl, rfl, by simp, fun k _ hk => setRow_other w g k _ (by simpa using hk)⟩))
theorem style_end {fn : Func} {p : Tmp} {R : Ending → World → Prop} (hr : fn.results = #[.cell p 27]) (g : Nat) (hp : a.tmps.getD p undef = .pointer (some ⟨g, 0, none⟩)) (zs : List Int) (hz : zs.length = 43)
    (hw : Whole w g 27 (i64s zs)) (hd : a.defers = []) (hR : R (.returned (.agg (i64s zs).toArray)) w) : bodyPost Try.prog fn R .ret a w :=
  bodyPost_ret (v := .agg (i64s zs).toArray) (results_cell_row hr a.tmps w g 27 (i64s zs).toArray (0, 0) _ hp hw Try.underlying27 rfl (by rw [style_size]; simp [i64s_length, hz])) hd hR
end
def zeros43 : List Int := List.replicate 43 0
/-- A style's box, a declaration's, a result's. -/
def RelZ (W w : World) (zs : List Int) : Prop := Whole w W.heap.size 27 (i64s zs) ∧ Whole w (W.heap.size + 1 + 1) 27 (i64s zeros43) ∧ Below W.heap.size W w
theorem relZ_mk (W : World) (xs : List Value) (o : Obj) (zs : List Int) (h : i64s zs = xs) : RelZ W (((W.alloc (.cells xs.toArray 27)).alloc o).alloc (.cells #[.int .i64 0, .int .i64 0, .int .i64 0, .int .i64 0, .int .i64 0, .int .i64 0, .int .i64 0, .int .i64 0, .int .i64 0, .int .i64 0, .int .i64 0, .int .i64 0, .int .i64 0, .int .i64 0, .int .i64 0, .int .i64 0, .int .i64 0, .int .i64 0, .int .i64 0, .int .i64 0, .int .i64 0, .int .i64 0, .int .i64 0, .int .i64 0, .int .i64 0, .int .i64 0, .int .i64 0, .int .i64 0, .int .i64 0, .int .i64 0, .int .i64 0, .int .i64 0, .int .i64 0, .int .i64 0, .int .i64 0, .int .i64 0, .int .i64 0, .int .i64 0, .int .i64 0, .int .i64 0, .int .i64 0, .int .i64 0, .int .i64 0] 27)) zs := by
  subst h
  refine ⟨?_, ?_, (((Below.refl _ _).alloc (Nat.le_refl _) _).alloc (by simp) _).alloc (by simp; omega) _⟩
  · have h := Whole.mk W 27 (i64s zs).toArray
    simpa using (h.made o).made _
  · have h := Whole.mk ((W.alloc (.cells (i64s zs).toArray 27)).alloc o) 27 (i64s zeros43).toArray
    simp only [World.size_alloc] at h
    exact h
theorem gives_style {o : Oper} {a : Act} {w : World} (x : Operand) (ho : o.op = .load 27 x) (g : Nat) (hx : a.eval x = .pointer (some ⟨g, 0, none⟩)) (zs : List Int) (hz : zs.length = 43)
    (hw : Whole w g 27 (i64s zs)) : gives Try.prog o a w fun u _ => u = .agg (i64s zs).toArray := by
  have hr := run_loadVar_row (P := Try.prog) w g 27 27 (i64s zs).toArray (0, 0) _ hw Try.underlying27 rfl (by rw [style_size]; simp [i64s_length, hz])
  unfold gives execOp
  simp only [ho, hx, Instr.loadAt, Instr.sureAddr, Sem.run_bind, Sem.run_pure, Result.andThen_ok, hr]
  exact ⟨Behind.refl w, trivial⟩
/-- A row's k-th declaration, as the walk reads it. -/
theorem Row.dec {w : World} {B : Nat} {A : Option Addr} {ds : List Dc} (h : Row w B A (i64s (dCells ds))) {k : Nat} (hk : k < ds.length) :
    ∃ ad, A = some ad ∧ ad.block < B ∧ w.cell? (ad.add (k * 4)) = some (.int .i64 ds[k].p) ∧ w.cell? ⟨(ad.add (k * 4)).block, (ad.add (k * 4)).off + 1, none⟩ = some (.int .i64 ds[k].w) ∧
      w.cell? ⟨(ad.add (k * 4)).block, (ad.add (k * 4)).off + 2, none⟩ = some (.int .i64 ds[k].k) ∧ w.cell? ⟨(ad.add (k * 4)).block, (ad.add (k * 4)).off + 3, none⟩ = some (.int .i64 ds[k].n) := by
  have hl := dCells_length ds
  have hl' := i64s_length (dCells ds)
  obtain ⟨ad, e, hb, hc⟩ := h (by omega)
  obtain ⟨g0, g1, g2, g3⟩ := dCells_get ds k hk
  have at_ : ∀ j, j < 4 → ∀ z, (dCells ds)[k * 4 + j]? = some z → w.cell? (ad.add (k * 4 + j)) = some (.int .i64 z) := fun j hj z hz => by
    have h1 : k * 4 + j < (i64s (dCells ds)).length := by omega
    rw [hc _ h1]
    have h2 : k * 4 + j < (dCells ds).length := by omega
    rw [List.getElem?_eq_getElem h2] at hz
    injection hz with hz
    simp [i64s, hz]
  have far : ∀ j, 0 < j → (⟨(ad.add (k * 4)).block, (ad.add (k * 4)).off + j, none⟩ : Addr) = ad.add (k * 4 + j) := fun j hj => by
    have : (ad.add (k * 4)).add j = ad.add (k * 4 + j) := add_of_add _ _ _
    rw [← this]
    generalize ad.add (k * 4) = b
    unfold Addr.add
    rw [if_neg (by omega)]
  refine ⟨ad, e, hb, at_ 0 (by omega) _ g0, ?_, ?_, ?_⟩
  · rw [far 1 (by omega)]; exact at_ 1 (by omega) _ g1
  · rw [far 2 (by omega)]; exact at_ 2 (by omega) _ g2
  · rw [far 3 (by omega)]; exact at_ 3 (by omega) _ g3
end Go.Proofs.Ytjhmdflagkenbaa
/- Regions that draw: calls whose arguments are told, and whose answer is told or known. No program is named here. -/
namespace Go.Proofs.Ytjhmdflagkenbaa
set_option linter.unusedVariables false
set_option linter.unusedSimpArgs false
open Go.RowKit

section
variable {P : Program} {ops : Array Oper} {w0 : World} {Fin : Env → Prop} {o : Oper} {r : List Oper} {a : Act} {F : List (Tmp × Told)} {d : Tmp}
theorem wanted_told {a' : Act} {w : World} (hw : Region.wanted o (yielded ops a.tmps) = true) (hg : clearB F (guardSlots ops o) = true) (hm : meets (envOf a F) (o.looksAt ops) a' w) : Region.wanted o (yielded ops a'.tmps) = true := by
  rw [same_wanted (a := a) fun s hs => ?_]
  · exact hw
  · have h1 := hm s (by
      unfold guardSlots at hs
      unfold Oper.looksAt
      exact List.mem_append_right _ hs)
    unfold envOf at h1
    rw [clear_spec hg hs] at h1
    exact h1
/-- What a slot is told to hold, at a frame that meets all that is told. -/
theorem told_at {a' : Act} {w : World} {t : Tmp} {f : FuncId} {xs : Array Operand} {ts : Array TypeId} (hop : o.op = .call { callee := .value (.func f), args := xs, argTypes := ts }) (hm : meets (envOf a F) (o.looksAt ops) a' w) (ht : Operand.tmp t ∈ xs) : envOf a F t (a'.tmps.getD t undef) w :=
  hm t (by
    unfold Oper.looksAt
    refine List.mem_append_left _ (List.mem_filterMap.2 ⟨.tmp t, ?_, rfl⟩)
    simp only [hop, Op.operands, Call.operands]
    simpa using ht)
theorem laneO_callT {f : FuncId} {fn : Func} {c : Code} {xs : Array Operand} {ts : Array TypeId} (T : Told) (hT : Steady T) (hop : o.op = .call { callee := .value (.func f), args := xs, argTypes := ts }) (ho : o.dst = some d)
    (hw : Region.wanted o (yielded ops a.tmps) = true) (hg : clearB F (guardSlots ops o) = true) (hf : P.funcs[f]? = some fn) (hname : (fn.name == "runtime.NumGoroutine") = false) (hb : fn.body = some c)
    (h : ∀ (a' : Act) (w : World), Behind w0 w → (∀ t, Operand.tmp t ∈ xs → envOf a F t (a'.tmps.getD t undef) w) → Calls P f (xs.map a'.eval) w fun e w' => ∃ v, e = .returned v ∧ Behind w w' ∧ T v w')
    (hr : laneO P ops w0 Fin r (envOf a ((d, T) :: F))) : laneO P ops w0 Fin (o :: r) (envOf a F) := by
  refine ⟨T, ⟨hT, fun a' w hb' hm => .inl (.inl ⟨wanted_told hw hg hm, ?_⟩)⟩, by rw [ho, upd_told]; exact hr⟩
  unfold gives
  rw [run_enter hop hf hname hb]
  exact ⟨Behind.refl w, h a' w hb' fun t ht => told_at hop hm ht⟩
theorem laneO_callV {f : FuncId} {fn : Func} {c : Code} {xs : Array Operand} {ts : Array TypeId} {v : Value} (hop : o.op = .call { callee := .value (.func f), args := xs, argTypes := ts }) (ho : o.dst = some d) (hd : d < a.tmps.size) (hF : F.lookup d = none)
    (hw : Region.wanted o (yielded ops a.tmps) = true) (hg : clearB F (guardSlots ops o) = true) (hf : P.funcs[f]? = some fn) (hname : (fn.name == "runtime.NumGoroutine") = false) (hb : fn.body = some c)
    (h : ∀ (a' : Act) (w : World), Behind w0 w → (∀ t, Operand.tmp t ∈ xs → envOf a F t (a'.tmps.getD t undef) w) → Calls P f (xs.map a'.eval) w fun e w' => e = .returned v ∧ Behind w w')
    (hr : laneO P ops w0 Fin r (envOf (a.put (some d) v) F)) : laneO P ops w0 Fin (o :: r) (envOf a F) := by
  refine laneO_use (by simp [notSelect, hop]) ho hd hF (fun a' w hb' hm => .inl ⟨wanted_told hw hg hm, ?_⟩) hr
  unfold gives
  rw [run_enter hop hf hname hb]
  exact ⟨Behind.refl w, (h a' w hb' fun t ht => told_at hop hm ht).mono fun e w' ⟨he, hb⟩ => ⟨v, he, hb, rfl⟩⟩
end
end Go.Proofs.Ytjhmdflagkenbaa
/- A slice that was just made is a row. No program is named here. -/
namespace Go.Proofs.Ytjhmdflagkenbaa
open Go Go.RowKit
set_option linter.unusedVariables false
set_option linter.unusedSimpArgs false
set_option maxRecDepth 20000
set_option maxHeartbeats 4000000

theorem row_told {w : World} {g : Nat} {t : TypeId} {cs : List Value} (h : w.heap[g]? = some (.cells cs.toArray t (0, 0))) : Row w w.heap.size (some ⟨g, 0, none⟩) cs := fun _ =>
  ⟨_, rfl, (Array.getElem?_eq_some_iff.1 h).1, fun i hi => by rw [head_add, cell_of_row w g i cs.toArray t (0, 0) h]; simp [hi]⟩
end Go.Proofs.Ytjhmdflagkenbaa
/- What is handed down, as plain numbers: a style's 43 cells. No program is named here. -/
set_option linter.unusedSimpArgs false
namespace Go.Proofs.Ytjhmdflagkenbaa
open Go.RowKit
set_option linter.unusedVariables false

/-- What a kid has that tells nothing. -/
def handZ (ps : List Int) : List Int := ((initZ.set 6 (ps.getD 6 0)).set 7 (ps.getD 7 0)).set 42 (ps.getD 42 0)
def ownZ (ps : List Int) (ds : List Dc) : List Int := styleZ (handZ ps) ds
def fixZ (s : List Int) : List Int := if s.getD 0 0 = 1 ∨ s.getD 0 0 = 3 then s.set 0 0 else s
def rootZ (ds : List Dc) : List Int := fixZ (styleZ initZ ds)
def anonZ (ps : List Int) : List Int := (handZ ps).set 0 0
theorem initZ_length : initZ.length = 43 := rfl
theorem handZ_length (ps : List Int) : (handZ ps).length = 43 := by simp [handZ, initZ_length]
theorem ownZ_length (ps : List Int) (ds : List Dc) : (ownZ ps ds).length = 43 := (styleZ_length _ _).trans (handZ_length ps)
theorem fixZ_length (s : List Int) : (fixZ s).length = s.length := by unfold fixZ; split <;> simp
theorem rootZ_length (ds : List Dc) : (rootZ ds).length = 43 := (fixZ_length _).trans (styleZ_length _ _)
theorem anonZ_length (ps : List Int) : (anonZ ps).length = 43 := by simp [anonZ, handZ_length]
theorem ownZ_nil (ps : List Int) : ownZ ps [] = handZ ps := rfl
theorem fix_no (s : List Int) (h1 : ¬ s.getD 0 0 = 1) (h3 : ¬ s.getD 0 0 = 3) : fixZ s = s := by unfold fixZ; rw [if_neg (by simp_all)]
theorem fix_yes (s : List Int) (h : s.getD 0 0 = 1 ∨ s.getD 0 0 = 3) : fixZ s = s.set 0 0 := by unfold fixZ; rw [if_pos h]
theorem handZ_twice (ps : List Int) : handZ (handZ ps) = handZ ps := by
  have h6 : (handZ ps).getD 6 0 = ps.getD 6 0 := by simp [handZ, initZ]
  have h7 : (handZ ps).getD 7 0 = ps.getD 7 0 := by simp [handZ, initZ]
  have h42 : (handZ ps).getD 42 0 = ps.getD 42 0 := by simp [handZ, initZ]
  show ((initZ.set 6 ((handZ ps).getD 6 0)).set 7 ((handZ ps).getD 7 0)).set 42 ((handZ ps).getD 42 0) = handZ ps
  rw [h6, h7, h42]; rfl
theorem own_anon (ps : List Int) : ownZ ps [⟨1, 0, 0, 0⟩] = anonZ ps := rfl
/-- What a declaration puts into a cell, if it does. -/
def cellOf (p w k n : Int) (i : Nat) : Option Int :=
  if p < 1 ∨ 32 < p then none
  else if 0 < wordsN p ∨ (23 ≤ p ∧ p ≤ 25) then (if i = offZ p then some w else none)
  else if (12 ≤ p ∧ p ≤ 19) ∨ p = 31 then (if i = offZ p then some n else none)
  else if i = offZ p + 1 then some n else if i = offZ p then some k else none
def foldZ : List Dc → Nat → Option Int
  | [], _ => none
  | d :: r, i => (foldZ r i).or (if mayZ d.p d.w d.k d.n = true then cellOf d.p d.w d.k d.n i else none)
theorem getD_set (zs : List Int) (j i : Nat) (v : Int) (hi : i < zs.length) : (zs.set j v).getD i 0 = if i = j then v else zs.getD i 0 := by
  simp only [List.getD_eq_getElem?_getD, List.getElem?_set]
  by_cases h : j = i
  · subst h; simp [hi]
  · have : ¬ i = j := fun e => h e.symm
    simp [h, this]
theorem laidZ_cell (zs : List Int) (p w k n : Int) (i : Nat) (hi : i < zs.length) : (laidZ zs p w k n).getD i 0 = (cellOf p w k n i).getD (zs.getD i 0) := by
  unfold laidZ cellOf
  split
  · rfl
  split
  · rw [getD_set _ _ _ _ hi]; split <;> rfl
  split
  · rw [getD_set _ _ _ _ hi]; split <;> rfl
  · rw [getD_set _ _ _ _ (by simpa using hi), getD_set _ _ _ _ hi]
    split
    · rfl
    split <;> rfl
theorem styleZ_cell (ds : List Dc) (i : Nat) : ∀ zs : List Int, i < zs.length → (styleZ zs ds).getD i 0 = (foldZ ds i).getD (zs.getD i 0) := by
  induction ds with
  | nil => intro zs _; rfl
  | cons d r ih =>
    intro zs hi
    rw [styleZ, ih _ (by split <;> simp [laidZ_length, hi])]
    simp only [foldZ]
    cases h : foldZ r i with
    | some v => simp
    | none =>
      simp only [Option.getD_none, Option.none_or]
      split
      · exact laidZ_cell zs _ _ _ _ i hi
      · rfl
theorem cell_told (p w k n : Int) (i : Nat) (hm : mayZ p w k n = true) (j : Int) (hj : (i = 6 ∧ j = 29) ∨ (i = 7 ∧ j = 30) ∨ (i = 42 ∧ j = 31)) : (cellOf p w k n i).isSome = decide (p = j) := by
  have hp : 1 ≤ p ∧ p ≤ 32 := by
    refine Classical.byContradiction fun hc => ?_
    rw [may_out (by omega)] at hm
    cases hm
  obtain ⟨h1, h2⟩ := hp
  have : p = 1 ∨ p = 2 ∨ p = 3 ∨ p = 4 ∨ p = 5 ∨ p = 6 ∨ p = 7 ∨ p = 8 ∨ p = 9 ∨ p = 10 ∨ p = 11 ∨ p = 12 ∨ p = 13 ∨ p = 14 ∨ p = 15 ∨ p = 16 ∨ p = 17 ∨ p = 18 ∨ p = 19 ∨ p = 20 ∨ p = 21 ∨ p = 22 ∨ p = 23 ∨ p = 24 ∨ p = 25 ∨ p = 26 ∨ p = 27 ∨ p = 28 ∨ p = 29 ∨ p = 30 ∨ p = 31 ∨ p = 32 := by omega
  rcases hj with ⟨rfl, rfl⟩ | ⟨rfl, rfl⟩ | ⟨rfl, rfl⟩ <;> (rcases this with rfl | rfl | rfl | rfl | rfl | rfl | rfl | rfl | rfl | rfl | rfl | rfl | rfl | rfl | rfl | rfl | rfl | rfl | rfl | rfl | rfl | rfl | rfl | rfl | rfl | rfl | rfl | rfl | rfl | rfl | rfl | rfl <;> rfl)
/-- Is a Prop told, of what may be? -/
def toldB (j : Int) (ds : List Dc) : Bool := ds.any fun d => mayZ d.p d.w d.k d.n && decide (d.p = j)
theorem fold_told (i : Nat) (j : Int) (hj : (i = 6 ∧ j = 29) ∨ (i = 7 ∧ j = 30) ∨ (i = 42 ∧ j = 31)) : ∀ ds : List Dc, (foldZ ds i).isSome = toldB j ds := by
  intro ds
  induction ds with
  | nil => rfl
  | cons d r ih =>
    simp only [foldZ, toldB, List.any_cons]
    rw [Option.isSome_or, ih]
    cases hm : mayZ d.p d.w d.k d.n with
    | false => simp [toldB]
    | true =>
      simp only [if_true, cell_told _ _ _ _ i hm j hj, Bool.true_and]
      rw [Bool.or_comm]; rfl
theorem told_take (j : Int) (ds : List Dc) (k : Nat) (h : k < ds.length) : toldB j (ds.take (k + 1)) = (toldB j (ds.take k) || (mayZ ds[k].p ds[k].w ds[k].k ds[k].n && decide (ds[k].p = j))) := by
  unfold toldB
  rw [List.take_succ_eq_append_getElem h, List.any_append]
  simp only [List.any_cons, List.any_nil, Bool.or_false]
/-- b with what of a parent is handed down where nothing is told. -/
def mendZ (ps b : List Int) (t0 t1 t2 : Bool) : List Int :=
  let c0 := if t0 = true then b else b.set 6 (ps.getD 6 0)
  let c1 := if t1 = true then c0 else c0.set 7 (ps.getD 7 0)
  if t2 = true then c1 else c1.set 42 (ps.getD 42 0)
theorem getD_ext {a b : List Int} (hl : a.length = b.length) (h : ∀ i, i < a.length → a.getD i 0 = b.getD i 0) : a = b := by
  refine List.ext_getElem hl fun i h1 h2 => ?_
  have := h i h1
  simpa [List.getD_eq_getElem?_getD, h1, h2] using this
theorem handZ_cell (ps : List Int) (i : Nat) (hi : i < 43) : (handZ ps).getD i 0 = if i = 42 then ps.getD 42 0 else if i = 7 then ps.getD 7 0 else if i = 6 then ps.getD 6 0 else initZ.getD i 0 := by
  unfold handZ
  rw [getD_set _ _ _ _ (by simp [initZ_length, hi]), getD_set _ _ _ _ (by simp [initZ_length, hi]), getD_set _ _ _ _ (by simp [initZ_length, hi])]
theorem mendZ_length (ps b : List Int) (t0 t1 t2 : Bool) : (mendZ ps b t0 t1 t2).length = b.length := by
  unfold mendZ; cases t0 <;> cases t1 <;> cases t2 <;> simp
theorem mendZ_cell (ps b : List Int) (hb : b.length = 43) (t0 t1 t2 : Bool) (i : Nat) (hi : i < 43) : (mendZ ps b t0 t1 t2).getD i 0 =
    if i = 42 ∧ t2 = false then ps.getD 42 0 else if i = 7 ∧ t1 = false then ps.getD 7 0 else if i = 6 ∧ t0 = false then ps.getD 6 0 else b.getD i 0 := by
  unfold mendZ
  cases t0 <;> cases t1 <;> cases t2 <;> simp only [if_true, Bool.false_eq_true, if_false, and_true, and_false, reduceCtorEq]
  all_goals (try rw [getD_set _ _ _ _ (by simp [hb, hi])])
  all_goals (try rw [getD_set _ _ _ _ (by simp [hb, hi])])
  all_goals (try rw [getD_set _ _ _ _ (by simp [hb, hi])])
theorem own_mend (ps qs : List Int) (ds : List Dc) : ownZ ps ds = mendZ ps (ownZ qs ds) (toldB 29 ds) (toldB 30 ds) (toldB 31 ds) := by
  refine getD_ext (by rw [mendZ_length, ownZ_length, ownZ_length]) fun i hi => ?_
  rw [ownZ_length] at hi
  rw [mendZ_cell _ _ (ownZ_length _ _) _ _ _ i hi, ownZ, ownZ, styleZ_cell _ i _ (by rw [handZ_length]; exact hi), styleZ_cell _ i _ (by rw [handZ_length]; exact hi), handZ_cell _ i hi, handZ_cell _ i hi]
  by_cases h42 : i = 42
  · subst h42
    rw [← fold_told 42 31 (by simp) ds]
    cases foldZ ds 42 <;> simp
  by_cases h7 : i = 7
  · subst h7
    rw [← fold_told 7 30 (by simp) ds]
    cases foldZ ds 7 <;> simp
  by_cases h6 : i = 6
  · subst h6
    rw [← fold_told 6 29 (by simp) ds]
    cases foldZ ds 6 <;> simp
  simp [h42, h7, h6]
theorem cell_display (p w k n : Int) (hm : mayZ p w k n = true) (v : Int) (h : cellOf p w k n 0 = some v) : 0 ≤ v ∧ v < 4 := by
  have hp : 1 ≤ p ∧ p ≤ 32 := by
    refine Classical.byContradiction fun hc => ?_
    rw [may_out (by omega)] at hm
    cases hm
  obtain ⟨h1, h2⟩ := hp
  by_cases hp1 : p = 1
  · subst hp1
    rw [may_words (by omega)] at hm
    have hw : cellOf 1 w k n 0 = some w := rfl
    rw [hw] at h
    injection h with h
    have : wordsN 1 = 4 := rfl
    simp only [decide_eq_true_eq] at hm
    omega
  · exfalso
    have : p = 2 ∨ p = 3 ∨ p = 4 ∨ p = 5 ∨ p = 6 ∨ p = 7 ∨ p = 8 ∨ p = 9 ∨ p = 10 ∨ p = 11 ∨ p = 12 ∨ p = 13 ∨ p = 14 ∨ p = 15 ∨ p = 16 ∨ p = 17 ∨ p = 18 ∨ p = 19 ∨ p = 20 ∨ p = 21 ∨ p = 22 ∨ p = 23 ∨ p = 24 ∨ p = 25 ∨ p = 26 ∨ p = 27 ∨ p = 28 ∨ p = 29 ∨ p = 30 ∨ p = 31 ∨ p = 32 := by omega
    rcases this with rfl | rfl | rfl | rfl | rfl | rfl | rfl | rfl | rfl | rfl | rfl | rfl | rfl | rfl | rfl | rfl | rfl | rfl | rfl | rfl | rfl | rfl | rfl | rfl | rfl | rfl | rfl | rfl | rfl | rfl | rfl <;> cases h
theorem fold_display : ∀ (ds : List Dc) (v : Int), foldZ ds 0 = some v → 0 ≤ v ∧ v < 4 := by
  intro ds
  induction ds with
  | nil => intro v h; cases h
  | cons d r ih =>
    intro v h
    simp only [foldZ] at h
    cases hr : foldZ r 0 with
    | some u => rw [hr] at h; simp at h; subst h; exact ih _ hr
    | none =>
      rw [hr] at h
      simp only [Option.none_or] at h
      split at h
      · exact cell_display _ _ _ _ (by assumption) v h
      · cases h
theorem root_display (ds : List Dc) : (rootZ ds).getD 0 0 = 0 ∨ (rootZ ds).getD 0 0 = 2 := by
  have hl : (styleZ initZ ds).length = 43 := (styleZ_length _ _).trans rfl
  have hc := styleZ_cell ds 0 initZ (by rw [initZ_length]; omega)
  have hr : 0 ≤ (styleZ initZ ds).getD 0 0 ∧ (styleZ initZ ds).getD 0 0 < 4 := by
    rw [hc]
    cases hf : foldZ ds 0 with
    | none => decide
    | some v => exact fold_display ds v hf
  unfold rootZ fixZ
  split
  · rw [getD_set _ _ _ _ (by omega)]; simp
  · omega
theorem root_block (ds : List Dc) : ¬ (rootZ ds).getD 0 0 = 1 ∧ ¬ (rootZ ds).getD 0 0 = 3 := by
  rcases root_display ds with h | h <;> omega
end Go.Proofs.Ytjhmdflagkenbaa
/- A style of declarations: its cells are not too far, its lengths of right Kinds. No program is named here. -/
namespace Go.Proofs.Ytjhmdflagkenbaa
open Go Go.RowKit
set_option linter.unusedVariables false
set_option linter.unusedSimpArgs false
set_option maxRecDepth 20000

structure GoodZ (zs : List Int) : Prop where
  len : zs.length = 43
  far : ∀ i, -6400000 ≤ zs.getD i 0 ∧ zs.getD i 0 ≤ 6400000
  kind : ∀ i, 9 ≤ i → i ≤ 29 → i % 2 = 1 → 0 ≤ zs.getD i 0 ∧ zs.getD i 0 ≤ 2
theorem getD_put (zs : List Int) (i j : Nat) (v : Int) : (zs.set i v).getD j 0 = if i = j ∧ i < zs.length then v else zs.getD j 0 := by
  simp only [List.getD_eq_getElem?_getD, List.getElem?_set]
  split
  · rename_i h
    subst h
    by_cases h2 : i < zs.length
    · simp [h2]
    · simp [h2]
  · rename_i h
    rw [if_neg (fun h2 => h h2.1)]
theorem GoodZ.put {zs : List Int} (h : GoodZ zs) (i : Nat) (v : Int) (h1 : -6400000 ≤ v ∧ v ≤ 6400000) (h2 : 9 ≤ i → i ≤ 29 → i % 2 = 1 → 0 ≤ v ∧ v ≤ 2) : GoodZ (zs.set i v) := by
  refine ⟨by simp [h.len], fun j => ?_, fun j ha hb hc => ?_⟩
  · rw [getD_put]; split
    · exact h1
    · exact h.far j
  · rw [getD_put]; split
    · rename_i e
      obtain ⟨rfl, -⟩ := e
      exact h2 ha hb hc
    · exact h.kind j ha hb hc
theorem off_f1 : ∀ m : Nat, m < 33 → (0 < wordsN m ∨ (23 ≤ (m : Int) ∧ (m : Int) ≤ 25)) → offZ m ≤ 8 ∨ 39 ≤ offZ m := by decide +kernel
theorem off_f2 : ∀ m : Nat, m < 33 → ((12 ≤ (m : Int) ∧ (m : Int) ≤ 19) ∨ (m : Int) = 31) → 31 ≤ offZ m := by decide +kernel
theorem off_f3 : ∀ m : Nat, m < 33 → 0 < m → ¬ (0 < wordsN m ∨ (23 ≤ (m : Int) ∧ (m : Int) ≤ 25)) → ¬ ((12 ≤ (m : Int) ∧ (m : Int) ≤ 19) ∨ (m : Int) = 31) → offZ m % 2 = 1 := by decide +kernel
theorem GoodZ.laid {zs : List Int} (h : GoodZ zs) (p w k n : Int) (hm : mayP p w k n) : GoodZ (laidZ zs p w k n) := by
  unfold laidZ
  split
  · exact h
  · rename_i hp
    obtain ⟨m, rfl⟩ := Int.eq_ofNat_of_zero_le (show 0 ≤ p by omega)
    have f1 := off_f1 m (by omega)
    have f2 := off_f2 m (by omega)
    have f3 := off_f3 m (by omega) (by omega)
    have hw := wordsN_le (m : Int)
    unfold mayP at hm
    rw [if_neg hp] at hm
    split
    · rename_i hc
      have hb : -6400000 ≤ w ∧ w ≤ 6400000 := by
        split at hm
        · omega
        · split at hm
          · omega
          · split at hm <;> omega
      have := f1 hc
      exact h.put _ _ hb (by omega)
    · rename_i hc
      rw [if_neg (by omega), if_neg (by omega), if_neg (by omega)] at hm
      split
      · rename_i hd
        rw [if_pos hd] at hm
        have := f2 hd
        exact h.put _ _ (by omega) (by omega)
      · rename_i hd
        rw [if_neg hd] at hm
        have := f3 hc hd
        have hk : (0 ≤ k ∧ k ≤ 2) ∧ -6400000 ≤ n ∧ n ≤ 6400000 := by
          split at hm
          · omega
          · split at hm <;> omega
        exact (h.put _ _ (by omega) (by omega)).put _ _ hk.2 (by omega)
theorem GoodZ.style : ∀ (ds : List Dc) {zs : List Int}, GoodZ zs → GoodZ (styleZ zs ds)
  | [], _, h => h
  | d :: r, zs, h => by
    rw [styleZ]
    refine GoodZ.style r ?_
    split
    · rename_i hm
      exact h.laid _ _ _ _ (may_iff.1 hm)
    · exact h
theorem init_good : GoodZ initZ := by
  refine ⟨rfl, fun i => ?_, fun i h1 h2 h3 => ?_⟩
  · by_cases h : i < 43
    · exact (by decide +kernel : ∀ j : Nat, j < 43 → -6400000 ≤ initZ.getD j 0 ∧ initZ.getD j 0 ≤ 6400000) i h
    · rw [List.getD_eq_getElem?_getD, List.getElem?_eq_none (by show 43 ≤ i; omega)]; decide
  · exact (by decide +kernel : ∀ j : Nat, j < 30 → 9 ≤ j → j % 2 = 1 → 0 ≤ initZ.getD j 0 ∧ initZ.getD j 0 ≤ 2) i (by omega) h1 h3
theorem root_good (ds : List Dc) : GoodZ (rootZ ds) := by
  have h := GoodZ.style ds init_good
  unfold rootZ fixZ
  split
  · exact h.put 0 0 (by omega) (by omega)
  · exact h
theorem GoodZ.in64 {zs : List Int} (h : GoodZ zs) : ∀ z ∈ zs, -9223372036854775808 ≤ z ∧ z ≤ 9223372036854775807 := by
  intro z hz
  obtain ⟨i, hi, e⟩ := List.mem_iff_getElem.1 hz
  have := h.far i
  rw [List.getD_eq_getElem?_getD, List.getElem?_eq_getElem hi, Option.getD_some, e] at this
  omega
end Go.Proofs.Ytjhmdflagkenbaa
/- Rows of bytes of one sort. No program is named here. -/
namespace Go.Proofs.Ytjhmdflagkenbaa
set_option linter.unusedVariables false
set_option linter.unusedSimpArgs false
open Go.RowKit

def bytesOf (s : ByteArray) : List UInt8 := s.data.toList
theorem bytesOf_length (s : ByteArray) : (bytesOf s).length = s.size := by simp [bytesOf]
theorem bytesOf_get (s : ByteArray) (k : Nat) (h : k < s.size) : (bytesOf s)[k]'(by rw [bytesOf_length]; exact h) = s[k] := rfl
/-- How many bytes of one sort stand from a place on. -/
def rowN (f : UInt8 → Bool) (l : List UInt8) (at_ : Nat) : Nat := ((l.drop at_).takeWhile f).length
theorem takeWhile_step {f : UInt8 → Bool} : ∀ (l : List UInt8) (k : Nat), k ≤ (l.takeWhile f).length →
    (∀ h : k < l.length, f l[k] = true → k + 1 ≤ (l.takeWhile f).length) ∧ (∀ h : k < l.length, f l[k] = false → k = (l.takeWhile f).length) ∧ (l.length ≤ k → k = (l.takeWhile f).length) ∧ (l.takeWhile f).length ≤ l.length
  | [], k, h => by simp at h ⊢; omega
  | c :: r, k, h => by
    by_cases hc : f c = true
    · rw [List.takeWhile_cons_of_pos hc] at h ⊢
      cases k with
      | zero =>
        have := takeWhile_step (f := f) r 0 (Nat.zero_le _)
        refine ⟨fun _ _ => by simp, fun _ h1 => by simp [hc] at h1, fun h1 => by simp at h1, by simp; exact this.2.2.2⟩
      | succ k =>
        obtain ⟨h1, h2, h3, h4⟩ := takeWhile_step r k (by simpa using h)
        refine ⟨fun h hf => ?_, fun h hf => ?_, fun h => ?_, by simpa using h4⟩
        · have := h1 (by simpa using h) (by simpa using hf); simp; omega
        · have := h2 (by simpa using h) (by simpa using hf); simp; omega
        · have := h3 (by simpa using h); simp; omega
    · rw [List.takeWhile_cons_of_neg hc] at h ⊢
      have hk : k = 0 := by simpa using h
      subst hk
      refine ⟨fun _ h1 => by simp at h1; exact absurd h1 hc, fun _ _ => by simp, fun _ => by simp, by simp⟩
section
variable {f : UInt8 → Bool} {l : List UInt8} {a k : Nat}
theorem rowN_le (f : UInt8 → Bool) (l : List UInt8) (a : Nat) (h : a ≤ l.length) : a + rowN f l a ≤ l.length := by
  have := (takeWhile_step (f := f) (l.drop a) 0 (Nat.zero_le _)).2.2.2
  unfold rowN
  simp at this
  omega
theorem rowN_more (hk : k ≤ rowN f l a) (h : a + k < l.length) (hf : f l[a + k] = true) : k + 1 ≤ rowN f l a := by
  have := (takeWhile_step (f := f) (l.drop a) k hk).1 (by simp; omega)
  simp only [List.getElem_drop] at this
  exact this hf
theorem rowN_stop (hk : k ≤ rowN f l a) (h : a + k < l.length) (hf : f l[a + k] = false) : k = rowN f l a := by
  have := (takeWhile_step (f := f) (l.drop a) k hk).2.1 (by simp; omega)
  simp only [List.getElem_drop] at this
  exact this hf
theorem rowN_end (hk : k ≤ rowN f l a) (h : l.length ≤ a + k) : k = rowN f l a :=
  (takeWhile_step (f := f) (l.drop a) k hk).2.2.1 (by simp; omega)
theorem takeWhile_all : ∀ (l : List UInt8) (k : Nat) (h : k < (l.takeWhile f).length), ∃ h' : k < l.length, f l[k] = true
  | [], k, h => by simp at h
  | c :: r, k, h => by
    by_cases hc : f c = true
    · rw [List.takeWhile_cons_of_pos hc] at h
      cases k with
      | zero => exact ⟨by simp, hc⟩
      | succ k =>
        obtain ⟨h1, h2⟩ := takeWhile_all r k (by simpa using h)
        exact ⟨by simp; omega, by simpa using h2⟩
    · rw [List.takeWhile_cons_of_neg hc] at h
      simp at h
theorem rowN_all (h : k < rowN f l a) : ∃ h' : a + k < l.length, f l[a + k] = true := by
  obtain ⟨h1, h2⟩ := takeWhile_all (f := f) (l.drop a) k h
  simp at h1
  refine ⟨by omega, ?_⟩
  simpa only [List.getElem_drop] using h2
end
def isDig (c : UInt8) : Bool := decide (48 ≤ (c.toNat : Int) ∧ (c.toNat : Int) ≤ 57)
def blankB (c : UInt8) : Bool := decide ((c.toNat : Int) = 32 ∨ (c.toNat : Int) = 9 ∨ (c.toNat : Int) = 10)
def nameB (c : UInt8) : Bool := decide ((97 ≤ (c.toNat : Int) ∧ (c.toNat : Int) ≤ 122) ∨ (c.toNat : Int) = 45)
def valB (c : UInt8) : Bool := decide (((97 ≤ (c.toNat : Int) ∧ (c.toNat : Int) ≤ 122) ∨ (c.toNat : Int) = 45) ∨ (48 ≤ (c.toNat : Int) ∧ (c.toNat : Int) ≤ 57) ∨ (c.toNat : Int) = 46 ∨ (c.toNat : Int) = 37)
end Go.Proofs.Ytjhmdflagkenbaa
/- The document's answer: rows of bytes in a text. -/
namespace Go.Proofs.Ytjhmdflagkenbaa
open Go Go.RowKit
set_option linter.unusedVariables false
set_option linter.unusedSimpArgs false
set_option maxRecDepth 20000
set_option maxHeartbeats 4000000

theorem rblank_any (c : UInt8) (w : World) : Calls Try.prog 52 #[.int .u8 c.toNat] w fun e w' => e = .returned (.bool (blankB c)) ∧ w = w' := by
  have hd : blankB c = decide ((c.toNat : Int) = 32 ∨ (c.toNat : Int) = 9 ∨ (c.toNat : Int) = 10) := rfl
  generalize hb : blankB c = b at *
  clear hb
  rcases (show ((c.toNat : Int) = 32) ∨ ((c.toNat : Int) = 9) ∨ ((c.toNat : Int) = 10) ∨ ((c.toNat : Int) ≠ 32 ∧ (c.toNat : Int) ≠ 9 ∧ (c.toNat : Int) ≠ 10) by omega) with h | h | h | h
  · have HR := Lib.hid (hd.trans (decide_eq_true (by omega)))
    have f0 : ((c.toNat : Int) == 32) = true := beq_iff_eq.2 (by omega)
    clear h hd
    go_enter Try.func52, Try.ntmps52
    go_wp2
    go_ret
    exact ⟨ret_bool HR.out.symm, rfl⟩
  · have HR := Lib.hid (hd.trans (decide_eq_true (by omega)))
    have f0 : ((c.toNat : Int) == 32) = false := beq_eq_false_iff_ne.2 (by omega)
    have f1 : ((c.toNat : Int) == 9) = true := beq_iff_eq.2 (by omega)
    clear h hd
    go_enter Try.func52, Try.ntmps52
    go_wp2
    go_ret
    exact ⟨ret_bool HR.out.symm, rfl⟩
  · have HR := Lib.hid (hd.trans (decide_eq_true (by omega)))
    have f0 : ((c.toNat : Int) == 32) = false := beq_eq_false_iff_ne.2 (by omega)
    have f1 : ((c.toNat : Int) == 9) = false := beq_eq_false_iff_ne.2 (by omega)
    have f2 : ((c.toNat : Int) == 10) = true := beq_iff_eq.2 (by omega)
    clear h hd
    go_enter Try.func52, Try.ntmps52
    go_wp2
    go_ret
    exact ⟨ret_bool HR.out.symm, rfl⟩
  · have HR := Lib.hid (hd.trans (decide_eq_false (by omega)))
    have f0 : ((c.toNat : Int) == 32) = false := beq_eq_false_iff_ne.2 (by omega)
    have f1 : ((c.toNat : Int) == 9) = false := beq_eq_false_iff_ne.2 (by omega)
    have f2 : ((c.toNat : Int) == 10) = false := beq_eq_false_iff_ne.2 (by omega)
    clear h hd
    go_enter Try.func52, Try.ntmps52
    go_wp2
    go_ret
    exact ⟨ret_bool HR.out.symm, rfl⟩
theorem rinName_any (c : UInt8) (w : World) : Calls Try.prog 38 #[.int .u8 c.toNat] w fun e w' => e = .returned (.bool (nameB c)) ∧ w = w' := by
  have hd : nameB c = decide ((97 ≤ (c.toNat : Int) ∧ (c.toNat : Int) ≤ 122) ∨ (c.toNat : Int) = 45) := rfl
  generalize hb : nameB c = b at *
  clear hb
  rcases (show (97 ≤ (c.toNat : Int) ∧ (c.toNat : Int) ≤ 122) ∨ ((c.toNat : Int) = 45) ∨ ((c.toNat : Int) < 97 ∧ (c.toNat : Int) ≠ 45) ∨ (122 < (c.toNat : Int)) by omega) with h | h | h | h
  · have HR := Lib.hid (hd.trans (decide_eq_true (by omega)))
    have f0 : decide (97 ≤ (c.toNat : Int)) = true := decide_eq_true (by omega)
    have f1 : decide ((c.toNat : Int) ≤ 122) = true := decide_eq_true (by omega)
    clear h hd
    go_enter Try.func38, Try.ntmps38
    go_wp2
    go_ret
    exact ⟨ret_bool HR.out.symm, rfl⟩
  · have HR := Lib.hid (hd.trans (decide_eq_true (by omega)))
    have f0 : decide (97 ≤ (c.toNat : Int)) = false := decide_eq_false (by omega)
    have f1 : ((c.toNat : Int) == 45) = true := beq_iff_eq.2 (by omega)
    clear h hd
    go_enter Try.func38, Try.ntmps38
    go_wp2
    go_ret
    exact ⟨ret_bool HR.out.symm, rfl⟩
  · have HR := Lib.hid (hd.trans (decide_eq_false (by omega)))
    have f0 : decide (97 ≤ (c.toNat : Int)) = false := decide_eq_false (by omega)
    have f1 : ((c.toNat : Int) == 45) = false := beq_eq_false_iff_ne.2 (by omega)
    clear h hd
    go_enter Try.func38, Try.ntmps38
    go_wp2
    go_ret
    exact ⟨ret_bool HR.out.symm, rfl⟩
  · have HR := Lib.hid (hd.trans (decide_eq_false (by omega)))
    have f0 : decide (97 ≤ (c.toNat : Int)) = true := decide_eq_true (by omega)
    have f1 : decide ((c.toNat : Int) ≤ 122) = false := decide_eq_false (by omega)
    have f2 : ((c.toNat : Int) == 45) = false := beq_eq_false_iff_ne.2 (by omega)
    clear h hd
    go_enter Try.func38, Try.ntmps38
    go_wp2
    go_ret
    exact ⟨ret_bool HR.out.symm, rfl⟩
theorem rinName_val (c : UInt8) (b : Bool) (h : nameB c = b) (w : World) : Calls Try.prog 38 #[.int .u8 c.toNat] w fun e w' => e = .returned (.bool b) ∧ w = w' := h ▸ rinName_any c w
theorem rinValue_any (c : UInt8) (w : World) : Calls Try.prog 39 #[.int .u8 c.toNat] w fun e w' => e = .returned (.bool (valB c)) ∧ w = w' := by
  have hd : valB c = decide (((97 ≤ (c.toNat : Int) ∧ (c.toNat : Int) ≤ 122) ∨ (c.toNat : Int) = 45) ∨ (48 ≤ (c.toNat : Int) ∧ (c.toNat : Int) ≤ 57) ∨ (c.toNat : Int) = 46 ∨ (c.toNat : Int) = 37) := rfl
  generalize hb : valB c = b at *
  clear hb
  rcases (show ((97 ≤ (c.toNat : Int) ∧ (c.toNat : Int) ≤ 122) ∨ (c.toNat : Int) = 45) ∨ (48 ≤ (c.toNat : Int) ∧ (c.toNat : Int) ≤ 57) ∨ ((c.toNat : Int) = 46) ∨ ((c.toNat : Int) = 37) ∨ (¬ ((97 ≤ (c.toNat : Int) ∧ (c.toNat : Int) ≤ 122) ∨ (c.toNat : Int) = 45) ∧ (c.toNat : Int) < 48 ∧ (c.toNat : Int) ≠ 46 ∧ (c.toNat : Int) ≠ 37) ∨ (¬ ((97 ≤ (c.toNat : Int) ∧ (c.toNat : Int) ≤ 122) ∨ (c.toNat : Int) = 45) ∧ 57 < (c.toNat : Int)) by omega) with h | h | h | h | h | h
  · have HR := Lib.hid (hd.trans (decide_eq_true (by omega)))
    have HN := Lib.hid (show nameB c = true from decide_eq_true (by omega))
    clear h hd
    go_enter Try.func39, Try.ntmps39
    go_wp2_with (go_at_call 38; refine (rinName_val c true HN.out _).mono ?_; rintro e w' ⟨rfl, rfl⟩)
    go_ret
    exact ⟨ret_bool HR.out.symm, rfl⟩
  · have HR := Lib.hid (hd.trans (decide_eq_true (by omega)))
    have f0 : decide (48 ≤ (c.toNat : Int)) = true := decide_eq_true (by omega)
    have f1 : decide ((c.toNat : Int) ≤ 57) = true := decide_eq_true (by omega)
    have HN := Lib.hid (show nameB c = false from decide_eq_false (by omega))
    clear h hd
    go_enter Try.func39, Try.ntmps39
    go_wp2_with (go_at_call 38; refine (rinName_val c false HN.out _).mono ?_; rintro e w' ⟨rfl, rfl⟩)
    go_ret
    exact ⟨ret_bool HR.out.symm, rfl⟩
  · have HR := Lib.hid (hd.trans (decide_eq_true (by omega)))
    have f0 : decide (48 ≤ (c.toNat : Int)) = false := decide_eq_false (by omega)
    have f1 : ((c.toNat : Int) == 46) = true := beq_iff_eq.2 (by omega)
    have HN := Lib.hid (show nameB c = false from decide_eq_false (by omega))
    clear h hd
    go_enter Try.func39, Try.ntmps39
    go_wp2_with (go_at_call 38; refine (rinName_val c false HN.out _).mono ?_; rintro e w' ⟨rfl, rfl⟩)
    go_ret
    exact ⟨ret_bool HR.out.symm, rfl⟩
  · have HR := Lib.hid (hd.trans (decide_eq_true (by omega)))
    have f0 : decide (48 ≤ (c.toNat : Int)) = false := decide_eq_false (by omega)
    have f1 : ((c.toNat : Int) == 46) = false := beq_eq_false_iff_ne.2 (by omega)
    have f2 : ((c.toNat : Int) == 37) = true := beq_iff_eq.2 (by omega)
    have HN := Lib.hid (show nameB c = false from decide_eq_false (by omega))
    clear h hd
    go_enter Try.func39, Try.ntmps39
    go_wp2_with (go_at_call 38; refine (rinName_val c false HN.out _).mono ?_; rintro e w' ⟨rfl, rfl⟩)
    go_ret
    exact ⟨ret_bool HR.out.symm, rfl⟩
  · have HR := Lib.hid (hd.trans (decide_eq_false (by omega)))
    have f0 : decide (48 ≤ (c.toNat : Int)) = false := decide_eq_false (by omega)
    have f1 : ((c.toNat : Int) == 46) = false := beq_eq_false_iff_ne.2 (by omega)
    have f2 : ((c.toNat : Int) == 37) = false := beq_eq_false_iff_ne.2 (by omega)
    have HN := Lib.hid (show nameB c = false from decide_eq_false (by omega))
    clear h hd
    go_enter Try.func39, Try.ntmps39
    go_wp2_with (go_at_call 38; refine (rinName_val c false HN.out _).mono ?_; rintro e w' ⟨rfl, rfl⟩)
    go_ret
    exact ⟨ret_bool HR.out.symm, rfl⟩
  · have HR := Lib.hid (hd.trans (decide_eq_false (by omega)))
    have f0 : decide (48 ≤ (c.toNat : Int)) = true := decide_eq_true (by omega)
    have f1 : decide ((c.toNat : Int) ≤ 57) = false := decide_eq_false (by omega)
    have f2 : ((c.toNat : Int) == 46) = false := beq_eq_false_iff_ne.2 (by omega)
    have f3 : ((c.toNat : Int) == 37) = false := beq_eq_false_iff_ne.2 (by omega)
    have HN := Lib.hid (show nameB c = false from decide_eq_false (by omega))
    clear h hd
    go_enter Try.func39, Try.ntmps39
    go_wp2_with (go_at_call 38; refine (rinName_val c false HN.out _).mono ?_; rintro e w' ⟨rfl, rfl⟩)
    go_ret
    exact ⟨ret_bool HR.out.symm, rfl⟩
theorem rblank_val (c : UInt8) (b : Bool) (h : blankB c = b) (w : World) : Calls Try.prog 52 #[.int .u8 c.toNat] w fun e w' => e = .returned (.bool b) ∧ w = w' := h ▸ rblank_any c w
theorem rinValue_val (c : UInt8) (b : Bool) (h : valB c = b) (w : World) : Calls Try.prog 39 #[.int .u8 c.toNat] w fun e w' => e = .returned (.bool b) ∧ w = w' := h ▸ rinValue_any c w
theorem cast_add (a k : Nat) : (Value.int .i64 ((a : Int) + k)) = .int .i64 ((a + k : Nat) : Int) := by push_cast; rfl
theorem rskip_any (s : ByteArray) (a : Nat) (w : World) (hs : s.size ≤ 4611686018427387904) (ha : a ≤ s.size) :
    Calls Try.prog 37 #[.string s, .int .i64 a] w fun e w' => e = .returned (.int .i64 ((a + rowN blankB (bytesOf s) a : Nat) : Int)) ∧ w = w' := by
  have HL := Lib.hid (bytesOf_length s)
  go_enter Try.func37, Try.ntmps37
  go_wp2
  go_loop [1] (fun i => ∃ k : Nat, k ≤ rowN blankB (bytesOf s) a ∧ i = .int .i64 ((a + k : Nat) : Int)) (fun i => s.size - (intOf i).toNat)
  case atStart => exact ⟨0, Nat.zero_le _, rfl⟩
  case round =>
    obtain ⟨k, hk, rfl⟩ := hrel
    have hle := rowN_le blankB (bytesOf s) a (by rw [HL.out]; exact ha)
    rw [HL.out] at hle
    by_cases hlt : a + k < s.size
    · have hi : ((a : Int) + k) < s.size := by omega
      go_wp2_with fail
      cases hb : blankB s[a + k] with
      | true =>
        have HK := Lib.hid (rowN_more hk (by rw [HL.out]; exact hlt) hb)
        refine (rblank_val _ true hb _).mono ?_
        rintro e w' ⟨rfl, rfl⟩
        clear hb
        go_wp2
        go_round
        case rel => exact ⟨k + 1, HK.out, by go_num⟩
        case measure => simp [intOf]; omega
      | false =>
        have HK := Lib.hid (rowN_stop hk (by rw [HL.out]; exact hlt) hb)
        refine (rblank_val _ false hb _).mono ?_
        rintro e w' ⟨rfl, rfl⟩
        clear hb
        go_wp2
        go_ret
        exact ⟨by rw [← HK.out]; first | rfl | (push_cast; rfl), rfl⟩
    · have HK := Lib.hid (rowN_end hk (by rw [HL.out]; omega))
      have hi : ¬ ((a : Int) + k) < s.size := by omega
      go_wp2
      go_ret
      exact ⟨by rw [← HK.out]; first | rfl | (push_cast; rfl), rfl⟩
theorem rdigits_any (s : ByteArray) (a : Nat) (w : World) (hs : s.size ≤ 4611686018427387904) (ha : a ≤ s.size) :
    Calls Try.prog 61 #[.string s, .int .i64 a] w fun e w' => e = .returned (.int .i64 (rowN isDig (bytesOf s) a : Nat)) ∧ w = w' := by
  have HL := Lib.hid (bytesOf_length s)
  go_enter Try.func61, Try.ntmps61
  go_wp2
  go_loop [5] (fun i => ∃ k : Nat, k ≤ rowN isDig (bytesOf s) a ∧ i = .int .i64 (k : Int)) (fun i => s.size - (intOf i).toNat)
  case atStart => exact ⟨0, Nat.zero_le _, rfl⟩
  case round =>
    obtain ⟨k, hk, rfl⟩ := hrel
    have hle := rowN_le isDig (bytesOf s) a (by rw [HL.out]; exact ha)
    rw [HL.out] at hle
    by_cases hlt : a + k < s.size
    · have hi : ((a : Int) + k) < s.size := by omega
      by_cases hb : 48 ≤ (s[a + k].toNat : Int) ∧ (s[a + k].toNat : Int) ≤ 57
      · have HK := Lib.hid (rowN_more hk (by rw [HL.out]; exact hlt) (show isDig s[a + k] = true from decide_eq_true hb))
        obtain ⟨hb1, hb2⟩ := hb
        go_wp2
        go_round
        case rel => exact ⟨k + 1, HK.out, by go_num⟩
        case measure => simp [intOf]; omega
      · have HK := Lib.hid (rowN_stop hk (by rw [HL.out]; exact hlt) (show isDig s[a + k] = false from decide_eq_false hb))
        by_cases hb1 : 48 ≤ (s[a + k].toNat : Int)
        all_goals
          have hb2 : (s[a + k].toNat : Int) < 48 ∨ 57 < (s[a + k].toNat : Int) := by omega
          go_wp2
          all_goals
            go_ret
            exact ⟨by rw [← HK.out]; rfl, rfl⟩
    · have HK := Lib.hid (rowN_end hk (by rw [HL.out]; omega))
      have hi : ¬ ((a : Int) + k) < s.size := by omega
      go_wp2
      go_ret
      exact ⟨by rw [← HK.out]; rfl, rfl⟩
end Go.Proofs.Ytjhmdflagkenbaa
/- Numbers in texts. No program is named here. -/
namespace Go.Proofs.Ytjhmdflagkenbaa
set_option linter.unusedVariables false
set_option linter.unusedSimpArgs false
open Go.RowKit

/-- The value of k digits from a place on, behind a value. -/
def digV (l : List UInt8) (a : Nat) (v : Int) : Nat → Int
  | 0 => v
  | k + 1 => 10 * digV l a v k + (((l.getD (a + k) 48).toNat : Int) - 48)
def negB (l : List UInt8) : Bool := l.head? == some 45
def signZ (ng : Bool) (v : Int) : Int := match ng with | true => -v | false => v
/-- A number of at most ah digits, and bh behind the point, in its last digits; where the rest begins. -/
def numZ (l : List UInt8) (ah bh : Nat) : Option (Int × Nat) :=
  let a := (negB l).toNat
  let n := rowN isDig l a
  if n < 1 ∨ ah < n then none
  else if l[a + n]? = some 46 then
    let k := rowN isDig l (a + n + 1)
    if k < 1 ∨ bh < k then none
    else some (signZ (negB l) (digV l (a + n + 1) (digV l a 0 n) k * 10 ^ (bh - k)), a + n + 1 + k)
  else some (signZ (negB l) (digV l a 0 n * 10 ^ bh), a + n)
theorem digV_bd (l : List UInt8) (a : Nat) (v M : Int) (h0 : 0 ≤ v) (h1 : v < M) : ∀ k, k ≤ rowN isDig l a → 0 ≤ digV l a v k ∧ digV l a v k < M * 10 ^ k
  | 0, _ => by simp [digV]; exact ⟨h0, h1⟩
  | k + 1, hk => by
    obtain ⟨h2, h3⟩ := digV_bd l a v M h0 h1 k (by omega)
    obtain ⟨h4, h5⟩ := rowN_all (f := isDig) (l := l) (a := a) (k := k) (by omega)
    have h6 := of_decide_eq_true h5
    have e : l.getD (a + k) 48 = l[a + k] := by simp [List.getD, h4]
    have e2 : M * 10 ^ (k + 1) = 10 * (M * 10 ^ k) := by rw [Int.pow_succ, ← Int.mul_assoc, Int.mul_comm]
    rw [e2]
    generalize M * 10 ^ k = X at *
    simp only [digV, e]
    omega
theorem pow5 (j : Nat) (h : j ≤ 5) : (1 : Int) ≤ 10 ^ j ∧ (10 : Int) ^ j ≤ 100000 := by
  rcases (show j = 0 ∨ j = 1 ∨ j = 2 ∨ j = 3 ∨ j = 4 ∨ j = 5 by omega) with rfl | rfl | rfl | rfl | rfl | rfl <;> decide
theorem digV_first (l : List UInt8) (a j : Nat) (h5 : j ≤ 5) (h : j ≤ rowN isDig l a) : 0 ≤ digV l a 0 j ∧ digV l a 0 j ≤ 99999 := by
  have h1 := digV_bd l a 0 1 (by omega) (by omega) j h
  have h2 := pow5 j h5
  omega
theorem digV_next (l : List UInt8) (a j : Nat) (v : Int) (h0 : 0 ≤ v) (h1 : v ≤ 99999) (h3 : j ≤ 3) (h : j ≤ rowN isDig l a) : 0 ≤ digV l a v j ∧ digV l a v j ≤ 99999999 := by
  have h2 := digV_bd l a v 100000 (by omega) (by omega) j h
  rcases (show j = 0 ∨ j = 1 ∨ j = 2 ∨ j = 3 by omega) with rfl | rfl | rfl | rfl <;> omega
theorem digV_get (s : ByteArray) (a : Nat) (v : Int) (j : Nat) (h : a + j < s.size) : digV (bytesOf s) a v (j + 1) = 10 * digV (bytesOf s) a v j + ((s[a + j].toNat : Int) - 48) := by
  have h' : a + j < (bytesOf s).length := by rw [bytesOf_length]; exact h
  have e : (bytesOf s).getD (a + j) 48 = s[a + j] := by simp only [List.getD, List.getElem?_eq_getElem h', Option.getD_some]; rfl
  show 10 * digV (bytesOf s) a v j + ((((bytesOf s).getD (a + j) 48).toNat : Int) - 48) = _
  rw [e]; rfl
theorem dig_at (s : ByteArray) (a j : Nat) (h : j < rowN isDig (bytesOf s) a) : ∃ h' : a + j < s.size, 48 ≤ (s[a + j].toNat : Int) ∧ (s[a + j].toNat : Int) ≤ 57 := by
  obtain ⟨h1, h2⟩ := rowN_all h
  exact ⟨by rw [← bytesOf_length]; exact h1, of_decide_eq_true h2⟩
theorem u8_eq {c : UInt8} {n : Nat} (h : (c.toNat : Int) = n) (hn : n < 256) : c = UInt8.ofNat n := by
  apply UInt8.toNat_inj.1
  have : c.toNat = n := by omega
  simp [this]; omega
theorem byte_at (s : ByteArray) (i : Nat) (n : Nat) (hn : n < 256) : ((bytesOf s)[i]? = some (UInt8.ofNat n)) ↔ ∃ h : i < s.size, (s[i].toNat : Int) = n := by
  constructor
  · intro h
    obtain ⟨h1, h2⟩ := List.getElem?_eq_some_iff.1 h
    refine ⟨by rw [← bytesOf_length]; exact h1, ?_⟩
    have h3 : s[i]'(by rw [← bytesOf_length]; exact h1) = UInt8.ofNat n := h2
    rw [h3]
    simp
    omega
  · rintro ⟨h, e⟩
    have h1 : i < (bytesOf s).length := by rw [bytesOf_length]; exact h
    rw [List.getElem?_eq_getElem h1]
    exact congrArg some (u8_eq e hn)
theorem neg_le (l : List UInt8) : (negB l).toNat ≤ l.length := by
  cases l with
  | nil => simp [negB]
  | cons c r => have := Bool.toNat_le (negB (c :: r)); simp; omega
end Go.Proofs.Ytjhmdflagkenbaa
/- Lengths and whole numbers of texts, as the document has them. No program is named here. -/
namespace Go.Proofs.Ytjhmdflagkenbaa
set_option linter.unusedVariables false
set_option linter.unusedSimpArgs false
open Go Go.RowKit

def restIs (l : List UInt8) (r : Nat) (t : List UInt8) : Bool := l.drop r == t
def pixR (l : List UInt8) : Option Int := if l = [48] then some 0 else match numZ l 5 3 with
  | some (v, r) => if restIs l r [112, 120] = true then some (pxZ v) else none
  | none => none
def pctR (l : List UInt8) : Option Int := match numZ l 4 2 with
  | some (v, r) => if restIs l r [37] = true then some v else none
  | none => none
def lenR (l : List UInt8) : Option (Int × Int) := match pixR l with
  | some v => some (1, v)
  | none => match pctR l with
    | some v => some (2, v)
    | none => none
def wholeR (l : List UInt8) (lo hi : Int) : Option Int := match numZ l 4 0 with
  | some (v, r) => if restIs l r [] = true ∧ lo ≤ v ∧ v ≤ hi then some v else none
  | none => none
theorem eq_bytes (s : ByteArray) (t : List UInt8) : (s.toList == t) = (bytesOf s == t) := by rw [ByteArray.toList_eq]; rfl
theorem rest_bytes (s : ByteArray) (r : Nat) (t : List UInt8) : ((s.extract r s.size).toList == t) = restIs (bytesOf s) r t := by
  rw [ByteArray.toList_eq, Lib.extract_to_end]; rfl
theorem times_bd (v : Int) (j : Nat) (h0 : 0 ≤ v) (h1 : v ≤ 99999999) (h : j ≤ 3) : 0 ≤ v * 10 ^ j ∧ v * 10 ^ j ≤ 99999999000 := by
  rcases (show j = 0 ∨ j = 1 ∨ j = 2 ∨ j = 3 by omega) with rfl | rfl | rfl | rfl <;> omega
theorem sign_bd (ng : Bool) (v : Int) (h0 : 0 ≤ v) (h1 : v ≤ 99999999000) : -99999999000 ≤ signZ ng v ∧ signZ ng v ≤ 99999999000 := by
  cases ng <;> simp [signZ] <;> omega
theorem numZ_bd {l : List UInt8} {ah bh : Nat} {v : Int} {r : Nat} (ha : ah ≤ 5) (hb : bh ≤ 3) (h : numZ l ah bh = some (v, r)) : -99999999000 ≤ v ∧ v ≤ 99999999000 := by
  unfold numZ at h
  simp only at h
  split at h
  · cases h
  · rename_i h1
    have d := digV_first l (negB l).toNat (rowN isDig l (negB l).toNat) (by omega) (Nat.le_refl _)
    split at h
    · split at h
      · cases h
      · rename_i h2 h3
        injection h with h
        injection h with h4 h5
        have e := digV_next l ((negB l).toNat + rowN isDig l (negB l).toNat + 1) (rowN isDig l ((negB l).toNat + rowN isDig l (negB l).toNat + 1)) _ d.1 d.2 (by omega) (Nat.le_refl _)
        have t := times_bd _ (bh - rowN isDig l ((negB l).toNat + rowN isDig l (negB l).toNat + 1)) e.1 e.2 (by omega)
        rw [← h4]
        exact sign_bd _ _ t.1 t.2
    · injection h with h
      injection h with h4 h5
      have t := times_bd _ bh d.1 (by omega) hb
      rw [← h4]
      exact sign_bd _ _ t.1 t.2
end Go.Proofs.Ytjhmdflagkenbaa
/- The document's answer: a number in a text. -/
namespace Go.Proofs.Ytjhmdflagkenbaa
open Go Go.RowKit
set_option linter.unusedVariables false
set_option linter.unusedSimpArgs false
set_option maxRecDepth 20000
set_option maxHeartbeats 4000000

theorem negB_zero (s : ByteArray) (h : s.size = 0) : negB (bytesOf s) = false := by
  have : bytesOf s = [] := List.eq_nil_of_length_eq_zero (by rw [bytesOf_length]; exact h)
  rw [this]; rfl
theorem negB_pos (s : ByteArray) (h : 0 < s.size) : negB (bytesOf s) = ((s[0].toNat : Int) == 45) := by
  have h1 : 0 < (bytesOf s).length := by rw [bytesOf_length]; exact h
  have h2 : (bytesOf s).head? = some s[0] := by
    rw [List.head?_eq_getElem?, List.getElem?_eq_getElem h1]; rfl
  unfold negB
  rw [h2, Bool.eq_iff_iff]
  simp only [beq_iff_eq, Option.some.injEq]
  constructor
  · intro e; exact congrArg (fun c : UInt8 => (c.toNat : Int)) e
  · intro e; exact u8_eq (n := 45) e (by omega)
def NumPost (s : ByteArray) (r : Option (Int × Nat)) (e : Ending) : Prop := match r with
  | none => e = .returned (.tuple #[.int .i64 0, .string ⟨#[]⟩, .bool false])
  | some (v, k) => e = .returned (.tuple #[.int .i64 v, .string (s.extract k s.size), .bool true])
def NumMid (s : ByteArray) (ah bh a : Nat) (ng : Bool) (s10 s12 s14 : Value) : Prop := ∃ (r : Nat) (v : Int) (k : Nat), s10 = .int .i64 (r : Int) ∧ s12 = .int .i64 v ∧ s14 = .int .i64 (k : Int) ∧ 0 ≤ v ∧ v ≤ 99999999 ∧ k ≤ bh ∧ r ≤ s.size ∧
  numZ (bytesOf s) ah bh = some (signZ ng (v * 10 ^ (bh - k)), r)
section
variable {l : List UInt8} {ah bh a n k : Nat} {ng : Bool} {d x : Int}
theorem numZ_mid1 (h1 : negB l = ng) (h2 : ng.toNat = a) (h3 : rowN isDig l a = n) (h4 : ¬ (n < 1 ∨ ah < n)) (h5 : decide (l[a + n]? = some 46) = false) (h6 : digV l a 0 n = d) : numZ l ah bh = some (signZ ng (d * 10 ^ (bh - 0)), a + n) := by
  unfold numZ
  simp only [h1, h2, h3]
  rw [if_neg h4, if_neg (of_decide_eq_false h5), h6]; rfl
theorem numZ_mid2 (h1 : negB l = ng) (h2 : ng.toNat = a) (h3 : rowN isDig l a = n) (h4 : ¬ (n < 1 ∨ ah < n)) (h5 : decide (l[a + n]? = some 46) = true) (h6 : rowN isDig l (a + n + 1) = k) (h7 : k < 1 ∨ bh < k) : numZ l ah bh = none := by
  unfold numZ
  simp only [h1, h2, h3]
  rw [if_neg h4, if_pos (of_decide_eq_true h5)]
  simp only [h6]
  rw [if_pos h7]
theorem numZ_mid3 (h1 : negB l = ng) (h2 : ng.toNat = a) (h3 : rowN isDig l a = n) (h4 : ¬ (n < 1 ∨ ah < n)) (h5 : decide (l[a + n]? = some 46) = true) (h6 : rowN isDig l (a + n + 1) = k) (h7 : ¬ (k < 1 ∨ bh < k)) (h8 : digV l a 0 n = d) (h9 : digV l (a + n + 1) d k = x) :
    numZ l ah bh = some (signZ ng (x * 10 ^ (bh - k)), a + n + 1 + k) := by
  unfold numZ
  simp only [h1, h2, h3]
  rw [if_neg h4, if_pos (of_decide_eq_true h5)]
  simp only [h6]
  rw [if_neg h7, h8, h9]

end
theorem rnumber_any (s : ByteArray) (ah bh : Nat) (hah : ah ≤ 5) (hbh : bh ≤ 3) (w : World) (hs : s.size ≤ 4611686018427387904) :
    Calls Try.prog 59 #[.string s, .int .i64 ah, .int .i64 bh] w fun e w' => NumPost s (numZ (bytesOf s) ah bh) e ∧ ∃ q, w' = w.drewN q := by
  have HL := Lib.hid (bytesOf_length s)
  have HNL := Lib.hid (neg_le (bytesOf s))
  go_enter Try.func59, Try.ntmps59
  go_upto_region 1 with fail
  go_cut [9] (fun v wx => v = .bool (negB (bytesOf s)) ∧ w = wx)
  case first =>
    by_cases h0 : s.size = 0
    · have HN := Lib.hid (negB_zero s h0)
      have h1 : ¬ (0 : Int) < s.size := by omega
      clear h0
      go_wp2
      go_meet
      case rel => exact ⟨by rw [HN.out], rfl⟩
    · have h1 : 0 < s.size := by omega
      have h2 : (0 : Int) < s.size := by omega
      have HN := Lib.hid (negB_pos s h1)
      go_wp2
      go_meet
      case rel => exact ⟨by rw [HN.out], rfl⟩
  case rest =>
    obtain ⟨h9, rfl⟩ := hcut
    have HN := Lib.hid (show numZ (bytesOf s) ah bh = numZ (bytesOf s) ah bh from rfl)
    generalize hng : negB (bytesOf s) = ng at *
    subst h9
    go_upto_if 25 with fail
    go_cut [10] (fun v wx => v = .int .i64 (ng.toNat : Int) ∧ w = wx)
    case first =>
      cases ng
      all_goals
        go_wp2
        go_meet
        case rel => exact ⟨rfl, rfl⟩
    case rest =>
      obtain ⟨h10, rfl⟩ := hcut
      subst h10
      generalize ha0 : ng.toNat = a at *
      have HA := Lib.hid ha0
      have HNG := Lib.hid hng
      clear ha0 hng
      have ha : a ≤ s.size := by have := HNL.out; rw [HL.out] at this; exact this
      have hle := rowN_le isDig (bytesOf s) a (by rw [HL.out]; exact ha)
      rw [HL.out] at hle
      have HD := Lib.hid (rdigits_any s a w hs ha)
      have HALL := Lib.hid (dig_at s a)
      have HD1 := Lib.hid (digV_first (bytesOf s) a)
      generalize hn : rowN isDig (bytesOf s) a = n at *
      have HRN := Lib.hid hn
      clear hn HN HNL
      by_cases hbad : n < 1 ∨ ah < n
      · have HZ := Lib.hid (show numZ (bytesOf s) ah bh = none by unfold numZ; simp only [HNG.out, HA.out, HRN.out]; rw [if_pos hbad])
        by_cases hb1 : n < 1
        · have hb2 : (n : Int) < 1 := by omega
          clear hbad
          go_wp2_with (go_at_call 61; refine HD.out.mono ?_; rintro e w' ⟨rfl, rfl⟩)
          go_ret3
          exact ⟨by rw [HZ.out]; rfl, 0, rfl⟩
        · have hb2 : ¬ (n : Int) < 1 := by omega
          have hb3 : ah < n := by omega
          clear hbad
          go_wp2_with (go_at_call 61; refine HD.out.mono ?_; rintro e w' ⟨rfl, rfl⟩)
          go_ret3
          exact ⟨by rw [HZ.out]; rfl, 0, rfl⟩
      · have hb1 : 1 ≤ n := by omega
        have hb2 : n ≤ ah := by omega
        have hb3 : ¬ (n : Int) < 1 := by omega
        have hb4 : ¬ ah < n := by omega
        have HB := Lib.hid hbad
        clear hbad
        go_wp2_with (go_at_call 61; refine HD.out.mono ?_; rintro e w' ⟨rfl, rfl⟩)
        go_loop [12, 13] (fun v i => ∃ j : Nat, j ≤ n ∧ i = .int .i64 (j : Int) ∧ v = .int .i64 (digV (bytesOf s) a 0 j)) (fun _ i => n - (intOf i).toNat)
        case atStart => exact ⟨0, Nat.zero_le _, rfl, rfl⟩
        case round =>
          obtain ⟨j, hj, rfl, rfl⟩ := hrel
          obtain ⟨d0, d1⟩ := HD1.out j (by omega) hj
          by_cases hlt : j < n
          · obtain ⟨hs1, c0, c1⟩ := HALL.out j hlt
            have hs2 : (a : Int) + j < s.size := by omega
            have HG := Lib.hid (digV_get s a 0 j hs1)
            generalize digV (bytesOf s) a 0 j = d at *
            go_wp2
            go_round
            case rel => exact ⟨j + 1, by omega, by go_num, by rw [HG.out]⟩
            case measure => simp [intOf]; omega
          · have : j = n := by omega
            subst this
            have hlt' : ¬ (j : Int) < j := by omega
            generalize hd : digV (bytesOf s) a 0 j = d at *
            have HDV := Lib.hid hd
            clear hd
            have HPT := Lib.hid (byte_at s (a + j) 46 (by omega))
            go_upto_region 15 with fail
            go_cut [63] (fun v wx => v = .bool (decide ((bytesOf s)[a + j]? = some 46)) ∧ w = wx)
            case first =>
              by_cases hp : a + j < s.size
              · have hp2 : (a : Int) + j < s.size := by omega
                have HQ := Lib.hid (show (decide ((bytesOf s)[a + j]? = some 46)) = ((s[a + j].toNat : Int) == 46) by
                  rw [Bool.eq_iff_iff, decide_eq_true_iff, beq_iff_eq]; exact ⟨fun h => (HPT.out.1 h).2, fun h => HPT.out.2 ⟨hp, h⟩⟩)
                go_wp2
                go_meet
                case rel => exact ⟨by rw [HQ.out], rfl⟩
              · have hp2 : ¬ (a : Int) + j < s.size := by omega
                have HQ := Lib.hid (show (decide ((bytesOf s)[a + j]? = some 46)) = false from decide_eq_false fun h => hp (HPT.out.1 h).1)
                go_wp2
                go_meet
                case rel => exact ⟨by rw [HQ.out], rfl⟩
            case rest =>
              obtain ⟨h63, rfl⟩ := hcut
              generalize hpt : decide ((bytesOf s)[a + j]? = some 46) = pt at *
              have HP := Lib.hid hpt
              clear hpt
              subst h63
              go_upto_if 63 with fail
              go_cut [10, 12, 14] (fun s10 s12 s14 wx => NumMid s ah bh a ng s10 s12 s14 ∧ w = wx)
              case first =>
                cases pt with
                | false =>
                  go_wp2
                  go_meet
                  case rel => exact ⟨⟨a + j, d, 0, by push_cast; rfl, rfl, rfl, d0, by omega, by omega, hle, numZ_mid1 HNG.out HA.out HRN.out HB.out HP.out HDV.out⟩, rfl⟩
                | true =>
                  obtain ⟨hp1, _⟩ := HPT.out.1 (of_decide_eq_true HP.out)
                  have hd2 := rdigits_any s (a + j + 1) w hs (by omega)
                  rw [show ((a + j + 1 : Nat) : Int) = (a : Int) + j + 1 from by push_cast; rfl] at hd2
                  have hle2 := rowN_le isDig (bytesOf s) (a + j + 1) (by rw [HL.out]; omega)
                  rw [HL.out] at hle2
                  have HALL2 := Lib.hid (dig_at s (a + j + 1))
                  have HD2 := Lib.hid (digV_next (bytesOf s) (a + j + 1))
                  generalize hk : rowN isDig (bytesOf s) (a + j + 1) = k at *
                  have HRK := Lib.hid hk
                  have HDC := Lib.hid hd2
                  clear hd2 hk
                  have hp2 : (a : Int) + j + 1 ≤ s.size := by omega
                  by_cases hbad2 : k < 1 ∨ bh < k
                  · have HZ := Lib.hid (numZ_mid2 HNG.out HA.out HRN.out HB.out HP.out HRK.out hbad2)
                    by_cases hk1 : k < 1
                    · have hk2 : (k : Int) < 1 := by omega
                      clear hbad2
                      go_wp2_with (go_at_call 61; refine HDC.out.mono ?_; rintro e w' ⟨rfl, rfl⟩)
                      go_ret3
                      exact ⟨by rw [HZ.out]; rfl, 0, rfl⟩
                    · have hk2 : ¬ (k : Int) < 1 := by omega
                      have hk3 : bh < k := by omega
                      clear hbad2
                      go_wp2_with (go_at_call 61; refine HDC.out.mono ?_; rintro e w' ⟨rfl, rfl⟩)
                      go_ret3
                      exact ⟨by rw [HZ.out]; rfl, 0, rfl⟩
                  · have hk1 : 1 ≤ k := by omega
                    have hk2 : k ≤ bh := by omega
                    have hk3 : ¬ (k : Int) < 1 := by omega
                    have hk4 : ¬ bh < k := by omega
                    have HB2 := Lib.hid hbad2
                    clear hbad2
                    go_wp2_with (go_at_call 61; refine HDC.out.mono ?_; rintro e w' ⟨rfl, rfl⟩)
                    go_loop [12, 15] (fun v i => ∃ q : Nat, q ≤ k ∧ i = .int .i64 (q : Int) ∧ v = .int .i64 (digV (bytesOf s) (a + j + 1) d q)) (fun _ i => k - (intOf i).toNat)
                    case atStart => exact ⟨0, Nat.zero_le _, rfl, rfl⟩
                    case round =>
                      obtain ⟨q, hq, rfl, rfl⟩ := hrel
                      obtain ⟨e0, e1⟩ := HD2.out q d d0 d1 (by omega) hq
                      by_cases hlt2 : q < k
                      · obtain ⟨hs1, c0, c1⟩ := HALL2.out q hlt2
                        have hs2 : (a : Int) + j + 1 + q < s.size := by omega
                        have HG := Lib.hid (digV_get s (a + j + 1) d q hs1)
                        generalize digV (bytesOf s) (a + j + 1) d q = x at *
                        go_wp2
                        go_round
                        case rel => exact ⟨q + 1, by omega, by go_num, by rw [HG.out]⟩
                        case measure => simp [intOf]; omega
                      · have : q = k := by omega
                        subst this
                        have hlt2' : ¬ (q : Int) < q := by omega
                        generalize hx : digV (bytesOf s) (a + j + 1) d q = x at *
                        have HX := Lib.hid hx
                        clear hx
                        go_wp2
                        go_meet
                        case rel => exact ⟨⟨a + j + 1 + q, x, q, by push_cast; rfl, rfl, rfl, e0, e1, hk2, by omega, numZ_mid3 HNG.out HA.out HRN.out HB.out HP.out HRK.out HB2.out HDV.out HX.out⟩, rfl⟩
              case rest =>
                obtain ⟨⟨r, v, k, h10, h12, h14, v0, v1, hkb, hr, hz⟩, rfl⟩ := hcut
                have HZ := Lib.hid hz
                clear hz
                subst h10 h12 h14
                go_wp2
                go_loop [12, 16] (fun u i => ∃ q : Nat, k ≤ q ∧ q ≤ bh ∧ i = .int .i64 (q : Int) ∧ u = .int .i64 (v * 10 ^ (q - k))) (fun _ i => bh - (intOf i).toNat)
                case atStart => exact ⟨k, Nat.le_refl _, hkb, rfl, by simp⟩
                case round =>
                  obtain ⟨q, hq0, hq, rfl, rfl⟩ := hrel
                  obtain ⟨t0, t1⟩ := times_bd v (q - k) v0 v1 (by omega)
                  by_cases hlt3 : q < bh
                  · have HT := Lib.hid (show v * 10 ^ (q + 1 - k) = 10 * (v * 10 ^ (q - k)) by
                      rw [show q + 1 - k = (q - k) + 1 by omega, Int.pow_succ, ← Int.mul_assoc, Int.mul_comm])
                    generalize v * 10 ^ (q - k) = x at *
                    go_wp2
                    go_round
                    case rel => exact ⟨q + 1, by omega, by omega, by go_num, by rw [HT.out]⟩
                    case measure => simp [intOf]; omega
                  · have : q = bh := by omega
                    subst this
                    have hlt3' : ¬ (q : Int) < q := by omega
                    generalize hx : v * 10 ^ (q - k) = x at *
                    have HX := Lib.hid hx
                    clear hx
                    cases ng
                    all_goals
                      go_wp2
                      go_quiet (fail)
                      all_goals
                        go_wp2
                        go_ret3
                        exact ⟨by rw [HZ.out]; rfl, _, rfl⟩
end Go.Proofs.Ytjhmdflagkenbaa
/- quoinref1.Held. -/
namespace Go.Proofs.Ytjhmdflagkenbaa
open Go.RowKit
set_option linter.unusedVariables false
set_option linter.unusedSimpArgs false

theorem rheld_any (n lo hi : Int) (w : World) :
    Calls Try.prog 47 #[.int .i64 n, .int .i64 lo, .int .i64 hi] w fun e w' => e = .returned (.int .i64 (min (max n lo) hi)) ∧ w = w' := by
  go_enter Try.func47, Try.ntmps47
  go_wp2
  all_goals (go_ret; exact ⟨ret_int (by first | rfl | omega), rfl⟩)
end Go.Proofs.Ytjhmdflagkenbaa
/- The document's own answer for lengths in pixels (quoinref1), by contracts: the same numbers as package unit's. -/
namespace Go.Proofs.Ytjhmdflagkenbaa
open Go.RowKit
set_option linter.unusedVariables false
set_option linter.unusedSimpArgs false

theorem rhold_any (n : Int) (w : World) :
    Calls Try.prog 45 #[.int .i64 n] w fun e w' => e = .returned (.int .i64 (holdZ n)) ∧ w = w' := by
  go_enter Try.func45, Try.ntmps45
  go_wp2_with (go_at_call 47; refine (rheld_any _ _ _ _).mono ?_; rintro e w' ⟨rfl, rfl⟩)
  go_ret
  exact ⟨ret_int (by unfold holdZ; omega), rfl⟩
theorem down_any (n d : Int) (w : World) (h0 : 1 ≤ d) (h1 : d ≤ 4611686018427387904) (hn : -6917529027641081856 ≤ n) (hn' : n ≤ 6917529027641081856) :
    Calls Try.prog 46 #[.int .i64 n, .int .i64 d] w fun e w' => e = .returned (.int .i64 (n / d)) ∧ w = w' := by
  have hd := tdiv_floor n d (by omega)
  have hb := tdiv_bd n d (by omega) hn hn'
  have hq : -9223372036854775807 ≤ n.tdiv d ∧ n.tdiv d ≤ 9223372036854775807 := by
    by_cases hs : n.tmod d < 0
    · have := hd.1 hs; omega
    · have := hd.2 (by omega); omega
  obtain ⟨hq1, hq2⟩ := hq
  by_cases hs : n.tmod d < 0
  · have h := Lib.hid (hd.1 hs)
    clear hd hb
    go_enter Try.func46, Try.ntmps46
    go_wp2
    go_ret
    exact ⟨ret_int h.out, rfl⟩
  · have h := Lib.hid (hd.2 (by omega))
    clear hd hb
    go_enter Try.func46, Try.ntmps46
    go_wp2
    go_ret
    exact ⟨ret_int h.out, rfl⟩
theorem rpx_any (t : Int) (w : World) :
    Calls Try.prog 60 #[.int .i64 t] w fun e w' => e = .returned (.int .i64 (pxZ t)) ∧ w = w' := by
  go_enter Try.func60, Try.ntmps60
  go_wp2_with (first
    | (go_at_call 47; refine (rheld_any _ _ _ _).mono ?_; rintro e w' ⟨rfl, rfl⟩)
    | (go_at_call 46; refine (down_any _ _ _ (by omega) (by omega) (by omega) (by omega)).mono ?_; rintro e w' ⟨rfl, rfl⟩)
    | (go_at_call 45; refine (rhold_any _ _).mono ?_; rintro e w' ⟨rfl, rfl⟩))
  go_ret
  exact ⟨ret_int (by unfold pxZ nearZ holdZ; omega), rfl⟩
end Go.Proofs.Ytjhmdflagkenbaa
/- The document's answer: lengths and whole numbers in a text. -/
namespace Go.Proofs.Ytjhmdflagkenbaa
open Go Go.RowKit
set_option linter.unusedVariables false
set_option linter.unusedSimpArgs false
set_option maxRecDepth 20000
set_option maxHeartbeats 4000000

section
variable (s : ByteArray) (ah bh : Nat) (hah : ah ≤ 5) (hbh : bh ≤ 3) (w : World) (hs : s.size ≤ 4611686018427387904)
include hah hbh hs
theorem rnumber_none (h : numZ (bytesOf s) ah bh = none) : Calls Try.prog 59 #[.string s, .int .i64 ah, .int .i64 bh] w fun e w' => e = .returned (.tuple #[.int .i64 0, .string ⟨#[]⟩, .bool false]) ∧ ∃ q, w' = w.drewN q := by
  have := rnumber_any s ah bh hah hbh w hs
  rw [h] at this
  exact this
theorem rnumber_some (v : Int) (r : Nat) (h : numZ (bytesOf s) ah bh = some (v, r)) : Calls Try.prog 59 #[.string s, .int .i64 ah, .int .i64 bh] w fun e w' => e = .returned (.tuple #[.int .i64 v, .string (s.extract r s.size), .bool true]) ∧ ∃ q, w' = w.drewN q := by
  have := rnumber_any s ah bh hah hbh w hs
  rw [h] at this
  exact this
end
def PixPost (r : Option Int) (W : World) (e : Ending) (w' : World) : Prop := ∃ (z : Int) (b : Bool), e = .returned (.tuple #[.int .i64 z, .bool b]) ∧ (-9223372036854775808 ≤ z ∧ z ≤ 9223372036854775807) ∧ r = (if b = true then some z else none) ∧ ∃ q, w' = W.drewN q
theorem px_in (v : Int) : -9223372036854775808 ≤ pxZ v ∧ pxZ v ≤ 9223372036854775807 := by have := hold_bd (nearZ (64 * max (-1000000000000) (min v 1000000000000)) 1000); unfold pxZ; omega
theorem rpixels_any (s : ByteArray) (w : World) (hs : s.size ≤ 4611686018427387904) : Calls Try.prog 55 #[.string s] w fun e w' => PixPost (pixR (bytesOf s)) w e w' := by
  by_cases h0 : bytesOf s = [48]
  · have H := Lib.hid (show pixR (bytesOf s) = some 0 by unfold pixR; rw [if_pos h0])
    have hb : (s.toList == [48]) = true := by rw [eq_bytes, h0]; rfl
    clear h0
    go_enter Try.func55, Try.ntmps55
    go_wp2
    go_ret2
    exact ⟨0, true, rfl, by omega, H.out, 0, rfl⟩
  · have hb : (s.toList == [48]) = false := by rw [eq_bytes, beq_eq_false_iff_ne]; exact h0
    cases hz : numZ (bytesOf s) 5 3 with
    | none =>
      have H := Lib.hid (show pixR (bytesOf s) = none by unfold pixR; rw [if_neg h0, hz])
      have HC := Lib.hid (rnumber_none s 5 3 (by omega) (by omega) w hs hz)
      clear h0 hz
      go_enter Try.func55, Try.ntmps55
      go_wp2_with (first
        | (go_at_call 59; refine HC.out.mono ?_; rintro e w1 ⟨rfl, q, rfl⟩)
        | (go_at_call 60; refine (rpx_any _ _).mono ?_; rintro e w2 ⟨rfl, rfl⟩))
      go_ret2
      exact ⟨_, false, rfl, px_in _, H.out, _, rfl⟩
    | some vr =>
      obtain ⟨v, r⟩ := vr
      have HC := Lib.hid (rnumber_some s 5 3 (by omega) (by omega) w hs v r hz)
      cases hr : restIs (bytesOf s) r [112, 120] with
      | true =>
        have H := Lib.hid (show pixR (bytesOf s) = some (pxZ v) by unfold pixR; rw [if_neg h0, hz]; simp only [hr]; rfl)
        have hb2 : ((s.extract r s.size).toList == [112, 120]) = true := (rest_bytes s r _).trans hr
        clear h0 hz hr
        go_enter Try.func55, Try.ntmps55
        go_wp2_with (first
          | (go_at_call 59; refine HC.out.mono ?_; rintro e w1 ⟨rfl, q, rfl⟩)
          | (go_at_call 60; refine (rpx_any _ _).mono ?_; rintro e w2 ⟨rfl, rfl⟩))
        go_ret2
        exact ⟨_, true, rfl, px_in _, H.out, _, rfl⟩
      | false =>
        have H := Lib.hid (show pixR (bytesOf s) = none by unfold pixR; rw [if_neg h0, hz]; simp only [hr]; rfl)
        have hb2 : ((s.extract r s.size).toList == [112, 120]) = false := (rest_bytes s r _).trans hr
        clear h0 hz hr
        go_enter Try.func55, Try.ntmps55
        go_wp2_with (first
          | (go_at_call 59; refine HC.out.mono ?_; rintro e w1 ⟨rfl, q, rfl⟩)
          | (go_at_call 60; refine (rpx_any _ _).mono ?_; rintro e w2 ⟨rfl, rfl⟩))
        go_ret2
        exact ⟨_, false, rfl, px_in _, H.out, _, rfl⟩
theorem rest_nil (s : ByteArray) (r : Nat) : (s.extract r s.size).toList = [] ↔ restIs (bytesOf s) r [] = true := by
  rw [← rest_bytes, beq_iff_eq]
theorem rwhole_any (s : ByteArray) (lo hi : Int) (w : World) (hs : s.size ≤ 4611686018427387904) : Calls Try.prog 54 #[.string s, .int .i64 lo, .int .i64 hi] w fun e w' => PixPost (wholeR (bytesOf s) lo hi) w e w' := by
  cases hz : numZ (bytesOf s) 4 0 with
  | none =>
    have H := Lib.hid (show wholeR (bytesOf s) lo hi = none by unfold wholeR; rw [hz])
    have HC := Lib.hid (rnumber_none s 4 0 (by omega) (by omega) w hs hz)
    clear hz
    go_enter Try.func54, Try.ntmps54
    go_wp2_with (go_at_call 59; refine HC.out.mono ?_; rintro e w1 ⟨rfl, q, rfl⟩)
    go_ret2
    exact ⟨0, false, rfl, by omega, H.out, _, rfl⟩
  | some vr =>
    obtain ⟨v, r⟩ := vr
    have hbd := numZ_bd (by omega) (by omega) hz
    have HC := Lib.hid (rnumber_some s 4 0 (by omega) (by omega) w hs v r hz)
    by_cases hc : restIs (bytesOf s) r [] = true ∧ lo ≤ v ∧ v ≤ hi
    · have H := Lib.hid (show wholeR (bytesOf s) lo hi = some v by unfold wholeR; rw [hz]; exact if_pos hc)
      obtain ⟨h1, h2, h3⟩ := hc
      have hE := (rest_nil s r).2 h1
      clear hz h1
      go_enter Try.func54, Try.ntmps54
      go_wp2_with (go_at_call 59; refine HC.out.mono ?_; rintro e w1 ⟨rfl, q, rfl⟩)
      go_ret2
      exact ⟨v, true, rfl, by omega, H.out, _, rfl⟩
    · have H := Lib.hid (show wholeR (bytesOf s) lo hi = none by unfold wholeR; rw [hz]; exact if_neg hc)
      rcases (show ¬ restIs (bytesOf s) r [] = true ∨ (restIs (bytesOf s) r [] = true ∧ v < lo) ∨ (restIs (bytesOf s) r [] = true ∧ lo ≤ v ∧ hi < v) by
        by_cases h1 : restIs (bytesOf s) r [] = true
        · by_cases h2 : lo ≤ v
          · exact .inr (.inr ⟨h1, h2, by have : ¬ v ≤ hi := fun h3 => hc ⟨h1, h2, h3⟩; omega⟩)
          · exact .inr (.inl ⟨h1, by omega⟩)
        · exact .inl h1) with h1 | ⟨h1, h2⟩ | ⟨h1, h2, h3⟩
      · have hE : ¬ (s.extract r s.size).toList = [] := fun h => h1 ((rest_nil s r).1 h)
        clear hz h1 hc
        go_enter Try.func54, Try.ntmps54
        go_wp2_with (go_at_call 59; refine HC.out.mono ?_; rintro e w1 ⟨rfl, q, rfl⟩)
        go_ret2
        exact ⟨0, false, rfl, by omega, H.out, _, rfl⟩
      · have hE := (rest_nil s r).2 h1
        clear hz h1 hc
        go_enter Try.func54, Try.ntmps54
        go_wp2_with (go_at_call 59; refine HC.out.mono ?_; rintro e w1 ⟨rfl, q, rfl⟩)
        go_ret2
        exact ⟨0, false, rfl, by omega, H.out, _, rfl⟩
      · have hE := (rest_nil s r).2 h1
        clear hz h1 hc
        go_enter Try.func54, Try.ntmps54
        go_wp2_with (go_at_call 59; refine HC.out.mono ?_; rintro e w1 ⟨rfl, q, rfl⟩)
        go_ret2
        exact ⟨0, false, rfl, by omega, H.out, _, rfl⟩
def LenPostR (r : Option (Int × Int)) (W : World) (e : Ending) (w' : World) : Prop := ∃ (k z : Int) (b : Bool), e = .returned (.tuple #[.agg #[.int .i64 k, .int .i64 z], .bool b]) ∧ (-9223372036854775808 ≤ z ∧ z ≤ 9223372036854775807) ∧ (0 ≤ k ∧ k ≤ 2) ∧ r = (if b = true then some (k, z) else none) ∧ Below W.heap.size W w'
theorem below_drewN (W : World) (o : Obj) (q : Nat) : Below W.heap.size W ((W.alloc o).drewN q) := Below.drewN' ((Below.refl _ W).alloc (Nat.le_refl _) o) q
theorem rlength_any (s : ByteArray) (w : World) (hs : s.size ≤ 4611686018427387904) : Calls Try.prog 56 #[.string s] w fun e w' => LenPostR (lenR (bytesOf s)) w e w' := by
  go_enter Try.func56, Try.ntmps56
  go_wp2_with fail
  refine (rpixels_any s _ hs).mono ?_
  rintro e w1 ⟨z, b, rfl, hb, hr, q, rfl⟩
  cases b with
  | true =>
    have H := Lib.hid (show lenR (bytesOf s) = some (1, z) by unfold lenR; rw [hr]; rfl)
    clear hr
    go_wp2
    exact bodyPost_ret (v := .tuple #[.agg #[.int .i64 1, .int .i64 z], .bool true]) (by simp [results, Try.results56, go_sem]) rfl ⟨1, z, true, rfl, hb, by omega, H.out, ((below_drewN w _ _).setCell (Nat.le_refl _) _).setCell (Nat.le_refl _) _⟩
  | false =>
    cases hz : numZ (bytesOf s) 4 2 with
    | none =>
      have H := Lib.hid (show lenR (bytesOf s) = none by unfold lenR pctR; rw [hr, hz]; rfl)
      clear hr
      go_wp2_with fail
      refine (rnumber_none s 4 2 (by omega) (by omega) _ hs hz).mono ?_
      rintro e w1 ⟨rfl, q2, rfl⟩
      clear hz
      go_wp2
      exact bodyPost_ret (v := .tuple #[.agg #[.int .i64 0, .int .i64 0], .bool false]) (by simp [results, Try.results56, go_sem]) rfl ⟨0, 0, false, rfl, by omega, by omega, H.out, ((below_drewN w _ _).setCell (Nat.le_refl _) _).setCell (Nat.le_refl _) _⟩
    | some vr =>
      obtain ⟨v, r⟩ := vr
      have hbd := numZ_bd (by omega) (by omega) hz
      cases hc : restIs (bytesOf s) r [37] with
      | true =>
        have H := Lib.hid (show lenR (bytesOf s) = some (2, v) by unfold lenR pctR; rw [hr, hz]; simp only [hc]; rfl)
        have hb2 : ((s.extract r s.size).toList == [37]) = true := (rest_bytes s r _).trans hc
        clear hr hc
        go_wp2_with fail
        refine (rnumber_some s 4 2 (by omega) (by omega) _ hs v r hz).mono ?_
        rintro e w1 ⟨rfl, q2, rfl⟩
        clear hz
        go_wp2
        exact bodyPost_ret (v := .tuple #[.agg #[.int .i64 2, .int .i64 v], .bool true]) (by simp [results, Try.results56, go_sem]) rfl ⟨2, v, true, rfl, by omega, by omega, H.out, ((below_drewN w _ _).setCell (Nat.le_refl _) _).setCell (Nat.le_refl _) _⟩
      | false =>
        have H := Lib.hid (show lenR (bytesOf s) = none by unfold lenR pctR; rw [hr, hz]; simp only [hc]; rfl)
        have hb2 : ((s.extract r s.size).toList == [37]) = false := (rest_bytes s r _).trans hc
        clear hr hc
        go_wp2_with fail
        refine (rnumber_some s 4 2 (by omega) (by omega) _ hs v r hz).mono ?_
        rintro e w1 ⟨rfl, q2, rfl⟩
        clear hz
        go_wp2
        exact bodyPost_ret (v := .tuple #[.agg #[.int .i64 0, .int .i64 0], .bool false]) (by simp [results, Try.results56, go_sem]) rfl ⟨0, 0, false, rfl, by omega, by omega, H.out, ((below_drewN w _ _).setCell (Nat.le_refl _) _).setCell (Nat.le_refl _) _⟩
end Go.Proofs.Ytjhmdflagkenbaa
/- The words of each Prop. No program is named here. -/
set_option linter.unusedVariables false
set_option linter.unusedSimpArgs false
namespace Go.Proofs.Ytjhmdflagkenbaa
open Go.RowKit

def wordsS (p : Int) : List ByteArray :=
  if p = 1 then [⟨#[98, 108, 111, 99, 107]⟩, ⟨#[105, 110, 108, 105, 110, 101]⟩, ⟨#[102, 108, 101, 120]⟩, ⟨#[110, 111, 110, 101]⟩]
  else if p = 20 then [⟨#[114, 111, 119]⟩, ⟨#[114, 111, 119, 45, 114, 101, 118, 101, 114, 115, 101]⟩, ⟨#[99, 111, 108, 117, 109, 110]⟩, ⟨#[99, 111, 108, 117, 109, 110, 45, 114, 101, 118, 101, 114, 115, 101]⟩]
  else if p = 21 then [⟨#[110, 111, 119, 114, 97, 112]⟩, ⟨#[119, 114, 97, 112]⟩, ⟨#[119, 114, 97, 112, 45, 114, 101, 118, 101, 114, 115, 101]⟩]
  else if p = 26 then [⟨#[115, 116, 97, 114, 116]⟩, ⟨#[101, 110, 100]⟩, ⟨#[99, 101, 110, 116, 101, 114]⟩, ⟨#[98, 101, 116, 119, 101, 101, 110]⟩, ⟨#[97, 114, 111, 117, 110, 100]⟩]
  else if p = 27 then [⟨#[115, 116, 97, 114, 116]⟩, ⟨#[101, 110, 100]⟩, ⟨#[99, 101, 110, 116, 101, 114]⟩, ⟨#[115, 116, 114, 101, 116, 99, 104]⟩]
  else if p = 28 then [⟨#[97, 117, 116, 111]⟩, ⟨#[115, 116, 97, 114, 116]⟩, ⟨#[101, 110, 100]⟩, ⟨#[99, 101, 110, 116, 101, 114]⟩, ⟨#[115, 116, 114, 101, 116, 99, 104]⟩]
  else if p = 29 then [⟨#[108, 101, 102, 116]⟩, ⟨#[114, 105, 103, 104, 116]⟩, ⟨#[99, 101, 110, 116, 101, 114]⟩]
  else if p = 30 then [⟨#[110, 111, 114, 109, 97, 108]⟩, ⟨#[110, 111, 119, 114, 97, 112]⟩, ⟨#[112, 114, 101]⟩]
  else if p = 32 then [⟨#[118, 105, 115, 105, 98, 108, 101]⟩, ⟨#[104, 105, 100, 100, 101, 110]⟩]
  else []
theorem wordsS_length (p : Int) : ((wordsS p).length : Int) = wordsN p := by
  by_cases h : p = 1 ∨ p = 20 ∨ p = 21 ∨ p = 26 ∨ p = 27 ∨ p = 28 ∨ p = 29 ∨ p = 30 ∨ p = 32
  · rcases h with rfl | rfl | rfl | rfl | rfl | rfl | rfl | rfl | rfl <;> rfl
  · have h1 : p ≠ 1 := by omega
    have h2 : p ≠ 20 := by omega
    have h3 : p ≠ 21 := by omega
    have h4 : p ≠ 26 := by omega
    have h5 : p ≠ 27 := by omega
    have h6 : p ≠ 28 := by omega
    have h7 : p ≠ 29 := by omega
    have h8 : p ≠ 30 := by omega
    have h9 : p ≠ 32 := by omega
    unfold wordsS wordsN
    simp [h1, h2, h3, h4, h5, h6, h7, h8, h9]
def strs (l : List ByteArray) : List Value := l.map Value.string
theorem strs_length (l : List ByteArray) : (strs l).length = l.length := by simp [strs]
end Go.Proofs.Ytjhmdflagkenbaa
/- The document's answer: the words of a Prop; could a text tell a declaration? -/
namespace Go.Proofs.Ytjhmdflagkenbaa
open Go Go.RowKit
set_option linter.unusedVariables false
set_option linter.unusedSimpArgs false
set_option maxRecDepth 20000
set_option maxHeartbeats 4000000

def WordsAt (w0 : World) (p : Int) (e : Ending) (w : World) : Prop := ∃ A, e = .returned (.slice A (wordsS p).length (wordsS p).length) ∧ Row w (w0.heap.size + 1) A (strs (wordsS p)) ∧ (A = none → wordsS p = []) ∧ Below w0.heap.size w0 w
theorem wordsAt_mk (W : World) (p : Int) (cs : Array Value) (n : Nat) (hn : (wordsS p).length = n) (t : TypeId) (h : strs (wordsS p) = cs.toList) : WordsAt W p (.returned (.slice (some ⟨W.heap.size, 0, none⟩) n n)) (W.alloc (.cells cs t)) := by
  subst hn
  exact ⟨_, rfl, h ▸ row_new W cs t, (fun h => by cases h), (Below.refl _ _).alloc (Nat.le_refl _) _⟩
theorem rwords_any (p : Int) (W : World) : Calls Try.prog 53 #[.int .i64 p] W fun e w' => WordsAt W p e w' := by
  by_cases h : p = 1 ∨ p = 20 ∨ p = 21 ∨ p = 26 ∨ p = 27 ∨ p = 28 ∨ p = 29 ∨ p = 30 ∨ p = 32
  · rcases h with rfl | rfl | rfl | rfl | rfl | rfl | rfl | rfl | rfl
    all_goals
      go_enter Try.func53, Try.ntmps53
      go_wp2
      go_ret
      exact wordsAt_mk W _ _ _ rfl _ rfl
  · have h1 : p ≠ 1 := by omega
    have h2 : p ≠ 20 := by omega
    have h3 : p ≠ 21 := by omega
    have h4 : p ≠ 26 := by omega
    have h5 : p ≠ 27 := by omega
    have h6 : p ≠ 28 := by omega
    have h7 : p ≠ 29 := by omega
    have h8 : p ≠ 30 := by omega
    have h9 : p ≠ 32 := by omega
    have hw : wordsS p = [] := by unfold wordsS; simp only [if_neg h1, if_neg h2, if_neg h3, if_neg h4, if_neg h5, if_neg h6, if_neg h7, if_neg h8, if_neg h9]
    have HW := Lib.hid hw
    clear h hw
    go_enter Try.func53, Try.ntmps53
    go_wp2
    go_ret
    exact ⟨none, by rw [HW.out]; rfl, by rw [HW.out]; exact Row.nil _ _ _, fun _ => HW.out, Below.refl _ _⟩

theorem ret_boolV {a b : Bool} (h : a = b) : Value.bool a = Value.bool b := by rw [h]
theorem rmay_any (p w k n : Int) (W : World) : Calls Try.prog 57 #[.agg #[.int .i64 p, .int .i64 w, .int .i64 k, .int .i64 n]] W fun e w' => e = .returned (.bool (mayZ p w k n)) ∧ Below W.heap.size W w' := by
  go_enter Try.func57, Try.ntmps57
  go_wp2_with fail
  refine (rwords_any p _).mono ?_
  rintro e w1 ⟨A, rfl, R, N, b⟩
  have E1 := Lib.hid ((Whole.mk W 74 #[.int .i64 p, .int .i64 w, .int .i64 k, .int .i64 n]).under b (by simp))
  have B1 := Lib.hid (((Below.refl _ W).alloc (Nat.le_refl _) (.cells #[.int .i64 p, .int .i64 w, .int .i64 k, .int .i64 n] 74)).trans (b.mono (by simp)))
  have z1 : W.heap.size < w1.heap.size := E1.out.size
  have c0 : w1.cell? ⟨W.heap.size, 0, none⟩ = some (.int .i64 p) := E1.out.cell 0
  have c1 : w1.cell? ⟨W.heap.size, 1, none⟩ = some (.int .i64 w) := E1.out.cell 1
  have c2 : w1.cell? ⟨W.heap.size, 2, none⟩ = some (.int .i64 k) := E1.out.cell 2
  have c3 : w1.cell? ⟨W.heap.size, 3, none⟩ = some (.int .i64 n) := E1.out.cell 3
  clear b R N
  have HM := Lib.hid (wordsS_length p)
  have B2 := Lib.hid (B1.out.alloc (by omega) (.cells #[.int .i64 0, .int .i64 0] 23))
  go_upto_region 4 with fail
  generalize (wordsS p).length = m at *
  go_cut [0, 6] (fun v0 v wx => v = .bool (pxB w k n) ∧ wx = w1.alloc (.cells #[.int .i64 0, .int .i64 0] 23))
  case first =>
    as_aux_lemma =>
      go_wp2
      all_goals
        go_meet
      all_goals
        refine ⟨ret_boolV ?_, rfl⟩
        unfold pxB
        first | (rw [decide_eq_decide]; omega) | (exact (decide_eq_false (by omega)).symm) | (exact (decide_eq_true (by omega)).symm)
  case rest =>
    obtain ⟨h6, rfl⟩ := hcut
    generalize hb6 : pxB w k n = b6 at *
    have H6 := Lib.hid hb6
    clear hb6
    subst h6
    go_upto_region 5 with fail
    go_cut [0, 7] (fun v0 v wx => v = .bool (pctB w k n) ∧ wx = w1.alloc (.cells #[.int .i64 0, .int .i64 0] 23))
    case first =>
      as_aux_lemma =>
        go_wp2
        all_goals
          go_meet
        all_goals
          refine ⟨ret_boolV ?_, rfl⟩
          unfold pctB
          first | (rw [decide_eq_decide]; omega) | (exact (decide_eq_false (by omega)).symm) | (exact (decide_eq_true (by omega)).symm)
    case rest =>
      obtain ⟨h7, rfl⟩ := hcut
      generalize hb7 : pctB w k n = b7 at *
      have H7 := Lib.hid hb7
      clear hb7
      subst h7
      go_upto_region 6 with fail
      go_cut [0, 8] (fun v0 v wx => v = .bool (autoB w k n) ∧ wx = w1.alloc (.cells #[.int .i64 0, .int .i64 0] 23))
      case first =>
        as_aux_lemma =>
          go_wp2
          all_goals
            go_meet
          all_goals
            refine ⟨ret_boolV ?_, rfl⟩
            unfold autoB
            first | (rw [decide_eq_decide]; omega) | (exact (decide_eq_false (by omega)).symm) | (exact (decide_eq_true (by omega)).symm)
      case rest =>
        obtain ⟨h8, rfl⟩ := hcut
        generalize hb8 : autoB w k n = b8 at *
        have H8 := Lib.hid hb8
        clear hb8
        subst h8
        rcases (show p < 1 ∨ 32 < p ∨ (p = 1 ∨ p = 20 ∨ p = 21 ∨ p = 26 ∨ p = 27 ∨ p = 28 ∨ p = 29 ∨ p = 30 ∨ p = 32) ∨ ((p = 23 ∨ p = 24) ∨ p = 25 ∨ ((12 ≤ p ∧ p ≤ 19) ∨ p = 31) ∨ (8 ≤ p ∧ p ≤ 11) ∨ (p = 4 ∨ p = 5) ∨ (p = 2 ∨ p = 3 ∨ p = 6 ∨ p = 7 ∨ p = 22)) by omega) with h | h | h | h
        · have HT := Lib.hid (may_out (w := w) (k := k) (n := n) (Or.inl h))
          as_aux_lemma =>
            go_wp2
            all_goals
              go_ret
              refine ⟨ret_bool (Eq.trans ?_ HT.out.symm), B2.out⟩
              rfl
        · have HT := Lib.hid (may_out (w := w) (k := k) (n := n) (Or.inr h))
          have h1 : ¬ p < 1 := by omega
          as_aux_lemma =>
            go_wp2
            all_goals
              go_ret
              refine ⟨ret_bool (Eq.trans ?_ HT.out.symm), B2.out⟩
              rfl
        · have hp := wordsN_pos h
          rw [← HM.out] at hp
          obtain ⟨hp0, hp5⟩ := hp
          have ht := may_words (w := w) (k := k) (n := n) h
          rw [← HM.out] at ht
          have HT := Lib.hid ht
          have h1 : 1 ≤ p := by omega
          have h2 : p ≤ 32 := by omega
          clear h ht
          as_aux_lemma =>
            go_wp2
            all_goals
              go_ret
              refine ⟨ret_bool (Eq.trans ?_ HT.out.symm), B2.out⟩
              first | (rw [decide_eq_decide]; omega) | (exact (decide_eq_false (by omega)).symm) | (exact (decide_eq_true (by omega)).symm)
        · have hm : m = 0 := by
            have := HM.out
            rw [wordsN_none (by omega)] at this
            omega
          subst hm
          have h1 : 1 ≤ p := by omega
          have h2 : p ≤ 32 := by omega
          rcases h with h | rfl | h | h | h | h
          · have ht := may_whole (w := w) (k := k) (n := n) h
            have HT := Lib.hid ht
            clear ht h1 h2
            rcases (show p = 23 ∨ p = 24 by omega) with rfl | rfl
            all_goals
              clear h
              as_aux_lemma =>
                go_wp2
                all_goals
                  go_ret
                  refine ⟨ret_bool (Eq.trans ?_ HT.out.symm), B2.out⟩
                  first | (rw [decide_eq_decide]; omega) | (exact (decide_eq_false (by omega)).symm) | (exact (decide_eq_true (by omega)).symm)
          · have ht := may_order (p := 25) (w := w) (k := k) (n := n) rfl
            have HT := Lib.hid ht
            clear ht h1 h2
            as_aux_lemma =>
              go_wp2
              all_goals
                go_ret
                refine ⟨ret_bool (Eq.trans ?_ HT.out.symm), B2.out⟩
                first | (rw [decide_eq_decide]; omega) | (exact (decide_eq_false (by omega)).symm) | (exact (decide_eq_true (by omega)).symm)
          · have ht := may_px (w := w) (k := k) (n := n) h
            rw [H6.out] at ht
            have HT := Lib.hid ht
            clear ht h1 h2
            rcases (show p = 12 ∨ p = 13 ∨ p = 14 ∨ p = 15 ∨ p = 16 ∨ p = 17 ∨ p = 18 ∨ p = 19 ∨ p = 31 by omega) with rfl | rfl | rfl | rfl | rfl | rfl | rfl | rfl | rfl
            all_goals
              clear h
              as_aux_lemma =>
                go_wp2
                all_goals
                  go_ret
                  refine ⟨ret_bool (Eq.trans ?_ HT.out.symm), B2.out⟩
                  first | rfl | (simp [*]; done) | (simp [*]; omega)
          · have ht := may_margin (w := w) (k := k) (n := n) h
            rw [H6.out, H7.out, H8.out] at ht
            have HT := Lib.hid ht
            clear ht h1 h2
            rcases (show p = 8 ∨ p = 9 ∨ p = 10 ∨ p = 11 by omega) with rfl | rfl | rfl | rfl
            all_goals
              clear h
              as_aux_lemma =>
                go_wp2
                all_goals
                  go_ret
                  refine ⟨ret_bool (Eq.trans ?_ HT.out.symm), B2.out⟩
                  first | rfl | (simp [*]; done) | (simp [*]; omega)
          · have ht := may_min (w := w) (k := k) (n := n) h
            rw [H6.out, H7.out] at ht
            have HT := Lib.hid ht
            clear ht h1 h2
            rcases (show p = 4 ∨ p = 5 by omega) with rfl | rfl
            all_goals
              clear h
              as_aux_lemma =>
                go_wp2
                all_goals
                  go_ret
                  refine ⟨ret_bool (Eq.trans ?_ HT.out.symm), B2.out⟩
                  first | rfl | (simp [*]; done) | (simp [*]; omega)
          · have ht := may_rest (w := w) (k := k) (n := n) h
            rw [H6.out, H7.out, H8.out] at ht
            have HT := Lib.hid ht
            clear ht h1 h2
            rcases (show p = 2 ∨ p = 3 ∨ p = 6 ∨ p = 7 ∨ p = 22 by omega) with rfl | rfl | rfl | rfl | rfl
            all_goals
              clear h
              as_aux_lemma =>
                go_wp2
                all_goals
                  go_ret
                  refine ⟨ret_bool (Eq.trans ?_ HT.out.symm), B2.out⟩
                  first | rfl | (simp [*]; done) | (simp [*]; omega)
end Go.Proofs.Ytjhmdflagkenbaa
/- How a text of declarations is read. No program is named here. -/
namespace Go.Proofs.Ytjhmdflagkenbaa
set_option linter.unusedVariables false
set_option linter.unusedSimpArgs false
open Go Go.RowKit

/-- The names, by Prop; none of 0. -/
def namesS : List ByteArray := [⟨#[]⟩,
  ⟨#[100, 105, 115, 112, 108, 97, 121]⟩,
  ⟨#[119, 105, 100, 116, 104]⟩,
  ⟨#[104, 101, 105, 103, 104, 116]⟩,
  ⟨#[109, 105, 110, 45, 119, 105, 100, 116, 104]⟩,
  ⟨#[109, 105, 110, 45, 104, 101, 105, 103, 104, 116]⟩,
  ⟨#[109, 97, 120, 45, 119, 105, 100, 116, 104]⟩,
  ⟨#[109, 97, 120, 45, 104, 101, 105, 103, 104, 116]⟩,
  ⟨#[109, 97, 114, 103, 105, 110, 45, 116, 111, 112]⟩,
  ⟨#[109, 97, 114, 103, 105, 110, 45, 114, 105, 103, 104, 116]⟩,
  ⟨#[109, 97, 114, 103, 105, 110, 45, 98, 111, 116, 116, 111, 109]⟩,
  ⟨#[109, 97, 114, 103, 105, 110, 45, 108, 101, 102, 116]⟩,
  ⟨#[112, 97, 100, 100, 105, 110, 103, 45, 116, 111, 112]⟩,
  ⟨#[112, 97, 100, 100, 105, 110, 103, 45, 114, 105, 103, 104, 116]⟩,
  ⟨#[112, 97, 100, 100, 105, 110, 103, 45, 98, 111, 116, 116, 111, 109]⟩,
  ⟨#[112, 97, 100, 100, 105, 110, 103, 45, 108, 101, 102, 116]⟩,
  ⟨#[98, 111, 114, 100, 101, 114, 45, 116, 111, 112]⟩,
  ⟨#[98, 111, 114, 100, 101, 114, 45, 114, 105, 103, 104, 116]⟩,
  ⟨#[98, 111, 114, 100, 101, 114, 45, 98, 111, 116, 116, 111, 109]⟩,
  ⟨#[98, 111, 114, 100, 101, 114, 45, 108, 101, 102, 116]⟩,
  ⟨#[102, 108, 101, 120, 45, 100, 105, 114, 101, 99, 116, 105, 111, 110]⟩,
  ⟨#[102, 108, 101, 120, 45, 119, 114, 97, 112]⟩,
  ⟨#[102, 108, 101, 120, 45, 98, 97, 115, 105, 115]⟩,
  ⟨#[102, 108, 101, 120, 45, 103, 114, 111, 119]⟩,
  ⟨#[102, 108, 101, 120, 45, 115, 104, 114, 105, 110, 107]⟩,
  ⟨#[111, 114, 100, 101, 114]⟩,
  ⟨#[106, 117, 115, 116, 105, 102, 121, 45, 99, 111, 110, 116, 101, 110, 116]⟩,
  ⟨#[97, 108, 105, 103, 110, 45, 105, 116, 101, 109, 115]⟩,
  ⟨#[97, 108, 105, 103, 110, 45, 115, 101, 108, 102]⟩,
  ⟨#[116, 101, 120, 116, 45, 97, 108, 105, 103, 110]⟩,
  ⟨#[119, 104, 105, 116, 101, 45, 115, 112, 97, 99, 101]⟩,
  ⟨#[108, 105, 110, 101, 45, 104, 101, 105, 103, 104, 116]⟩,
  ⟨#[111, 118, 101, 114, 102, 108, 111, 119]⟩]
theorem namesS_length : namesS.length = 33 := rfl
/-- The Prop of a name, among those below j; 0: none. -/
def propN (nm : List UInt8) : Nat → Nat
  | 0 => 0
  | j + 1 => if 1 ≤ j ∧ (bytesOf (namesS.getD j ⟨#[]⟩) == nm) = true then j else propN nm j
theorem propN_le (nm : List UInt8) : ∀ j, propN nm j ≤ j
  | 0 => Nat.le_refl _
  | j + 1 => by have := propN_le nm j; unfold propN; split <;> omega
theorem propN_lt (nm : List UInt8) : ∀ j, 0 < j → propN nm j < j
  | 0, h => by omega
  | j + 1, _ => by have := propN_le nm j; unfold propN; split <;> omega
def wordR (p : Int) (l : List UInt8) : Option Nat := ((wordsS p).map bytesOf).findIdx? (· == l)
def autoL (p : Int) : List UInt8 := if p = 6 ∨ p = 7 then [110, 111, 110, 101] else [97, 117, 116, 111]
/-- A Prop's Word, Kind and N of a value. -/
def valueR (p : Int) (l : List UInt8) : Option (Int × Int × Int) :=
  if 0 < wordsN p then (wordR p l).map fun i => ((i : Int), 0, 0)
  else if p = 23 ∨ p = 24 then (wholeR l 0 100).map fun v => (v, 0, 0)
  else if p = 25 then (wholeR l (-1000) 1000).map fun v => (v, 0, 0)
  else if (12 ≤ p ∧ p ≤ 19) ∨ p = 31 then (pixR l).bind fun z => if 0 ≤ z then some (0, 1, z) else none
  else if ¬ (p = 4 ∨ p = 5) ∧ (l == autoL p) = true then some (0, 0, 0)
  else (lenR l).bind fun x => if 0 ≤ x.2 ∨ (8 ≤ p ∧ p ≤ 11) then some (0, x.1, x.2) else none
def cutL (l : List UInt8) (a b : Nat) : List UInt8 := (l.drop a).take (b - a)
inductive StepR
  | bad (at_ : Nat) (e : Int)
  | next (d : Dc) (a : Nat)
/-- One declaration, from a place on. -/
def stepR (l : List UInt8) (a : Nat) : StepR :=
  let k := a + rowN nameB l a
  if k = a then .bad a 5 else
  let c := k + rowN blankB l k
  if ¬ l[c]? = some 58 then .bad c 5 else
  let v := c + 1 + rowN blankB l (c + 1)
  let e := v + rowN valB l v
  if e = v then .bad v 5 else
  let p := propN (cutL l a k) 33
  if p = 0 then .bad a 6 else
  match valueR p (cutL l v e) with
  | none => .bad v 7
  | some (w, kd, n) =>
    let b := e + rowN blankB l e
    if b < l.length ∧ ¬ l[b]? = some 59 then .bad b 5
    else .next ⟨p, w, kd, n⟩ (if b < l.length then b + 1 + rowN blankB l (b + 1) else b)
inductive PRes
  | bad (at_ : Nat) (e : Int)
  | ok (ds : List Dc)
def parseFrom (l : List UInt8) : Nat → Nat → List Dc → PRes
  | 0, _, out => .ok out
  | f + 1, a, out => if a < l.length then (match stepR l a with
    | .bad at_ e => .bad at_ e
    | .next d b => parseFrom l f b (out ++ [d])) else .ok out
def parseR (l : List UInt8) : PRes := if 2000 < l.length then .bad 0 4 else parseFrom l (l.length + 1) (rowN blankB l 0) []
end Go.Proofs.Ytjhmdflagkenbaa
/- The document's answer: a Prop's declaration of a value. -/
namespace Go.Proofs.Ytjhmdflagkenbaa
open Go Go.RowKit
set_option linter.unusedVariables false
set_option linter.unusedSimpArgs false
set_option maxRecDepth 20000
set_option maxHeartbeats 4000000

def ValPost (p : Int) (r : Option (Int × Int × Int)) (W : World) (e : Ending) (w' : World) : Prop := (match r with
  | none => e = .returned (.tuple #[.agg #[.int .i64 0, .int .i64 0, .int .i64 0, .int .i64 0], .bool false])
  | some (w, k, n) => e = .returned (.tuple #[.agg #[.int .i64 p, .int .i64 w, .int .i64 k, .int .i64 n], .bool true])) ∧ Below W.heap.size W w'
theorem findIdx_none {ws : List (List UInt8)} {l : List UInt8} (h : ∀ j (hj : j < ws.length), (ws[j] == l) = false) : ws.findIdx? (· == l) = none := by
  rw [List.findIdx?_eq_none_iff]
  intro x hx
  obtain ⟨j, hj, rfl⟩ := List.mem_iff_getElem.1 hx
  exact h j hj
theorem findIdx_some {ws : List (List UInt8)} {l : List UInt8} {k : Nat} (hk : k < ws.length) (h : ∀ j (hj : j < k), (ws[j]'(by omega) == l) = false) (he : (ws[k] == l) = true) : ws.findIdx? (· == l) = some k := by
  rw [List.findIdx?_eq_some_iff_getElem]
  exact ⟨hk, he, fun j hj => by simp [h j hj]⟩
def NoWord (p : Int) (s : ByteArray) (k : Nat) : Prop := ∀ j (hj : j < k) (h : j < (wordsS p).length), (bytesOf (wordsS p)[j] == bytesOf s) = false
theorem noWord_next {p : Int} {s : ByteArray} {k : Nat} (h : NoWord p s k) (hk : k < (wordsS p).length) (hb : (bytesOf (wordsS p)[k] == bytesOf s) = false) : NoWord p s (k + 1) := fun j hj hl => by
  by_cases e : j = k
  · subst e; exact hb
  · exact h j (by omega) hl
theorem wordR_some {p : Int} {s : ByteArray} {k : Nat} (h : NoWord p s k) (hk : k < (wordsS p).length) (hb : (bytesOf (wordsS p)[k] == bytesOf s) = true) : wordR p (bytesOf s) = some k := by
  unfold wordR
  refine findIdx_some (by simpa using hk) (fun j hj => ?_) (by simpa using hb)
  have := h j hj (by omega)
  simpa using this
theorem wordR_none {p : Int} {s : ByteArray} (h : NoWord p s (wordsS p).length) : wordR p (bytesOf s) = none := by
  unfold wordR
  refine findIdx_none fun j hj => ?_
  have hj' : j < (wordsS p).length := by simpa using hj
  simpa using h j hj' hj'
theorem valueR_word {p : Int} {s : ByteArray} {k m : Nat} (h1 : (m : Int) = wordsN p) (h2 : (wordsS p).length = m) (h3 : k < m) (hk : k < (wordsS p).length) (h : NoWord p s k) (hb : (bytesOf (wordsS p)[k] == bytesOf s) = true) : valueR p (bytesOf s) = some ((k : Int), 0, 0) := by
  unfold valueR
  rw [if_pos (by omega), wordR_some h hk hb]; rfl
/-- The two boxes of the call. -/
structure Boxes (W w : World) (p w0 k n : Int) : Prop where
  res : Whole w W.heap.size 74 [.int .i64 0, .int .i64 0, .int .i64 0, .int .i64 0]
  dec : Whole w (W.heap.size + 1) 74 [.int .i64 p, .int .i64 w0, .int .i64 k, .int .i64 n]
  below : Below W.heap.size W w
section
variable {W w w' : World} {p a k n : Int}
theorem Boxes.drewN (h : Boxes W w p a k n) (q : Nat) : Boxes W (w.drewN q) p a k n := ⟨h.res, h.dec, Below.drewN' h.below q⟩
theorem Boxes.under (h : Boxes W w p a k n) (b : Below w.heap.size w w') : Boxes W w' p a k n := ⟨h.res.under b h.res.size, h.dec.under b h.dec.size, h.below.trans (b.mono h.below.size)⟩
theorem Boxes.word (h : Boxes W w p a k n) (v : Int) : Boxes W (w.setCell ⟨W.heap.size + 1, 1, none⟩ (.int .i64 v)) p v k n := ⟨h.res.other (by simp) _, h.dec.put 1 _, h.below.setCell (by simp) _⟩
theorem Boxes.kind (h : Boxes W w p a k n) (v : Int) : Boxes W (w.setCell ⟨W.heap.size + 1, 2, none⟩ (.int .i64 v)) p a v n := ⟨h.res.other (by simp) _, h.dec.put 2 _, h.below.setCell (by simp) _⟩
theorem Boxes.num (h : Boxes W w p a k n) (v : Int) : Boxes W (w.setCell ⟨W.heap.size + 1, 3, none⟩ (.int .i64 v)) p a k v := ⟨h.res.other (by simp) _, h.dec.put 3 _, h.below.setCell (by simp) _⟩
theorem Boxes.told (h : Boxes W w p a k n) (v0 v1 v2 v3 : Value) : Whole ((((w.setCell ⟨W.heap.size, 0, none⟩ v0).setCell ⟨W.heap.size, 1, none⟩ v1).setCell ⟨W.heap.size, 2, none⟩ v2).setCell ⟨W.heap.size, 3, none⟩ v3) W.heap.size 74 [v0, v1, v2, v3] ∧
    Below W.heap.size W ((((w.setCell ⟨W.heap.size, 0, none⟩ v0).setCell ⟨W.heap.size, 1, none⟩ v1).setCell ⟨W.heap.size, 2, none⟩ v2).setCell ⟨W.heap.size, 3, none⟩ v3) :=
  ⟨h.res.putFour v0 v1 v2 v3, (((h.below.setCell (Nat.le_refl _) _).setCell (Nat.le_refl _) _).setCell (Nat.le_refl _) _).setCell (Nat.le_refl _) _⟩
end
theorem rvalue_any (p : Int) (s : ByteArray) (hp : 1 ≤ p) (hp2 : p ≤ 32) (W : World) (hs : s.size ≤ 4611686018427387904) : Calls Try.prog 41 #[.int .i64 p, .string s] W fun e w' => ValPost p (valueR p (bytesOf s)) W e w' := by
  go_enter Try.func41, Try.ntmps41
  go_wp2_with fail
  refine (rwords_any p _).mono ?_
  rintro e w1 ⟨A, rfl, R, N, b⟩
  have e0 := ((Whole.mk W 74 #[.int .i64 0, .int .i64 0, .int .i64 0, .int .i64 0]).made (.cells #[.int .i64 p, .int .i64 0, .int .i64 0, .int .i64 0] 74))
  have e1 := Whole.mk (W.alloc (.cells #[.int .i64 0, .int .i64 0, .int .i64 0, .int .i64 0] 74)) 74 #[.int .i64 p, .int .i64 0, .int .i64 0, .int .i64 0]
  rw [World.size_alloc] at e1
  have HBX := Lib.hid (show Boxes W w1 p 0 0 0 from ⟨e0.under b e0.size, e1.under b e1.size, (((Below.refl _ W).alloc (Nat.le_refl _) _).alloc (by simp) _).trans (b.mono (by simp; omega))⟩)
  have HR := Lib.hid R
  have hB := HBX.out.below.size
  have hB1 := HBX.out.dec.size
  clear e0 e1 b R N hB
  have HM := Lib.hid (wordsS_length p)
  have HP := Lib.hid (show 1 ≤ p ∧ p ≤ 32 from ⟨hp, hp2⟩)
  have HML := Lib.hid (wordsN_le p)
  clear hp hp2
  have HMW := Lib.hid (show (wordsS p).length = (wordsS p).length from rfl)
  generalize hm : (wordsS p).length = m at *
  have HMM := Lib.hid hm
  clear hm HMW
  have hm5 : (m : Int) ≤ 5 := by have := HM.out; have := HML.out; omega
  go_wp2
  go_loop [8] (fun i => ∃ k : Nat, k ≤ m ∧ i = .int .i64 (k : Int) ∧ NoWord p s k) (fun i => m - (intOf i).toNat)
  case atStart => exact ⟨0, Nat.zero_le _, rfl, fun j hj => absurd hj (by omega)⟩
  case round =>
    obtain ⟨k, hk, rfl, hno⟩ := hrel
    have HNO := Lib.hid hno
    clear hno
    by_cases hlt : k < m
    · have hl : k < (strs (wordsS p)).length := by rw [strs_length, HMM.out]; exact hlt
      obtain ⟨ad, rfl, had, hc⟩ := HR.out.get hl
      have hl2 : k < (wordsS p).length := by rw [HMM.out]; exact hlt
      have hgs : (strs (wordsS p))[k] = .string (wordsS p)[k] := by simp [strs]
      rw [hgs] at hc
      have HEQ := Lib.hid (show ((wordsS p)[k].toList == s.toList) = (bytesOf (wordsS p)[k] == bytesOf s) by rw [ByteArray.toList_eq, ByteArray.toList_eq]; rfl)
      have HW := Lib.hid (show (wordsS p)[k] = (wordsS p)[k] from rfl)
      generalize hwk : (wordsS p)[k] = wk at *
      have HWK := Lib.hid hwk
      clear hwk hgs HW hl
      cases hb : wk.toList == s.toList with
      | true =>
        have HV := Lib.hid (show valueR p (bytesOf s) = some ((k : Int), 0, 0) from valueR_word HM.out HMM.out hlt hl2 HNO.out (by rw [HWK.out, ← HEQ.out]; exact hb))
        obtain ⟨c0, c1, c2, c3⟩ := HBX.out.dec.four
        obtain ⟨f0, f1, f2, f3⟩ := HBX.out.dec.fourFree
        obtain ⟨d0, d1, d2, d3⟩ := HBX.out.res.four
        obtain ⟨g0, g1, g2, g3⟩ := HBX.out.res.fourFree
        go_wp2
        obtain ⟨hq, hb9⟩ := (HBX.out.word k).told (.int .i64 p) (.int .i64 k) (.int .i64 0) (.int .i64 0)
        obtain ⟨r0, r1, r2, r3⟩ := hq.four
        exact bodyPost_ret (v := .tuple #[.agg #[.int .i64 p, .int .i64 k, .int .i64 0, .int .i64 0], .bool true]) (by simp [results, Try.results41, go_sem, r0, r1, r2, r3]) rfl (show ValPost p (valueR p (bytesOf s)) W _ _ by rw [HV.out]; exact ⟨rfl, hb9⟩)
      | false =>
        have HN2 := Lib.hid (show NoWord p s (k + 1) from noWord_next HNO.out hl2 (by rw [HWK.out, ← HEQ.out]; exact hb))
        go_wp2
        go_round
        case rel => exact ⟨k + 1, by omega, by go_num, HN2.out⟩
        case measure => simp [intOf]; omega
    · have hk : k = m := by omega
      subst hk
      have hlt' : ¬ (k : Int) < k := by omega
      have HWN := Lib.hid (show wordR p (bytesOf s) = none from wordR_none (by rw [HMM.out]; exact HNO.out))
      rcases (show (p = 1 ∨ p = 20 ∨ p = 21 ∨ p = 26 ∨ p = 27 ∨ p = 28 ∨ p = 29 ∨ p = 30 ∨ p = 32) ∨ ((p = 23 ∨ p = 24) ∨ p = 25 ∨ ((12 ≤ p ∧ p ≤ 19) ∨ p = 31) ∨ (8 ≤ p ∧ p ≤ 11) ∨ (p = 4 ∨ p = 5) ∨ (p = 2 ∨ p = 3 ∨ p = 22) ∨ (p = 6 ∨ p = 7)) by have := HP.out; omega) with h | h
      · have hw := wordsN_pos h
        have HV := Lib.hid (show valueR p (bytesOf s) = none by unfold valueR; rw [if_pos hw.1, HWN.out]; rfl)
        rw [← HM.out] at hw
        have hk0 : 0 < (k : Int) := hw.1
        have hk1 : 0 < k := by omega
        clear h hw
        obtain ⟨c0, c1, c2, c3⟩ := HBX.out.dec.four
        obtain ⟨f0, f1, f2, f3⟩ := HBX.out.dec.fourFree
        obtain ⟨d0, d1, d2, d3⟩ := HBX.out.res.four
        obtain ⟨g0, g1, g2, g3⟩ := HBX.out.res.fourFree
        go_wp2
        obtain ⟨hq, hb9⟩ := (HBX.out).told (.int .i64 0) (.int .i64 0) (.int .i64 0) (.int .i64 0)
        obtain ⟨r0, r1, r2, r3⟩ := hq.four
        exact bodyPost_ret (v := .tuple #[.agg #[.int .i64 0, .int .i64 0, .int .i64 0, .int .i64 0], .bool false]) (by simp [results, Try.results41, go_sem, r0, r1, r2, r3]) rfl (show ValPost p (valueR p (bytesOf s)) W _ _ by rw [HV.out]; exact ⟨rfl, hb9⟩)
      · have hk0 : k = 0 := by
          have := HM.out
          rw [wordsN_none (by omega)] at this
          omega
        subst hk0
        have HW0 := Lib.hid (show ¬ 0 < wordsN p by rw [wordsN_none (by omega)]; omega)
        rcases h with h | h | h | h | h | h | h
        · have HVE := Lib.hid (show valueR p (bytesOf s) = (wholeR (bytesOf s) 0 100).map fun v => (v, 0, 0) by unfold valueR; rw [if_neg HW0.out, if_pos h])
          have h1 : (p == 23) = true ∨ ((p == 23) = false ∧ (p == 24) = true) := by rcases h with rfl | rfl <;> simp
          clear h
          rcases h1 with h1 | ⟨h1, h2⟩
          all_goals
            obtain ⟨c0, c1, c2, c3⟩ := HBX.out.dec.four
            obtain ⟨f0, f1, f2, f3⟩ := HBX.out.dec.fourFree
            obtain ⟨d0, d1, d2, d3⟩ := HBX.out.res.four
            obtain ⟨g0, g1, g2, g3⟩ := HBX.out.res.fourFree
            go_wp2_with fail
            refine (rwhole_any s _ _ _ hs).mono ?_
            rintro e w2 ⟨z, b, rfl, hz, hr, q, rfl⟩
            rw [hr] at HVE
            have HVF := Lib.hid HVE.out
            clear hr HVE
            cases b with
            | true =>
              go_wp2
              obtain ⟨hq, hb9⟩ := ((HBX.out.drewN q).word z).told (.int .i64 p) (.int .i64 z) (.int .i64 0) (.int .i64 0)
              obtain ⟨r0, r1, r2, r3⟩ := hq.four
              exact bodyPost_ret (v := .tuple #[.agg #[.int .i64 p, .int .i64 z, .int .i64 0, .int .i64 0], .bool true]) (by simp [results, Try.results41, go_sem, r0, r1, r2, r3]) rfl (show ValPost p (valueR p (bytesOf s)) W _ _ by rw [HVF.out]; exact ⟨rfl, hb9⟩)
            | false =>
              go_wp2
              obtain ⟨hq, hb9⟩ := ((HBX.out.drewN q).word z).told (.int .i64 0) (.int .i64 0) (.int .i64 0) (.int .i64 0)
              obtain ⟨r0, r1, r2, r3⟩ := hq.four
              exact bodyPost_ret (v := .tuple #[.agg #[.int .i64 0, .int .i64 0, .int .i64 0, .int .i64 0], .bool false]) (by simp [results, Try.results41, go_sem, r0, r1, r2, r3]) rfl (show ValPost p (valueR p (bytesOf s)) W _ _ by rw [HVF.out]; exact ⟨rfl, hb9⟩)
        · have HVE := Lib.hid (show valueR p (bytesOf s) = (wholeR (bytesOf s) (-1000) 1000).map fun v => (v, 0, 0) by unfold valueR; rw [if_neg HW0.out, if_neg (by omega), if_pos h])
          have h1 : (p == 23) = false := by simp [h]
          have h2 : (p == 24) = false := by simp [h]
          have h3 : (p == 25) = true := by simp [h]
          clear h
          obtain ⟨c0, c1, c2, c3⟩ := HBX.out.dec.four
          obtain ⟨f0, f1, f2, f3⟩ := HBX.out.dec.fourFree
          obtain ⟨d0, d1, d2, d3⟩ := HBX.out.res.four
          obtain ⟨g0, g1, g2, g3⟩ := HBX.out.res.fourFree
          go_wp2_with fail
          refine (rwhole_any s _ _ _ hs).mono ?_
          rintro e w2 ⟨z, b, rfl, hz, hr, q, rfl⟩
          rw [hr] at HVE
          have HVF := Lib.hid HVE.out
          clear hr HVE
          cases b with
          | true =>
            go_wp2
            obtain ⟨hq, hb9⟩ := ((HBX.out.drewN q).word z).told (.int .i64 p) (.int .i64 z) (.int .i64 0) (.int .i64 0)
            obtain ⟨r0, r1, r2, r3⟩ := hq.four
            exact bodyPost_ret (v := .tuple #[.agg #[.int .i64 p, .int .i64 z, .int .i64 0, .int .i64 0], .bool true]) (by simp [results, Try.results41, go_sem, r0, r1, r2, r3]) rfl (show ValPost p (valueR p (bytesOf s)) W _ _ by rw [HVF.out]; exact ⟨rfl, hb9⟩)
          | false =>
            go_wp2
            obtain ⟨hq, hb9⟩ := ((HBX.out.drewN q).word z).told (.int .i64 0) (.int .i64 0) (.int .i64 0) (.int .i64 0)
            obtain ⟨r0, r1, r2, r3⟩ := hq.four
            exact bodyPost_ret (v := .tuple #[.agg #[.int .i64 0, .int .i64 0, .int .i64 0, .int .i64 0], .bool false]) (by simp [results, Try.results41, go_sem, r0, r1, r2, r3]) rfl (show ValPost p (valueR p (bytesOf s)) W _ _ by rw [HVF.out]; exact ⟨rfl, hb9⟩)
        · have HVE := Lib.hid (show valueR p (bytesOf s) = (pixR (bytesOf s)).bind fun z => if 0 ≤ z then some (0, 1, z) else none by unfold valueR; rw [if_neg HW0.out, if_neg (by omega), if_neg (by omega), if_pos h])
          have h1 : (p == 23) = false := by rw [beq_eq_false_iff_ne]; omega
          have h2 : (p == 24) = false := by rw [beq_eq_false_iff_ne]; omega
          have h3 : (p == 25) = false := by rw [beq_eq_false_iff_ne]; omega
          have h4 : (decide (12 ≤ p) = true ∧ decide (p ≤ 19) = true) ∨ (decide (12 ≤ p) = true ∧ decide (p ≤ 19) = false ∧ (p == 31) = true) := by
            rcases h with ⟨ha, hb⟩ | rfl
            · exact .inl ⟨decide_eq_true ha, decide_eq_true hb⟩
            · exact .inr ⟨rfl, rfl, rfl⟩
          clear h
          rcases h4 with ⟨h4, h5⟩ | ⟨h4, h5, h6⟩
          all_goals
            obtain ⟨c0, c1, c2, c3⟩ := HBX.out.dec.four
            obtain ⟨f0, f1, f2, f3⟩ := HBX.out.dec.fourFree
            obtain ⟨d0, d1, d2, d3⟩ := HBX.out.res.four
            obtain ⟨g0, g1, g2, g3⟩ := HBX.out.res.fourFree
            go_wp2_with fail
            refine (rpixels_any s _ hs).mono ?_
            rintro e w2 ⟨z, b, rfl, hz, hr, q, rfl⟩
            rw [hr] at HVE
            have HVF := Lib.hid HVE.out
            clear hr HVE
            cases b with
            | true =>
              by_cases hz0 : 0 ≤ z
              · have HVG := Lib.hid (show valueR p (bytesOf s) = some (0, 1, z) from HVF.out.trans (if_pos hz0))
                have hz2 : decide (0 ≤ z) = true := decide_eq_true hz0
                go_wp2
                obtain ⟨hq, hb9⟩ := (((HBX.out.kind 1).drewN q).num z).told (.int .i64 p) (.int .i64 0) (.int .i64 1) (.int .i64 z)
                obtain ⟨r0, r1, r2, r3⟩ := hq.four
                exact bodyPost_ret (v := .tuple #[.agg #[.int .i64 p, .int .i64 0, .int .i64 1, .int .i64 z], .bool true]) (by simp [results, Try.results41, go_sem, r0, r1, r2, r3]) rfl (show ValPost p (valueR p (bytesOf s)) W _ _ by rw [HVG.out]; exact ⟨rfl, hb9⟩)
              · have HVG := Lib.hid (show valueR p (bytesOf s) = none from HVF.out.trans (if_neg hz0))
                have hz1 : decide (0 ≤ z) = false := decide_eq_false hz0
                go_wp2
                obtain ⟨hq, hb9⟩ := (((HBX.out.kind 1).drewN q).num z).told (.int .i64 0) (.int .i64 0) (.int .i64 0) (.int .i64 0)
                obtain ⟨r0, r1, r2, r3⟩ := hq.four
                exact bodyPost_ret (v := .tuple #[.agg #[.int .i64 0, .int .i64 0, .int .i64 0, .int .i64 0], .bool false]) (by simp [results, Try.results41, go_sem, r0, r1, r2, r3]) rfl (show ValPost p (valueR p (bytesOf s)) W _ _ by rw [HVG.out]; exact ⟨rfl, hb9⟩)
            | false =>
              go_wp2
              obtain ⟨hq, hb9⟩ := (((HBX.out.kind 1).drewN q).num z).told (.int .i64 0) (.int .i64 0) (.int .i64 0) (.int .i64 0)
              obtain ⟨r0, r1, r2, r3⟩ := hq.four
              exact bodyPost_ret (v := .tuple #[.agg #[.int .i64 0, .int .i64 0, .int .i64 0, .int .i64 0], .bool false]) (by simp [results, Try.results41, go_sem, r0, r1, r2, r3]) rfl (show ValPost p (valueR p (bytesOf s)) W _ _ by rw [HVF.out]; exact ⟨rfl, hb9⟩)
        · have HMG := Lib.hid h
          have HAU := Lib.hid (show autoL p = [97, 117, 116, 111] from if_neg (by omega))
          obtain ⟨hA1, hA2⟩ := h
          have e23 : (p == 23) = false := by rw [beq_eq_false_iff_ne]; omega
          have e24 : (p == 24) = false := by rw [beq_eq_false_iff_ne]; omega
          have e25 : (p == 25) = false := by rw [beq_eq_false_iff_ne]; omega
          have x12 : decide (12 ≤ p) = false := decide_eq_false (by omega)
          have e31 : (p == 31) = false := by rw [beq_eq_false_iff_ne]; omega
          have e2 : (p == 2) = false := by rw [beq_eq_false_iff_ne]; omega
          have e3 : (p == 3) = false := by rw [beq_eq_false_iff_ne]; omega
          have x8 : decide (8 ≤ p) = true := decide_eq_true (by omega)
          have x11 : decide (p ≤ 11) = true := decide_eq_true (by omega)
          have e6 : (p == 6) = false := by rw [beq_eq_false_iff_ne]; omega
          have e7 : (p == 7) = false := by rw [beq_eq_false_iff_ne]; omega
          cases hau : s.toList == [97, 117, 116, 111] with
          | true =>
            have HVG := Lib.hid (show valueR p (bytesOf s) = some (0, 0, 0) by unfold valueR; rw [if_neg HW0.out, if_neg (by omega), if_neg (by omega), if_neg (by omega), if_pos ⟨by omega, by rw [HAU.out, ← eq_bytes]; exact hau⟩])
            obtain ⟨c0, c1, c2, c3⟩ := HBX.out.dec.four
            obtain ⟨f0, f1, f2, f3⟩ := HBX.out.dec.fourFree
            obtain ⟨d0, d1, d2, d3⟩ := HBX.out.res.four
            obtain ⟨g0, g1, g2, g3⟩ := HBX.out.res.fourFree
            go_wp2
            obtain ⟨hq, hb9⟩ := (HBX.out).told (.int .i64 p) (.int .i64 0) (.int .i64 0) (.int .i64 0)
            obtain ⟨r0, r1, r2, r3⟩ := hq.four
            exact bodyPost_ret (v := .tuple #[.agg #[.int .i64 p, .int .i64 0, .int .i64 0, .int .i64 0], .bool true]) (by simp [results, Try.results41, go_sem, r0, r1, r2, r3]) rfl (show ValPost p (valueR p (bytesOf s)) W _ _ by rw [HVG.out]; exact ⟨rfl, hb9⟩)
          | false =>
            have HVE := Lib.hid (show valueR p (bytesOf s) = (lenR (bytesOf s)).bind fun x => if 0 ≤ x.2 ∨ (8 ≤ p ∧ p ≤ 11) then some (0, x.1, x.2) else none by unfold valueR; rw [if_neg HW0.out, if_neg (by omega), if_neg (by omega), if_neg (by omega), if_neg (fun hc => by have := hc.2; rw [HAU.out, ← eq_bytes, hau] at this; cases this)])
            obtain ⟨c0, c1, c2, c3⟩ := HBX.out.dec.four
            obtain ⟨f0, f1, f2, f3⟩ := HBX.out.dec.fourFree
            obtain ⟨d0, d1, d2, d3⟩ := HBX.out.res.four
            obtain ⟨g0, g1, g2, g3⟩ := HBX.out.res.fourFree
            go_wp2_with fail
            refine (rlength_any s _ hs).mono ?_
            rintro e w2 ⟨lk, z, b, rfl, hz, hlk, hr, b2⟩
            have HBY := Lib.hid (HBX.out.under b2)
            rw [hr] at HVE
            have HVF := Lib.hid HVE.out
            clear hr HVE b2 c0 c1 c2 c3 f0 f1 f2 f3 d0 d1 d2 d3 g0 g1 g2 g3
            have hB2 := HBY.out.dec.size
            obtain ⟨c0, c1, c2, c3⟩ := HBY.out.dec.four
            obtain ⟨f0, f1, f2, f3⟩ := HBY.out.dec.fourFree
            obtain ⟨d0, d1, d2, d3⟩ := HBY.out.res.four
            obtain ⟨g0, g1, g2, g3⟩ := HBY.out.res.fourFree
            cases b with
            | true =>
              by_cases hz0 : 0 ≤ z
              · have HVG := Lib.hid (show valueR p (bytesOf s) = some (0, lk, z) from HVF.out.trans (if_pos (.inl hz0)))
                go_wp2
                obtain ⟨hq, hb9⟩ := ((HBY.out.kind lk).num z).told (.int .i64 p) (.int .i64 0) (.int .i64 lk) (.int .i64 z)
                obtain ⟨r0, r1, r2, r3⟩ := hq.four
                exact bodyPost_ret (v := .tuple #[.agg #[.int .i64 p, .int .i64 0, .int .i64 lk, .int .i64 z], .bool true]) (by simp [results, Try.results41, go_sem, r0, r1, r2, r3]) rfl (show ValPost p (valueR p (bytesOf s)) W _ _ by rw [HVG.out]; exact ⟨rfl, hb9⟩)
              · have HVG := Lib.hid (show valueR p (bytesOf s) = some (0, lk, z) from HVF.out.trans (if_pos (.inr HMG.out)))
                have hz1 : decide (0 ≤ z) = false := decide_eq_false hz0
                go_wp2
                obtain ⟨hq, hb9⟩ := ((HBY.out.kind lk).num z).told (.int .i64 p) (.int .i64 0) (.int .i64 lk) (.int .i64 z)
                obtain ⟨r0, r1, r2, r3⟩ := hq.four
                exact bodyPost_ret (v := .tuple #[.agg #[.int .i64 p, .int .i64 0, .int .i64 lk, .int .i64 z], .bool true]) (by simp [results, Try.results41, go_sem, r0, r1, r2, r3]) rfl (show ValPost p (valueR p (bytesOf s)) W _ _ by rw [HVG.out]; exact ⟨rfl, hb9⟩)
            | false =>
              go_wp2
              obtain ⟨hq, hb9⟩ := ((HBY.out.kind lk).num z).told (.int .i64 0) (.int .i64 0) (.int .i64 0) (.int .i64 0)
              obtain ⟨r0, r1, r2, r3⟩ := hq.four
              exact bodyPost_ret (v := .tuple #[.agg #[.int .i64 0, .int .i64 0, .int .i64 0, .int .i64 0], .bool false]) (by simp [results, Try.results41, go_sem, r0, r1, r2, r3]) rfl (show ValPost p (valueR p (bytesOf s)) W _ _ by rw [HVF.out]; exact ⟨rfl, hb9⟩)
        · have HVE := Lib.hid (show valueR p (bytesOf s) = (lenR (bytesOf s)).bind fun x => if 0 ≤ x.2 ∨ (8 ≤ p ∧ p ≤ 11) then some (0, x.1, x.2) else none by unfold valueR; rw [if_neg HW0.out, if_neg (by omega), if_neg (by omega), if_neg (by omega), if_neg (fun hc => hc.1 h)])
          rcases h with rfl | rfl
          · obtain ⟨c0, c1, c2, c3⟩ := HBX.out.dec.four
            obtain ⟨f0, f1, f2, f3⟩ := HBX.out.dec.fourFree
            obtain ⟨d0, d1, d2, d3⟩ := HBX.out.res.four
            obtain ⟨g0, g1, g2, g3⟩ := HBX.out.res.fourFree
            go_wp2_with fail
            refine (rlength_any s _ hs).mono ?_
            rintro e w2 ⟨lk, z, b, rfl, hz, hlk, hr, b2⟩
            have HBY := Lib.hid (HBX.out.under b2)
            rw [hr] at HVE
            have HVF := Lib.hid HVE.out
            clear hr HVE b2 c0 c1 c2 c3 f0 f1 f2 f3 d0 d1 d2 d3 g0 g1 g2 g3
            have hB2 := HBY.out.dec.size
            obtain ⟨c0, c1, c2, c3⟩ := HBY.out.dec.four
            obtain ⟨f0, f1, f2, f3⟩ := HBY.out.dec.fourFree
            obtain ⟨d0, d1, d2, d3⟩ := HBY.out.res.four
            obtain ⟨g0, g1, g2, g3⟩ := HBY.out.res.fourFree
            cases b with
            | true =>
              by_cases hz0 : 0 ≤ z
              · have HVG := Lib.hid (show valueR 4 (bytesOf s) = some (0, lk, z) from HVF.out.trans (if_pos (.inl hz0)))
                go_wp2
                obtain ⟨hq, hb9⟩ := ((HBY.out.kind lk).num z).told (.int .i64 4) (.int .i64 0) (.int .i64 lk) (.int .i64 z)
                obtain ⟨r0, r1, r2, r3⟩ := hq.four
                exact bodyPost_ret (v := .tuple #[.agg #[.int .i64 4, .int .i64 0, .int .i64 lk, .int .i64 z], .bool true]) (by simp [results, Try.results41, go_sem, r0, r1, r2, r3]) rfl (show ValPost 4 (valueR 4 (bytesOf s)) W _ _ by rw [HVG.out]; exact ⟨rfl, hb9⟩)
              · have HVG := Lib.hid (show valueR 4 (bytesOf s) = none from HVF.out.trans (if_neg (fun h => by rcases h with h | h <;> omega)))
                have hz1 : decide (0 ≤ z) = false := decide_eq_false hz0
                go_wp2
                obtain ⟨hq, hb9⟩ := ((HBY.out.kind lk).num z).told (.int .i64 0) (.int .i64 0) (.int .i64 0) (.int .i64 0)
                obtain ⟨r0, r1, r2, r3⟩ := hq.four
                exact bodyPost_ret (v := .tuple #[.agg #[.int .i64 0, .int .i64 0, .int .i64 0, .int .i64 0], .bool false]) (by simp [results, Try.results41, go_sem, r0, r1, r2, r3]) rfl (show ValPost 4 (valueR 4 (bytesOf s)) W _ _ by rw [HVG.out]; exact ⟨rfl, hb9⟩)
            | false =>
              go_wp2
              obtain ⟨hq, hb9⟩ := ((HBY.out.kind lk).num z).told (.int .i64 0) (.int .i64 0) (.int .i64 0) (.int .i64 0)
              obtain ⟨r0, r1, r2, r3⟩ := hq.four
              exact bodyPost_ret (v := .tuple #[.agg #[.int .i64 0, .int .i64 0, .int .i64 0, .int .i64 0], .bool false]) (by simp [results, Try.results41, go_sem, r0, r1, r2, r3]) rfl (show ValPost 4 (valueR 4 (bytesOf s)) W _ _ by rw [HVF.out]; exact ⟨rfl, hb9⟩)
          · obtain ⟨c0, c1, c2, c3⟩ := HBX.out.dec.four
            obtain ⟨f0, f1, f2, f3⟩ := HBX.out.dec.fourFree
            obtain ⟨d0, d1, d2, d3⟩ := HBX.out.res.four
            obtain ⟨g0, g1, g2, g3⟩ := HBX.out.res.fourFree
            go_wp2_with fail
            refine (rlength_any s _ hs).mono ?_
            rintro e w2 ⟨lk, z, b, rfl, hz, hlk, hr, b2⟩
            have HBY := Lib.hid (HBX.out.under b2)
            rw [hr] at HVE
            have HVF := Lib.hid HVE.out
            clear hr HVE b2 c0 c1 c2 c3 f0 f1 f2 f3 d0 d1 d2 d3 g0 g1 g2 g3
            have hB2 := HBY.out.dec.size
            obtain ⟨c0, c1, c2, c3⟩ := HBY.out.dec.four
            obtain ⟨f0, f1, f2, f3⟩ := HBY.out.dec.fourFree
            obtain ⟨d0, d1, d2, d3⟩ := HBY.out.res.four
            obtain ⟨g0, g1, g2, g3⟩ := HBY.out.res.fourFree
            cases b with
            | true =>
              by_cases hz0 : 0 ≤ z
              · have HVG := Lib.hid (show valueR 5 (bytesOf s) = some (0, lk, z) from HVF.out.trans (if_pos (.inl hz0)))
                go_wp2
                obtain ⟨hq, hb9⟩ := ((HBY.out.kind lk).num z).told (.int .i64 5) (.int .i64 0) (.int .i64 lk) (.int .i64 z)
                obtain ⟨r0, r1, r2, r3⟩ := hq.four
                exact bodyPost_ret (v := .tuple #[.agg #[.int .i64 5, .int .i64 0, .int .i64 lk, .int .i64 z], .bool true]) (by simp [results, Try.results41, go_sem, r0, r1, r2, r3]) rfl (show ValPost 5 (valueR 5 (bytesOf s)) W _ _ by rw [HVG.out]; exact ⟨rfl, hb9⟩)
              · have HVG := Lib.hid (show valueR 5 (bytesOf s) = none from HVF.out.trans (if_neg (fun h => by rcases h with h | h <;> omega)))
                have hz1 : decide (0 ≤ z) = false := decide_eq_false hz0
                go_wp2
                obtain ⟨hq, hb9⟩ := ((HBY.out.kind lk).num z).told (.int .i64 0) (.int .i64 0) (.int .i64 0) (.int .i64 0)
                obtain ⟨r0, r1, r2, r3⟩ := hq.four
                exact bodyPost_ret (v := .tuple #[.agg #[.int .i64 0, .int .i64 0, .int .i64 0, .int .i64 0], .bool false]) (by simp [results, Try.results41, go_sem, r0, r1, r2, r3]) rfl (show ValPost 5 (valueR 5 (bytesOf s)) W _ _ by rw [HVG.out]; exact ⟨rfl, hb9⟩)
            | false =>
              go_wp2
              obtain ⟨hq, hb9⟩ := ((HBY.out.kind lk).num z).told (.int .i64 0) (.int .i64 0) (.int .i64 0) (.int .i64 0)
              obtain ⟨r0, r1, r2, r3⟩ := hq.four
              exact bodyPost_ret (v := .tuple #[.agg #[.int .i64 0, .int .i64 0, .int .i64 0, .int .i64 0], .bool false]) (by simp [results, Try.results41, go_sem, r0, r1, r2, r3]) rfl (show ValPost 5 (valueR 5 (bytesOf s)) W _ _ by rw [HVF.out]; exact ⟨rfl, hb9⟩)
        · have HAU := Lib.hid (show autoL p = [97, 117, 116, 111] from if_neg (by omega))
          rcases h with rfl | rfl | rfl
          · cases hau : s.toList == [97, 117, 116, 111] with
            | true =>
              have HVG := Lib.hid (show valueR 2 (bytesOf s) = some (0, 0, 0) by unfold valueR; rw [if_neg HW0.out, if_neg (by omega), if_neg (by omega), if_neg (by omega), if_pos ⟨by omega, by rw [HAU.out, ← eq_bytes]; exact hau⟩])
              obtain ⟨c0, c1, c2, c3⟩ := HBX.out.dec.four
              obtain ⟨f0, f1, f2, f3⟩ := HBX.out.dec.fourFree
              obtain ⟨d0, d1, d2, d3⟩ := HBX.out.res.four
              obtain ⟨g0, g1, g2, g3⟩ := HBX.out.res.fourFree
              go_wp2
              obtain ⟨hq, hb9⟩ := (HBX.out).told (.int .i64 2) (.int .i64 0) (.int .i64 0) (.int .i64 0)
              obtain ⟨r0, r1, r2, r3⟩ := hq.four
              exact bodyPost_ret (v := .tuple #[.agg #[.int .i64 2, .int .i64 0, .int .i64 0, .int .i64 0], .bool true]) (by simp [results, Try.results41, go_sem, r0, r1, r2, r3]) rfl (show ValPost 2 (valueR 2 (bytesOf s)) W _ _ by rw [HVG.out]; exact ⟨rfl, hb9⟩)
            | false =>
              have HVE := Lib.hid (show valueR 2 (bytesOf s) = (lenR (bytesOf s)).bind fun x => if 0 ≤ x.2 ∨ ((8 : Int) ≤ 2 ∧ (2 : Int) ≤ 11) then some (0, x.1, x.2) else none by unfold valueR; rw [if_neg HW0.out, if_neg (by omega), if_neg (by omega), if_neg (by omega), if_neg (fun hc => by have := hc.2; rw [HAU.out, ← eq_bytes, hau] at this; cases this)])
              obtain ⟨c0, c1, c2, c3⟩ := HBX.out.dec.four
              obtain ⟨f0, f1, f2, f3⟩ := HBX.out.dec.fourFree
              obtain ⟨d0, d1, d2, d3⟩ := HBX.out.res.four
              obtain ⟨g0, g1, g2, g3⟩ := HBX.out.res.fourFree
              go_wp2_with fail
              refine (rlength_any s _ hs).mono ?_
              rintro e w2 ⟨lk, z, b, rfl, hz, hlk, hr, b2⟩
              have HBY := Lib.hid (HBX.out.under b2)
              rw [hr] at HVE
              have HVF := Lib.hid HVE.out
              clear hr HVE b2 c0 c1 c2 c3 f0 f1 f2 f3 d0 d1 d2 d3 g0 g1 g2 g3
              have hB2 := HBY.out.dec.size
              obtain ⟨c0, c1, c2, c3⟩ := HBY.out.dec.four
              obtain ⟨f0, f1, f2, f3⟩ := HBY.out.dec.fourFree
              obtain ⟨d0, d1, d2, d3⟩ := HBY.out.res.four
              obtain ⟨g0, g1, g2, g3⟩ := HBY.out.res.fourFree
              cases b with
              | true =>
                by_cases hz0 : 0 ≤ z
                · have HVG := Lib.hid (show valueR 2 (bytesOf s) = some (0, lk, z) from HVF.out.trans (if_pos (.inl hz0)))
                  go_wp2
                  obtain ⟨hq, hb9⟩ := ((HBY.out.kind lk).num z).told (.int .i64 2) (.int .i64 0) (.int .i64 lk) (.int .i64 z)
                  obtain ⟨r0, r1, r2, r3⟩ := hq.four
                  exact bodyPost_ret (v := .tuple #[.agg #[.int .i64 2, .int .i64 0, .int .i64 lk, .int .i64 z], .bool true]) (by simp [results, Try.results41, go_sem, r0, r1, r2, r3]) rfl (show ValPost 2 (valueR 2 (bytesOf s)) W _ _ by rw [HVG.out]; exact ⟨rfl, hb9⟩)
                · have HVG := Lib.hid (show valueR 2 (bytesOf s) = none from HVF.out.trans (if_neg (fun h => by rcases h with h | h <;> omega)))
                  have hz1 : decide (0 ≤ z) = false := decide_eq_false hz0
                  go_wp2
                  obtain ⟨hq, hb9⟩ := ((HBY.out.kind lk).num z).told (.int .i64 0) (.int .i64 0) (.int .i64 0) (.int .i64 0)
                  obtain ⟨r0, r1, r2, r3⟩ := hq.four
                  exact bodyPost_ret (v := .tuple #[.agg #[.int .i64 0, .int .i64 0, .int .i64 0, .int .i64 0], .bool false]) (by simp [results, Try.results41, go_sem, r0, r1, r2, r3]) rfl (show ValPost 2 (valueR 2 (bytesOf s)) W _ _ by rw [HVG.out]; exact ⟨rfl, hb9⟩)
              | false =>
                go_wp2
                obtain ⟨hq, hb9⟩ := ((HBY.out.kind lk).num z).told (.int .i64 0) (.int .i64 0) (.int .i64 0) (.int .i64 0)
                obtain ⟨r0, r1, r2, r3⟩ := hq.four
                exact bodyPost_ret (v := .tuple #[.agg #[.int .i64 0, .int .i64 0, .int .i64 0, .int .i64 0], .bool false]) (by simp [results, Try.results41, go_sem, r0, r1, r2, r3]) rfl (show ValPost 2 (valueR 2 (bytesOf s)) W _ _ by rw [HVF.out]; exact ⟨rfl, hb9⟩)
          · cases hau : s.toList == [97, 117, 116, 111] with
            | true =>
              have HVG := Lib.hid (show valueR 3 (bytesOf s) = some (0, 0, 0) by unfold valueR; rw [if_neg HW0.out, if_neg (by omega), if_neg (by omega), if_neg (by omega), if_pos ⟨by omega, by rw [HAU.out, ← eq_bytes]; exact hau⟩])
              obtain ⟨c0, c1, c2, c3⟩ := HBX.out.dec.four
              obtain ⟨f0, f1, f2, f3⟩ := HBX.out.dec.fourFree
              obtain ⟨d0, d1, d2, d3⟩ := HBX.out.res.four
              obtain ⟨g0, g1, g2, g3⟩ := HBX.out.res.fourFree
              go_wp2
              obtain ⟨hq, hb9⟩ := (HBX.out).told (.int .i64 3) (.int .i64 0) (.int .i64 0) (.int .i64 0)
              obtain ⟨r0, r1, r2, r3⟩ := hq.four
              exact bodyPost_ret (v := .tuple #[.agg #[.int .i64 3, .int .i64 0, .int .i64 0, .int .i64 0], .bool true]) (by simp [results, Try.results41, go_sem, r0, r1, r2, r3]) rfl (show ValPost 3 (valueR 3 (bytesOf s)) W _ _ by rw [HVG.out]; exact ⟨rfl, hb9⟩)
            | false =>
              have HVE := Lib.hid (show valueR 3 (bytesOf s) = (lenR (bytesOf s)).bind fun x => if 0 ≤ x.2 ∨ ((8 : Int) ≤ 3 ∧ (3 : Int) ≤ 11) then some (0, x.1, x.2) else none by unfold valueR; rw [if_neg HW0.out, if_neg (by omega), if_neg (by omega), if_neg (by omega), if_neg (fun hc => by have := hc.2; rw [HAU.out, ← eq_bytes, hau] at this; cases this)])
              obtain ⟨c0, c1, c2, c3⟩ := HBX.out.dec.four
              obtain ⟨f0, f1, f2, f3⟩ := HBX.out.dec.fourFree
              obtain ⟨d0, d1, d2, d3⟩ := HBX.out.res.four
              obtain ⟨g0, g1, g2, g3⟩ := HBX.out.res.fourFree
              go_wp2_with fail
              refine (rlength_any s _ hs).mono ?_
              rintro e w2 ⟨lk, z, b, rfl, hz, hlk, hr, b2⟩
              have HBY := Lib.hid (HBX.out.under b2)
              rw [hr] at HVE
              have HVF := Lib.hid HVE.out
              clear hr HVE b2 c0 c1 c2 c3 f0 f1 f2 f3 d0 d1 d2 d3 g0 g1 g2 g3
              have hB2 := HBY.out.dec.size
              obtain ⟨c0, c1, c2, c3⟩ := HBY.out.dec.four
              obtain ⟨f0, f1, f2, f3⟩ := HBY.out.dec.fourFree
              obtain ⟨d0, d1, d2, d3⟩ := HBY.out.res.four
              obtain ⟨g0, g1, g2, g3⟩ := HBY.out.res.fourFree
              cases b with
              | true =>
                by_cases hz0 : 0 ≤ z
                · have HVG := Lib.hid (show valueR 3 (bytesOf s) = some (0, lk, z) from HVF.out.trans (if_pos (.inl hz0)))
                  go_wp2
                  obtain ⟨hq, hb9⟩ := ((HBY.out.kind lk).num z).told (.int .i64 3) (.int .i64 0) (.int .i64 lk) (.int .i64 z)
                  obtain ⟨r0, r1, r2, r3⟩ := hq.four
                  exact bodyPost_ret (v := .tuple #[.agg #[.int .i64 3, .int .i64 0, .int .i64 lk, .int .i64 z], .bool true]) (by simp [results, Try.results41, go_sem, r0, r1, r2, r3]) rfl (show ValPost 3 (valueR 3 (bytesOf s)) W _ _ by rw [HVG.out]; exact ⟨rfl, hb9⟩)
                · have HVG := Lib.hid (show valueR 3 (bytesOf s) = none from HVF.out.trans (if_neg (fun h => by rcases h with h | h <;> omega)))
                  have hz1 : decide (0 ≤ z) = false := decide_eq_false hz0
                  go_wp2
                  obtain ⟨hq, hb9⟩ := ((HBY.out.kind lk).num z).told (.int .i64 0) (.int .i64 0) (.int .i64 0) (.int .i64 0)
                  obtain ⟨r0, r1, r2, r3⟩ := hq.four
                  exact bodyPost_ret (v := .tuple #[.agg #[.int .i64 0, .int .i64 0, .int .i64 0, .int .i64 0], .bool false]) (by simp [results, Try.results41, go_sem, r0, r1, r2, r3]) rfl (show ValPost 3 (valueR 3 (bytesOf s)) W _ _ by rw [HVG.out]; exact ⟨rfl, hb9⟩)
              | false =>
                go_wp2
                obtain ⟨hq, hb9⟩ := ((HBY.out.kind lk).num z).told (.int .i64 0) (.int .i64 0) (.int .i64 0) (.int .i64 0)
                obtain ⟨r0, r1, r2, r3⟩ := hq.four
                exact bodyPost_ret (v := .tuple #[.agg #[.int .i64 0, .int .i64 0, .int .i64 0, .int .i64 0], .bool false]) (by simp [results, Try.results41, go_sem, r0, r1, r2, r3]) rfl (show ValPost 3 (valueR 3 (bytesOf s)) W _ _ by rw [HVF.out]; exact ⟨rfl, hb9⟩)
          · cases hau : s.toList == [97, 117, 116, 111] with
            | true =>
              have HVG := Lib.hid (show valueR 22 (bytesOf s) = some (0, 0, 0) by unfold valueR; rw [if_neg HW0.out, if_neg (by omega), if_neg (by omega), if_neg (by omega), if_pos ⟨by omega, by rw [HAU.out, ← eq_bytes]; exact hau⟩])
              obtain ⟨c0, c1, c2, c3⟩ := HBX.out.dec.four
              obtain ⟨f0, f1, f2, f3⟩ := HBX.out.dec.fourFree
              obtain ⟨d0, d1, d2, d3⟩ := HBX.out.res.four
              obtain ⟨g0, g1, g2, g3⟩ := HBX.out.res.fourFree
              go_wp2
              obtain ⟨hq, hb9⟩ := (HBX.out).told (.int .i64 22) (.int .i64 0) (.int .i64 0) (.int .i64 0)
              obtain ⟨r0, r1, r2, r3⟩ := hq.four
              exact bodyPost_ret (v := .tuple #[.agg #[.int .i64 22, .int .i64 0, .int .i64 0, .int .i64 0], .bool true]) (by simp [results, Try.results41, go_sem, r0, r1, r2, r3]) rfl (show ValPost 22 (valueR 22 (bytesOf s)) W _ _ by rw [HVG.out]; exact ⟨rfl, hb9⟩)
            | false =>
              have HVE := Lib.hid (show valueR 22 (bytesOf s) = (lenR (bytesOf s)).bind fun x => if 0 ≤ x.2 ∨ ((8 : Int) ≤ 22 ∧ (22 : Int) ≤ 11) then some (0, x.1, x.2) else none by unfold valueR; rw [if_neg HW0.out, if_neg (by omega), if_neg (by omega), if_neg (by omega), if_neg (fun hc => by have := hc.2; rw [HAU.out, ← eq_bytes, hau] at this; cases this)])
              obtain ⟨c0, c1, c2, c3⟩ := HBX.out.dec.four
              obtain ⟨f0, f1, f2, f3⟩ := HBX.out.dec.fourFree
              obtain ⟨d0, d1, d2, d3⟩ := HBX.out.res.four
              obtain ⟨g0, g1, g2, g3⟩ := HBX.out.res.fourFree
              go_wp2_with fail
              refine (rlength_any s _ hs).mono ?_
              rintro e w2 ⟨lk, z, b, rfl, hz, hlk, hr, b2⟩
              have HBY := Lib.hid (HBX.out.under b2)
              rw [hr] at HVE
              have HVF := Lib.hid HVE.out
              clear hr HVE b2 c0 c1 c2 c3 f0 f1 f2 f3 d0 d1 d2 d3 g0 g1 g2 g3
              have hB2 := HBY.out.dec.size
              obtain ⟨c0, c1, c2, c3⟩ := HBY.out.dec.four
              obtain ⟨f0, f1, f2, f3⟩ := HBY.out.dec.fourFree
              obtain ⟨d0, d1, d2, d3⟩ := HBY.out.res.four
              obtain ⟨g0, g1, g2, g3⟩ := HBY.out.res.fourFree
              cases b with
              | true =>
                by_cases hz0 : 0 ≤ z
                · have HVG := Lib.hid (show valueR 22 (bytesOf s) = some (0, lk, z) from HVF.out.trans (if_pos (.inl hz0)))
                  go_wp2
                  obtain ⟨hq, hb9⟩ := ((HBY.out.kind lk).num z).told (.int .i64 22) (.int .i64 0) (.int .i64 lk) (.int .i64 z)
                  obtain ⟨r0, r1, r2, r3⟩ := hq.four
                  exact bodyPost_ret (v := .tuple #[.agg #[.int .i64 22, .int .i64 0, .int .i64 lk, .int .i64 z], .bool true]) (by simp [results, Try.results41, go_sem, r0, r1, r2, r3]) rfl (show ValPost 22 (valueR 22 (bytesOf s)) W _ _ by rw [HVG.out]; exact ⟨rfl, hb9⟩)
                · have HVG := Lib.hid (show valueR 22 (bytesOf s) = none from HVF.out.trans (if_neg (fun h => by rcases h with h | h <;> omega)))
                  have hz1 : decide (0 ≤ z) = false := decide_eq_false hz0
                  go_wp2
                  obtain ⟨hq, hb9⟩ := ((HBY.out.kind lk).num z).told (.int .i64 0) (.int .i64 0) (.int .i64 0) (.int .i64 0)
                  obtain ⟨r0, r1, r2, r3⟩ := hq.four
                  exact bodyPost_ret (v := .tuple #[.agg #[.int .i64 0, .int .i64 0, .int .i64 0, .int .i64 0], .bool false]) (by simp [results, Try.results41, go_sem, r0, r1, r2, r3]) rfl (show ValPost 22 (valueR 22 (bytesOf s)) W _ _ by rw [HVG.out]; exact ⟨rfl, hb9⟩)
              | false =>
                go_wp2
                obtain ⟨hq, hb9⟩ := ((HBY.out.kind lk).num z).told (.int .i64 0) (.int .i64 0) (.int .i64 0) (.int .i64 0)
                obtain ⟨r0, r1, r2, r3⟩ := hq.four
                exact bodyPost_ret (v := .tuple #[.agg #[.int .i64 0, .int .i64 0, .int .i64 0, .int .i64 0], .bool false]) (by simp [results, Try.results41, go_sem, r0, r1, r2, r3]) rfl (show ValPost 22 (valueR 22 (bytesOf s)) W _ _ by rw [HVF.out]; exact ⟨rfl, hb9⟩)
        · have HAU := Lib.hid (show autoL p = [110, 111, 110, 101] from if_pos h)
          rcases h with rfl | rfl
          · cases hau : s.toList == [110, 111, 110, 101] with
            | true =>
              have HVG := Lib.hid (show valueR 6 (bytesOf s) = some (0, 0, 0) by unfold valueR; rw [if_neg HW0.out, if_neg (by omega), if_neg (by omega), if_neg (by omega), if_pos ⟨by omega, by rw [HAU.out, ← eq_bytes]; exact hau⟩])
              obtain ⟨c0, c1, c2, c3⟩ := HBX.out.dec.four
              obtain ⟨f0, f1, f2, f3⟩ := HBX.out.dec.fourFree
              obtain ⟨d0, d1, d2, d3⟩ := HBX.out.res.four
              obtain ⟨g0, g1, g2, g3⟩ := HBX.out.res.fourFree
              go_wp2
              obtain ⟨hq, hb9⟩ := (HBX.out).told (.int .i64 6) (.int .i64 0) (.int .i64 0) (.int .i64 0)
              obtain ⟨r0, r1, r2, r3⟩ := hq.four
              exact bodyPost_ret (v := .tuple #[.agg #[.int .i64 6, .int .i64 0, .int .i64 0, .int .i64 0], .bool true]) (by simp [results, Try.results41, go_sem, r0, r1, r2, r3]) rfl (show ValPost 6 (valueR 6 (bytesOf s)) W _ _ by rw [HVG.out]; exact ⟨rfl, hb9⟩)
            | false =>
              have HVE := Lib.hid (show valueR 6 (bytesOf s) = (lenR (bytesOf s)).bind fun x => if 0 ≤ x.2 ∨ ((8 : Int) ≤ 6 ∧ (6 : Int) ≤ 11) then some (0, x.1, x.2) else none by unfold valueR; rw [if_neg HW0.out, if_neg (by omega), if_neg (by omega), if_neg (by omega), if_neg (fun hc => by have := hc.2; rw [HAU.out, ← eq_bytes, hau] at this; cases this)])
              obtain ⟨c0, c1, c2, c3⟩ := HBX.out.dec.four
              obtain ⟨f0, f1, f2, f3⟩ := HBX.out.dec.fourFree
              obtain ⟨d0, d1, d2, d3⟩ := HBX.out.res.four
              obtain ⟨g0, g1, g2, g3⟩ := HBX.out.res.fourFree
              go_wp2_with fail
              refine (rlength_any s _ hs).mono ?_
              rintro e w2 ⟨lk, z, b, rfl, hz, hlk, hr, b2⟩
              have HBY := Lib.hid (HBX.out.under b2)
              rw [hr] at HVE
              have HVF := Lib.hid HVE.out
              clear hr HVE b2 c0 c1 c2 c3 f0 f1 f2 f3 d0 d1 d2 d3 g0 g1 g2 g3
              have hB2 := HBY.out.dec.size
              obtain ⟨c0, c1, c2, c3⟩ := HBY.out.dec.four
              obtain ⟨f0, f1, f2, f3⟩ := HBY.out.dec.fourFree
              obtain ⟨d0, d1, d2, d3⟩ := HBY.out.res.four
              obtain ⟨g0, g1, g2, g3⟩ := HBY.out.res.fourFree
              cases b with
              | true =>
                by_cases hz0 : 0 ≤ z
                · have HVG := Lib.hid (show valueR 6 (bytesOf s) = some (0, lk, z) from HVF.out.trans (if_pos (.inl hz0)))
                  go_wp2
                  obtain ⟨hq, hb9⟩ := ((HBY.out.kind lk).num z).told (.int .i64 6) (.int .i64 0) (.int .i64 lk) (.int .i64 z)
                  obtain ⟨r0, r1, r2, r3⟩ := hq.four
                  exact bodyPost_ret (v := .tuple #[.agg #[.int .i64 6, .int .i64 0, .int .i64 lk, .int .i64 z], .bool true]) (by simp [results, Try.results41, go_sem, r0, r1, r2, r3]) rfl (show ValPost 6 (valueR 6 (bytesOf s)) W _ _ by rw [HVG.out]; exact ⟨rfl, hb9⟩)
                · have HVG := Lib.hid (show valueR 6 (bytesOf s) = none from HVF.out.trans (if_neg (fun h => by rcases h with h | h <;> omega)))
                  have hz1 : decide (0 ≤ z) = false := decide_eq_false hz0
                  go_wp2
                  obtain ⟨hq, hb9⟩ := ((HBY.out.kind lk).num z).told (.int .i64 0) (.int .i64 0) (.int .i64 0) (.int .i64 0)
                  obtain ⟨r0, r1, r2, r3⟩ := hq.four
                  exact bodyPost_ret (v := .tuple #[.agg #[.int .i64 0, .int .i64 0, .int .i64 0, .int .i64 0], .bool false]) (by simp [results, Try.results41, go_sem, r0, r1, r2, r3]) rfl (show ValPost 6 (valueR 6 (bytesOf s)) W _ _ by rw [HVG.out]; exact ⟨rfl, hb9⟩)
              | false =>
                go_wp2
                obtain ⟨hq, hb9⟩ := ((HBY.out.kind lk).num z).told (.int .i64 0) (.int .i64 0) (.int .i64 0) (.int .i64 0)
                obtain ⟨r0, r1, r2, r3⟩ := hq.four
                exact bodyPost_ret (v := .tuple #[.agg #[.int .i64 0, .int .i64 0, .int .i64 0, .int .i64 0], .bool false]) (by simp [results, Try.results41, go_sem, r0, r1, r2, r3]) rfl (show ValPost 6 (valueR 6 (bytesOf s)) W _ _ by rw [HVF.out]; exact ⟨rfl, hb9⟩)
          · cases hau : s.toList == [110, 111, 110, 101] with
            | true =>
              have HVG := Lib.hid (show valueR 7 (bytesOf s) = some (0, 0, 0) by unfold valueR; rw [if_neg HW0.out, if_neg (by omega), if_neg (by omega), if_neg (by omega), if_pos ⟨by omega, by rw [HAU.out, ← eq_bytes]; exact hau⟩])
              obtain ⟨c0, c1, c2, c3⟩ := HBX.out.dec.four
              obtain ⟨f0, f1, f2, f3⟩ := HBX.out.dec.fourFree
              obtain ⟨d0, d1, d2, d3⟩ := HBX.out.res.four
              obtain ⟨g0, g1, g2, g3⟩ := HBX.out.res.fourFree
              go_wp2
              obtain ⟨hq, hb9⟩ := (HBX.out).told (.int .i64 7) (.int .i64 0) (.int .i64 0) (.int .i64 0)
              obtain ⟨r0, r1, r2, r3⟩ := hq.four
              exact bodyPost_ret (v := .tuple #[.agg #[.int .i64 7, .int .i64 0, .int .i64 0, .int .i64 0], .bool true]) (by simp [results, Try.results41, go_sem, r0, r1, r2, r3]) rfl (show ValPost 7 (valueR 7 (bytesOf s)) W _ _ by rw [HVG.out]; exact ⟨rfl, hb9⟩)
            | false =>
              have HVE := Lib.hid (show valueR 7 (bytesOf s) = (lenR (bytesOf s)).bind fun x => if 0 ≤ x.2 ∨ ((8 : Int) ≤ 7 ∧ (7 : Int) ≤ 11) then some (0, x.1, x.2) else none by unfold valueR; rw [if_neg HW0.out, if_neg (by omega), if_neg (by omega), if_neg (by omega), if_neg (fun hc => by have := hc.2; rw [HAU.out, ← eq_bytes, hau] at this; cases this)])
              obtain ⟨c0, c1, c2, c3⟩ := HBX.out.dec.four
              obtain ⟨f0, f1, f2, f3⟩ := HBX.out.dec.fourFree
              obtain ⟨d0, d1, d2, d3⟩ := HBX.out.res.four
              obtain ⟨g0, g1, g2, g3⟩ := HBX.out.res.fourFree
              go_wp2_with fail
              refine (rlength_any s _ hs).mono ?_
              rintro e w2 ⟨lk, z, b, rfl, hz, hlk, hr, b2⟩
              have HBY := Lib.hid (HBX.out.under b2)
              rw [hr] at HVE
              have HVF := Lib.hid HVE.out
              clear hr HVE b2 c0 c1 c2 c3 f0 f1 f2 f3 d0 d1 d2 d3 g0 g1 g2 g3
              have hB2 := HBY.out.dec.size
              obtain ⟨c0, c1, c2, c3⟩ := HBY.out.dec.four
              obtain ⟨f0, f1, f2, f3⟩ := HBY.out.dec.fourFree
              obtain ⟨d0, d1, d2, d3⟩ := HBY.out.res.four
              obtain ⟨g0, g1, g2, g3⟩ := HBY.out.res.fourFree
              cases b with
              | true =>
                by_cases hz0 : 0 ≤ z
                · have HVG := Lib.hid (show valueR 7 (bytesOf s) = some (0, lk, z) from HVF.out.trans (if_pos (.inl hz0)))
                  go_wp2
                  obtain ⟨hq, hb9⟩ := ((HBY.out.kind lk).num z).told (.int .i64 7) (.int .i64 0) (.int .i64 lk) (.int .i64 z)
                  obtain ⟨r0, r1, r2, r3⟩ := hq.four
                  exact bodyPost_ret (v := .tuple #[.agg #[.int .i64 7, .int .i64 0, .int .i64 lk, .int .i64 z], .bool true]) (by simp [results, Try.results41, go_sem, r0, r1, r2, r3]) rfl (show ValPost 7 (valueR 7 (bytesOf s)) W _ _ by rw [HVG.out]; exact ⟨rfl, hb9⟩)
                · have HVG := Lib.hid (show valueR 7 (bytesOf s) = none from HVF.out.trans (if_neg (fun h => by rcases h with h | h <;> omega)))
                  have hz1 : decide (0 ≤ z) = false := decide_eq_false hz0
                  go_wp2
                  obtain ⟨hq, hb9⟩ := ((HBY.out.kind lk).num z).told (.int .i64 0) (.int .i64 0) (.int .i64 0) (.int .i64 0)
                  obtain ⟨r0, r1, r2, r3⟩ := hq.four
                  exact bodyPost_ret (v := .tuple #[.agg #[.int .i64 0, .int .i64 0, .int .i64 0, .int .i64 0], .bool false]) (by simp [results, Try.results41, go_sem, r0, r1, r2, r3]) rfl (show ValPost 7 (valueR 7 (bytesOf s)) W _ _ by rw [HVG.out]; exact ⟨rfl, hb9⟩)
              | false =>
                go_wp2
                obtain ⟨hq, hb9⟩ := ((HBY.out.kind lk).num z).told (.int .i64 0) (.int .i64 0) (.int .i64 0) (.int .i64 0)
                obtain ⟨r0, r1, r2, r3⟩ := hq.four
                exact bodyPost_ret (v := .tuple #[.agg #[.int .i64 0, .int .i64 0, .int .i64 0, .int .i64 0], .bool false]) (by simp [results, Try.results41, go_sem, r0, r1, r2, r3]) rfl (show ValPost 7 (valueR 7 (bytesOf s)) W _ _ by rw [HVF.out]; exact ⟨rfl, hb9⟩)
end Go.Proofs.Ytjhmdflagkenbaa
/- What is initial, in the program and in the document's answer. -/
namespace Go.Proofs.Ytjhmdflagkenbaa
open Go Go.RowKit
set_option linter.unusedVariables false
set_option linter.unusedSimpArgs false
set_option maxRecDepth 20000
set_option maxHeartbeats 4000000

theorem rinit_any (W : World) : Calls Try.prog 44 #[] W fun e w' => e = .returned (.agg (i64s initZ).toArray) ∧ Below W.heap.size W w' := by
  go_enter Try.func44, Try.ntmps44
  go_wp2_with (refine style_store (.tmp 0) (.tmp 10) rfl rfl W.heap.size rfl initZ rfl rfl zeros43 ((Whole.mk W 27 (i64s zeros43).toArray).made _) rfl ?_; intro w1 h1 o1; have H1 := Lib.hid h1; have O1 := Lib.hid o1; clear h1 o1)
  exact style_end rfl W.heap.size rfl initZ rfl H1.out rfl ⟨rfl, (((Below.refl W.heap.size W).alloc (Nat.le_refl _) _).alloc (by simp) _).trans (O1.out.below (by simp) (by simp; omega))⟩
end Go.Proofs.Ytjhmdflagkenbaa
/- int64(uint64(a) % c). No program is named here. -/
namespace Go.Proofs.Ytjhmdflagkenbaa
open Go Go.RowKit

theorem conv_lt (a c : Int) (h1 : 1 ≤ c) (h2 : c ≤ 4611686018427387904) : ∃ k, wrap64 ((IntKind.u64.wrap a).tmod c) = k ∧ 0 ≤ k ∧ k < c := by
  have hw : 0 ≤ IntKind.u64.wrap a := by rw [IntKind.wrap_u64]; omega
  rw [Int.tmod_eq_emod_of_nonneg hw]
  have h3 := Int.emod_nonneg (IntKind.u64.wrap a) (show c ≠ 0 by omega)
  have h4 := Int.emod_lt_of_pos (IntKind.u64.wrap a) (show 0 < c by omega)
  refine ⟨IntKind.u64.wrap a % c, IntWalk.wrap64_in _ ⟨by omega, by omega⟩, h3, h4⟩
end Go.Proofs.Ytjhmdflagkenbaa
