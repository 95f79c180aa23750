import Derived.Test.YtncaichachipkaaZQ
/- whit.written: isOnLine, add. -/
namespace Go.Proofs.Ytncaichachipkaa
open Go Go.RowKit
set_option linter.unusedVariables false
set_option linter.unusedSimpArgs false
set_option maxRecDepth 20000
set_option maxHeartbeats 4000000

/-- The metrics lie at lo, 'written' behind them, its row of its own behind both. -/
structure WAt (W w : World) (lo : Nat) (zs : List Int) (A : Option Addr) (n c : Nat) (s : Wr) : Prop where
  row : GRow W w lo zs A n c s.cur
  obj : Whole w (lo + 1) 83 [.slice A n c, .int .i64 s.row.kind, .int .i64 s.row.run, .int .i64 s.row.at_, .int .i64 s.row.adv]
section
variable {W w w' : World} {lo : Nat} {zs : List Int} {A : Option Addr} {n c : Nat} {s : Wr}
theorem WAt.size (h : WAt W w lo zs A n c s) : lo + 1 < w.heap.size := h.obj.size
theorem WAt.off (h : WAt W w lo zs A n c s) : ∀ b, (Value.slice A n c).ownBlock = some b → b ≠ lo + 1 := fun b hb e => whole_ne h.obj h.row.own (by decide) (by rw [hb, e])
theorem WAt.behind (h : WAt W w lo zs A n c s) (hb : Below w.heap.size w w') : WAt W w' lo zs A n c s := ⟨h.row.behind hb, h.obj.under hb h.obj.size⟩
theorem WAt.cells (h : WAt W w lo zs A n c s) : w.cell? ⟨lo + 1, 0, none⟩ = some (.slice A n c) ∧ w.cell? ⟨lo + 1, 1, none⟩ = some (.int .i64 s.row.kind) ∧ w.cell? ⟨lo + 1, 2, none⟩ = some (.int .i64 s.row.run) ∧ w.cell? ⟨lo + 1, 3, none⟩ = some (.int .i64 s.row.at_) ∧ w.cell? ⟨lo + 1, 4, none⟩ = some (.int .i64 s.row.adv) :=
  ⟨h.obj.cell 0, h.obj.cell 1, h.obj.cell 2, h.obj.cell 3, h.obj.cell 4⟩
theorem WAt.frees (h : WAt W w lo zs A n c s) : w.frozen? ⟨lo + 1, 0, none⟩ = false ∧ w.frozen? ⟨lo + 1, 1, none⟩ = false ∧ w.frozen? ⟨lo + 1, 2, none⟩ = false ∧ w.frozen? ⟨lo + 1, 3, none⟩ = false ∧ w.frozen? ⟨lo + 1, 4, none⟩ = false :=
  ⟨h.obj.free 0, h.obj.free 1, h.obj.free 2, h.obj.free 3, h.obj.free 4⟩
theorem WAt.putRow (h : WAt W w lo zs A n c s) (g : Gl) : WAt W ((((w.setCell ⟨lo + 1, 1, none⟩ (.int .i64 g.kind)).setCell ⟨lo + 1, 2, none⟩ (.int .i64 g.run)).setCell ⟨lo + 1, 3, none⟩ (.int .i64 g.at_)).setCell ⟨lo + 1, 4, none⟩ (.int .i64 g.adv)) lo zs A n c ⟨s.cur, g⟩ := by
  refine ⟨h.row.only (g := lo + 1) (((((Only.refl _ w).setCell _ (.inl (by simp)) _).setCell _ (.inl (by simp)) _).setCell _ (.inl (by simp)) _).setCell _ (.inl (by simp)) _) (by omega) h.off, ?_⟩
  exact (((h.obj.put 1 _).put 2 _).put 3 _).put 4 _
end
theorem wonline_any (W w : World) (lo : Nat) (zs : List Int) (A : Option Addr) (n c : Nat) (s : Wr) (h : WAt W w lo zs A n c s) (hn : n = s.cur.length) (hb : n ≤ 200000) :
    Calls Try.prog 42 #[.pointer (some ⟨lo + 1, 0, none⟩)] w fun e w' => e = .returned (.bool (onL s.cur)) ∧ w = w' := by
  have c0 := h.cells.1
  cases n with
  | zero =>
    have hl0 : onL s.cur = false := by rw [List.eq_nil_of_length_eq_zero hn.symm]; rfl
    have HL := Lib.hid hl0
    clear h hn hl0
    go_enter Try.func42, Try.ntmps42
    go_wp2
    go_ret
    exact ⟨ret_bool HL.out.symm, rfl⟩
  | succ m =>
    have hml : m < s.cur.length := by omega
    have hl0 := onL_at s.cur m hn.symm
    obtain ⟨ad, hA, hab, t0, t1, t2, t3⟩ := h.row.row.gl hml
    subst hA
    have hmi : (0 : Int) < ((m + 1 : Nat) : Int) := by omega
    generalize s.cur[m] = y at *
    obtain ⟨y0, y1, y2, y3⟩ := y
    simp only at t0 t1 t2 t3 hl0
    have HL := Lib.hid hl0
    clear h hn hl0 hml hab
    by_cases h4 : y0 = 4
    · subst h4
      go_enter Try.func42, Try.ntmps42
      go_wp2
      go_ret
      exact ⟨ret_bool (by rw [HL.out]; rfl), rfl⟩
    · have e4 : (y0 == 4) = false := by simpa using h4
      go_enter Try.func42, Try.ntmps42
      go_wp2
      go_ret
      exact ⟨ret_bool (by rw [HL.out]; simp [h4]), rfl⟩
abbrev gCell (x : Gl) : List Value := [.int .i64 x.kind, .int .i64 x.run, .int .i64 x.at_, .int .i64 x.adv]
theorem WAt.pushed {W w w' : World} {lo : Nat} {zs : List Int} {A A' : Option Addr} {n c c' : Nat} {s : Wr} (h : WAt W w lo zs A n c s) (x : Gl) (own : w'.ownsRow (lo + 1) 81 4 (.slice A' (n + 1) c') (n + 1) (i64s (gCells s.cur) ++ gCell x))
    (ho : Only (Value.slice A n c).ownBlock.toList w w') (hk : ∀ g, (Value.slice A' (n + 1) c').ownBlock = some g → (Value.slice A n c).ownBlock = some g ∨ w.heap.size ≤ g) :
    WAt W (w'.setCell ⟨lo + 1, 0, none⟩ (.slice A' (n + 1) c')) lo zs A' (n + 1) c' ⟨s.cur ++ [x], s.row⟩ := by
  have hsz := h.size
  have hoff := h.off
  have hlow := own_low h.row.own
  have O1 : Only [lo + 1] w' (w'.setCell ⟨lo + 1, 0, none⟩ (.slice A' (n + 1) c')) := (Only.refl _ w').setCell _ (.inl (by simp)) _
  have hm : Whole w' lo 25 (i64s zs) := ho.whole h.row.met fun e => by have := hlow lo (by simpa using e); omega
  have hob : Whole w' (lo + 1) 83 _ := ho.whole h.obj fun e => hoff (lo + 1) (by simpa using e) rfl
  refine ⟨⟨?_, O1.whole hm (by simp), ?_⟩, hob.put 0 _⟩
  · have := O1.owns own fun g hg => by
      rcases hk g hg with e | e
      · simpa using hoff g e
      · simp; omega
    simp only [gCells_append, i64s_append]
    exact this
  · refine h.row.low.trans ?_
    exact (ho.below (B := lo) (fun y hy => by have := hlow y (by simpa using hy); omega) (by omega)).trans (O1.below (by simp) (by have := ho.size; omega))
/-- What 'add' holds on its way: its own copy of the glyph lies in block gb. -/
structure AddSt (W w0 w : World) (lo : Nat) (zs : List Int) (A0 : Option Addr) (n0 c0 : Nat) (A : Option Addr) (n c : Nat) (s : Wr) (gb : Nat) (g : Gl) : Prop where
  st : WAt W w lo zs A n c s
  only : Only ((lo + 1) :: (Value.slice A0 n0 c0).ownBlock.toList) w0 w
  near : ∀ k, (Value.slice A n c).ownBlock = some k → (Value.slice A0 n0 c0).ownBlock = some k ∨ w0.heap.size ≤ k
  gl : Whole w gb 81 (gCell g)
  off : (Value.slice A n c).ownBlock ≠ some gb
  far : lo + 1 < gb
section
variable {W w0 w w' : World} {lo : Nat} {zs : List Int} {A0 A A' : Option Addr} {n0 c0 n c c' gb : Nat} {s : Wr} {g : Gl}
theorem AddSt.behind (h : AddSt W w0 w lo zs A0 n0 c0 A n c s gb g) (hb : Below w.heap.size w w') : AddSt W w0 w' lo zs A0 n0 c0 A n c s gb g :=
  ⟨h.st.behind hb, h.only.then (Only.of_below hb), h.near, h.gl.under hb h.gl.size, h.off, h.far⟩
theorem AddSt.pushed (h : AddSt W w0 w lo zs A0 n0 c0 A n c s gb g) (x : Gl) (own : w'.ownsRow (lo + 1) 81 4 (.slice A' (n + 1) c') (n + 1) (i64s (gCells s.cur) ++ gCell x))
    (ho : Only (Value.slice A n c).ownBlock.toList w w') (hk : ∀ g, (Value.slice A' (n + 1) c').ownBlock = some g → (Value.slice A n c).ownBlock = some g ∨ w.heap.size ≤ g) :
    AddSt W w0 (w'.setCell ⟨lo + 1, 0, none⟩ (.slice A' (n + 1) c')) lo zs A0 n0 c0 A' (n + 1) c' ⟨s.cur ++ [x], s.row⟩ gb g := by
  have hgs := h.gl.size
  refine ⟨h.st.pushed x own ho hk, ?_, ?_, ?_, ?_, h.far⟩
  · refine (h.only.trans ho fun y hy => ?_).setCell _ (.inl (by simp)) _
    exact (h.near y (by simpa using hy)).imp (fun e => by simp [e]) id
  · intro k hk'
    rcases hk k hk' with e | e
    · exact h.near k e
    · exact .inr (by have := h.only.size; omega)
  · have h1 := ho.whole h.gl fun e => h.off (by simpa using e)
    exact h1.other (p := ⟨lo + 1, 0, none⟩) (by have := h.far; show gb ≠ lo + 1; omega) _
  · intro e
    rcases hk gb e with e1 | e1
    · exact h.off e1
    · omega
theorem AddSt.putRow (h : AddSt W w0 w lo zs A0 n0 c0 A n c s gb g) (x : Gl) :
    AddSt W w0 ((((w.setCell ⟨lo + 1, 1, none⟩ (.int .i64 x.kind)).setCell ⟨lo + 1, 2, none⟩ (.int .i64 x.run)).setCell ⟨lo + 1, 3, none⟩ (.int .i64 x.at_)).setCell ⟨lo + 1, 4, none⟩ (.int .i64 x.adv)) lo zs A0 n0 c0 A n c ⟨s.cur, x⟩ gb g := by
  have hf := h.far
  refine ⟨h.st.putRow x, ((((h.only.setCell _ (.inl (by simp)) _).setCell _ (.inl (by simp)) _).setCell _ (.inl (by simp)) _).setCell _ (.inl (by simp)) _), h.near, ?_, h.off, hf⟩
  exact (((h.gl.other (p := ⟨lo + 1, 1, none⟩) (by show gb ≠ lo + 1; omega) _).other (p := ⟨lo + 1, 2, none⟩) (by show gb ≠ lo + 1; omega) _).other (p := ⟨lo + 1, 3, none⟩) (by show gb ≠ lo + 1; omega) _).other (p := ⟨lo + 1, 4, none⟩) (by show gb ≠ lo + 1; omega) _
theorem AddSt.gcells (h : AddSt W w0 w lo zs A0 n0 c0 A n c s gb g) : w.cell? ⟨gb, 0, none⟩ = some (.int .i64 g.kind) ∧ w.cell? ⟨gb, 1, none⟩ = some (.int .i64 g.run) ∧ w.cell? ⟨gb, 2, none⟩ = some (.int .i64 g.at_) ∧ w.cell? ⟨gb, 3, none⟩ = some (.int .i64 g.adv) :=
  ⟨h.gl.cell 0, h.gl.cell 1, h.gl.cell 2, h.gl.cell 3⟩
end
/-- What 'add' leaves. -/
def WPost (W : World) (lo : Nat) (zs : List Int) (A : Option Addr) (n c : Nat) (s' : Wr) (w : World) (e : Ending) (w' : World) : Prop :=
  e = .returned (.tuple #[]) ∧ ∃ (A' : Option Addr) (n' c' : Nat), n' = s'.cur.length ∧ WAt W w' lo zs A' n' c' s' ∧ Only ((lo + 1) :: (Value.slice A n c).ownBlock.toList) w w'
theorem AddSt.start {W w : World} {lo : Nat} {zs : List Int} {A : Option Addr} {n c : Nat} {s : Wr} (h : WAt W w lo zs A n c s) (g : Gl) :
    AddSt W w (w.alloc (.cells #[.int .i64 g.kind, .int .i64 g.run, .int .i64 g.at_, .int .i64 g.adv] 81)) lo zs A n c A n c s w.heap.size g :=
  ⟨h.behind ((Below.refl _ _).alloc (Nat.le_refl _) _), (Only.refl _ w).alloc _, fun k hk => .inl hk, Whole.mk w _ _, fun e => by have := owns_lt h.row.own e; omega, h.size⟩
/- THE WALK OF add -/
end Go.Proofs.Ytncaichachipkaa
