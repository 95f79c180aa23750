import Derived.Test.YtmlnpphblicghaaRowNumQ
import Derived.Test.YtmlnpphblicghaaZQ
/- Rows of pieces. -/
namespace Go.Proofs.Ytmlnpphblicghaa
open Go Go.RowKit
set_option linter.unusedVariables false
set_option linter.unusedSimpArgs false

def pcC (p : Pc) : List Value := [.int .i64 p.node, .int .i64 p.x, .int .i64 p.y, .int .i64 p.w, .int .i64 p.h, .int .i64 p.from_, .int .i64 p.to_, .int .i64 p.line]
theorem pcC_len (p : Pc) : (pcC p).length = 8 := rfl
theorem pcC_one (p : Pc) : ∀ v ∈ pcC p, v.oneCell' = true := by simp [pcC, Value.oneCell']
def pcV0 : Value := .agg #[.int .i64 0, .int .i64 0, .int .i64 0, .int .i64 0, .int .i64 0, .int .i64 0, .int .i64 0, .int .i64 0]
theorem pc_info : (Try.prog.info? 56).map (fun i => (i.zero, i.size, i.bytes)) = some (some pcV0, 8, 64) := by kernel_rfl
theorem Row.pc {w : World} {B : Nat} {A : Option Addr} {l : List Pc} (h : Row w B A (l.flatMap pcC)) {i : Nat} (hi : i < l.length) :
    ∃ ad, A = some ad ∧ ad.block < B ∧ w.cell? (ad.add (i * 8)) = some (.int .i64 l[i].node) ∧ w.cell? ⟨(ad.add (i * 8)).block, (ad.add (i * 8)).off + 1, none⟩ = some (.int .i64 l[i].x) ∧
      w.cell? ⟨(ad.add (i * 8)).block, (ad.add (i * 8)).off + 2, none⟩ = some (.int .i64 l[i].y) ∧ w.cell? ⟨(ad.add (i * 8)).block, (ad.add (i * 8)).off + 3, none⟩ = some (.int .i64 l[i].w) ∧
      w.cell? ⟨(ad.add (i * 8)).block, (ad.add (i * 8)).off + 4, none⟩ = some (.int .i64 l[i].h) ∧ w.cell? ⟨(ad.add (i * 8)).block, (ad.add (i * 8)).off + 5, none⟩ = some (.int .i64 l[i].from_) ∧
      w.cell? ⟨(ad.add (i * 8)).block, (ad.add (i * 8)).off + 6, none⟩ = some (.int .i64 l[i].to_) ∧ w.cell? ⟨(ad.add (i * 8)).block, (ad.add (i * 8)).off + 7, none⟩ = some (.int .i64 l[i].line) := by
  obtain ⟨ad, e, hb, h0, hj⟩ := h.rc pcC_len (by decide) hi
  exact ⟨ad, e, hb, h0 _ rfl, hj 1 _ (by decide) rfl, hj 2 _ (by decide) rfl, hj 3 _ (by decide) rfl, hj 4 _ (by decide) rfl, hj 5 _ (by decide) rfl, hj 6 _ (by decide) rfl, hj 7 _ (by decide) rfl⟩
/-- What a placing answers. -/
def PlacePost (ps : List Pc) (h : Int) (W : World) (e : Ending) (w' : World) : Prop := ∃ (A : Option Addr) (c : Nat), e = .returned (.tuple #[.slice A ps.length c, .int .i64 h]) ∧
  w'.ownsRow W.heap.size 56 8 (.slice A ps.length c) ps.length (ps.flatMap pcC) ∧ Below W.heap.size W w'
end Go.Proofs.Ytmlnpphblicghaa
