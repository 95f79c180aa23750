import Derived.Test.YtjhmdflagkenbaaZQ
import Derived.Test.YtjhmdflagkenbaaTextQ
import Derived.Test.YtjhmdflagkenbaaRefRootQ
/- quoinlaw14.Style: a style whose cells are not too far. -/
namespace Go.Proofs.Ytjhmdflagkenbaa
open Go Go.RowKit
set_option linter.unusedVariables false
set_option linter.unusedSimpArgs false
set_option maxRecDepth 20000
set_option maxHeartbeats 4000000

theorem wstyle_any (zs : List Int) (A : Option Addr) (c : Nat) (W : World) (hR : Row W W.heap.size A (i64s zs)) (hm : zs.length ≤ 9223372036854775807) :
    Calls Try.prog 12 #[.slice A zs.length c] W fun e w' => ∃ st, GoodZ st ∧ e = .returned (.agg (i64s st).toArray) ∧ Below W.heap.size W w' := by
  have B0 := Lib.hid ((Below.refl W.heap.size W).alloc (Nat.le_refl _) (.cells (i64s zeros43).toArray 27))
  have R0 := Lib.hid (Whole.mk W 27 (i64s zeros43).toArray)
  have HR := Lib.hid ((hR.alloc (Nat.le_refl _) (.cells (i64s zeros43).toArray 27)).more (B' := (W.alloc (.cells (i64s zeros43).toArray 27)).heap.size) (by simp))
  clear hR
  go_enter Try.func12, Try.ntmps12
  go_upto_region 1 with fail
  have e0 : (i64s zeros43).toArray = #[.int .i64 0, .int .i64 0, .int .i64 0, .int .i64 0, .int .i64 0, .int .i64 0, .int .i64 0, .int .i64 0, .int .i64 0, .int .i64 0, .int .i64 0, .int .i64 0, .int .i64 0, .int .i64 0, .int .i64 0, .int .i64 0, .int .i64 0, .int .i64 0, .int .i64 0, .int .i64 0, .int .i64 0, .int .i64 0, .int .i64 0, .int .i64 0, .int .i64 0, .int .i64 0, .int .i64 0, .int .i64 0, .int .i64 0, .int .i64 0, .int .i64 0, .int .i64 0, .int .i64 0, .int .i64 0, .int .i64 0, .int .i64 0, .int .i64 0, .int .i64 0, .int .i64 0, .int .i64 0, .int .i64 0, .int .i64 0, .int .i64 0] := rfl
  rw [e0] at B0 R0 HR
  clear e0
  generalize W.alloc _ = w0 at *
  go_wp2_with fail
  refine (text_any zs A c true w0 HR.out hm).mono ?_
  rintro e w1 ⟨s, rfl, hs, b1⟩
  have B1 := Lib.hid (B0.out.trans (b1.mono B0.out.size))
  have R1 := Lib.hid (R0.out.under b1 R0.out.size)
  clear b1 hs B0 R0 HR
  go_wp2_with fail
  refine (parse_any s w1).mono ?_
  rintro e w2 ⟨ds, A2, c2, x2, y2, rfl, hrow, hlen, b2, -⟩
  have B2 := Lib.hid (B1.out.trans (b2.mono B1.out.size))
  have R2 := Lib.hid (R1.out.under b2 R1.out.size)
  have D2 := Lib.hid hrow
  clear b2 B1 R1 hrow
  go_wp2_with fail
  refine (rroot_any ds A2 c2 w2 D2.out hlen).mono ?_
  rintro e w3 ⟨rfl, b3⟩
  have B3 := Lib.hid (B2.out.trans (b3.mono B2.out.size))
  have R3 := Lib.hid (R2.out.under b3 R2.out.size)
  clear b3 B2 R2 D2
  have G := Lib.hid (root_good ds)
  generalize rootZ ds = st at *
  go_wp2_with (refine style_store (.tmp 2) (.tmp 14) rfl rfl W.heap.size rfl st G.out.len rfl zeros43 ?_ rfl ?_; (focus (exact R3.out)); intro w4 h4 o4; have R4 := Lib.hid h4; have B4 := Lib.hid (B3.out.trans (o4.below (by intro x hx; simp at hx; omega) B3.out.size)); clear h4 o4)
  exact style_end rfl W.heap.size rfl _ G.out.len R4.out rfl ⟨st, G.out, rfl, B4.out⟩
end Go.Proofs.Ytjhmdflagkenbaa
