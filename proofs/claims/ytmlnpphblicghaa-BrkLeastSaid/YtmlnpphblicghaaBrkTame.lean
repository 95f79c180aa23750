import Derived.Test.YtmlnpphblicghaaEnds
/- quoinlaw11.Tame. -/
namespace Go.Proofs.Ytmlnpphblicghaa
open Go Go.RowKit
set_option linter.unusedVariables false
set_option linter.unusedSimpArgs false
set_option maxRecDepth 20000
set_option maxHeartbeats 4000000

def tgl (x : Gl) : Gl := ⟨x.kind % 4 + 1, x.run, x.at_, x.adv % 1048576⟩
def tameG (l : List Gl) : List Gl := (l.take 200).map tgl
theorem tameG_len (l : List Gl) : (tameG l).length = min l.length 200 := by simp [tameG]; omega
theorem tameG_mem {l : List Gl} {x : Gl} (h : x ∈ tameG l) : (x.kind = 1 ∨ x.kind = 2 ∨ x.kind = 3 ∨ x.kind = 4) ∧ 0 ≤ x.adv ∧ x.adv < 1048576 := by
  obtain ⟨y, _, rfl⟩ := List.mem_map.1 h
  simp only [tgl]
  omega
theorem tameG_fine (l : List Gl) : FineG (tameG l) := ⟨by rw [tameG_len]; omega, fun x hx => by have := tameG_mem hx; omega⟩
theorem adv_code (z : Int) : wrap64 ((IntKind.u64.wrap z).tmod 1048576) = z % 1048576 := by
  rw [IntKind.wrap_u64, Int.tmod_eq_emod_of_nonneg (by omega)]
  unfold wrap64
  omega
theorem tameGlyphs_any (l : List Gl) (A : Option Addr) (c : Nat) (W : World) (hR : Row W W.heap.size A (i64s (gCells l))) :
    Calls Try.prog 18 #[.slice A l.length c] W fun e w' => ∃ (A' : Option Addr) (c' : Nat), e = .returned (.slice A' (tameG l).length c') ∧
      w'.ownsRow W.heap.size 24 4 (.slice A' (tameG l).length c') (tameG l).length (i64s (gCells (tameG l))) ∧ Below W.heap.size W w' := by
  have HR := Lib.hid hR
  have HL := Lib.hid (tameG_len l)
  have k3 : ∀ x : Int, bits .and .i64 x 3 = x % 4 := fun x => and_mask_i64 x 2 (by decide)
  have ad := adv_code
  clear hR
  go_enter Try.func18, Try.ntmps18
  go_wp2
  go_loopw [3, 4] (fun v3 v4 wr => ∃ (A1 : Option Addr) (k c1 : Nat), v3 = .slice A1 k c1 ∧ v4 = .int .i64 k ∧ k ≤ l.length ∧ k ≤ 200 ∧ wr.ownsRow W.heap.size 24 4 (.slice A1 k c1) k (i64s (gCells ((l.take k).map tgl))) ∧ Below W.heap.size W wr) (fun _ v4 _ => 200 - (intOf v4).toNat)
  case atStart => exact ⟨none, 0, 0, rfl, rfl, Nat.zero_le _, by omega, World.ownsRow_nil _ _ _ _, Below.refl _ _⟩
  case round =>
    obtain ⟨A1, k, c1, rfl, rfl, hk, hk2, hO, hB⟩ := hrel
    have HO := Lib.hid hO
    have HB := Lib.hid hB
    have zB := hB.size
    clear hO hB
    by_cases hlt : k < l.length ∧ k < 200
    · obtain ⟨h1, h2⟩ := hlt
      have h1i : (k : Int) < l.length := by omega
      have h2i : (k : Int) < 200 := by omega
      obtain ⟨adr, rfl, hab, r0, r1, r2, r3⟩ := (HR.out.below HB.out).gl h1
      have HT : Hid ((l.take (k + 1)).map tgl = (l.take k).map tgl ++ [tgl l[k]]) := Lib.hid (by rw [List.take_succ_eq_append_getElem h1, List.map_append]; rfl)
      generalize l[k] = x at *
      obtain ⟨xk, xr, xa, xv⟩ := x
      simp only at r0 r1 r2 r3
      go_upto_region 7 with fail
      have X := Lib.hid (Whole.mk wr 24 #[.int .i64 (xk % 4 + 1), .int .i64 xr, .int .i64 xa, .int .i64 (xv % 1048576)])
      have O1 := Lib.hid (HO.out.alloc (.cells #[.int .i64 (xk % 4 + 1), .int .i64 xr, .int .i64 xa, .int .i64 (xv % 1048576)] 24))
      have B1 := Lib.hid (HB.out.alloc zB (.cells #[.int .i64 (xk % 4 + 1), .int .i64 xr, .int .i64 xa, .int .i64 (xv % 1048576)] 24))
      clear r0 r1 r2 r3 HO HB zB hab
      generalize wr.alloc _ = w1 at *
      generalize wr.heap.size = gx at *
      obtain ⟨x0, x1, x2, x3⟩ := Whole.four X.out
      have zB := B1.out.size
      go_wp2_with (at_builtin; refine wpList_new rfl (.tmp 31) (.tmp 33) _ rfl W.heap.size 24 4 32 (.agg #[.int .i64 0, .int .i64 0, .int .i64 0, .int .i64 0]) Try.underlying22 gl_info rfl (by decide) _ _ _ _ rfl O1.out rfl ⟨by omega, by unfold maxLen; omega, zB⟩ rfl (by simp [Value.oneCell']) ?_; intro A2 c2 w2 own2 hb2; have O2 := Lib.hid own2; have B2 := Lib.hid (B1.out.trans hb2); clear own2 hb2 O1 B1 X x0 x1 x2 x3)
      go_roundw
      case rel => exact ⟨A2, k + 1, c2, rfl, by go_num, by omega, by omega, by rw [HT.out, gCells_append, i64s_append]; simpa [tgl, gCells, i64s] using O2.out, B2.out⟩
      case measure => simp [intOf]; omega
    · have HE : Hid ((l.take k).map tgl = tameG l ∧ k = (tameG l).length) := Lib.hid (by
        have hm : k = min l.length 200 := by omega
        refine ⟨?_, by rw [HL.out]; exact hm⟩
        unfold tameG
        rcases Nat.lt_or_ge l.length 200 with h | h
        · rw [List.take_of_length_le (by omega), List.take_of_length_le (by omega)]
        · rw [show k = 200 by omega])
      have hx : (¬ (k : Int) < l.length) ∨ ((k : Int) < l.length ∧ ¬ (k : Int) < 200) := by omega
      rcases hx with hx | ⟨hx, hx2⟩
      all_goals
        go_wp2
        go_ret
        rw [← HE.out.1, show ((l.take k).map tgl).length = k by rw [HE.out.1]; exact HE.out.2.symm]
        exact ⟨A1, c1, rfl, HO.out, HB.out⟩
end Go.Proofs.Ytmlnpphblicghaa
