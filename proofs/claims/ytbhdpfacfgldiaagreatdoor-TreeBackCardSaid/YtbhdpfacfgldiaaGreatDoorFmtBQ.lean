import Derived.Test.YtbhdpfacfgldiaaGreatDoorProg
import Derived.Test.YtbhdpfacfgldiaaGreatDoorZQ
import Derived.Test.YtbhdpfacfgldiaaGreatDoorZRQ
import Derived.OwnWalk
import Derived.BigRegion
/- internal/strconv.formatBase10: it writes bytes into what it is given. -/
namespace Go.Proofs.YtbhdpfacfgldiaaGreatDoor
open Go Go.RowKit
set_option linter.unusedVariables false
set_option linter.unusedSimpArgs false
set_option maxRecDepth 20000
set_option maxHeartbeats 4000000

/-- A block of bytes, whatever they are. -/
def Byt (w : World) (g : Nat) (t : TypeId) (N : Nat) : Prop := ∃ cs : List Value, Whole w g t cs ∧ cs.length = N ∧ ∀ v ∈ cs, ∃ z : Int, v = .int .u8 z ∧ 0 ≤ z ∧ z < 256
section
variable {w w' : World} {g N : Nat} {t : TypeId}
theorem Byt.size (h : Byt w g t N) : g < w.heap.size := by obtain ⟨cs, h1, -⟩ := h; exact h1.size
theorem Byt.put (h : Byt w g t N) (j : Nat) (z : Int) (h0 : 0 ≤ z ∧ z < 256) : Byt (w.setCell ⟨g, j, none⟩ (.int .u8 z)) g t N := by
  obtain ⟨cs, h1, h2, h3⟩ := h
  refine ⟨cs.set j (.int .u8 z), h1.put j _, by rw [List.length_set]; exact h2, fun v hv => ?_⟩
  rcases List.mem_or_eq_of_mem_set hv with hv | rfl
  · exact h3 v hv
  · exact ⟨z, rfl, h0⟩
theorem Byt.cell (h : Byt w g t N) {j : Nat} (hj : j < N) : ∃ z : Int, w.cell? ⟨g, j, none⟩ = some (.int .u8 z) ∧ 0 ≤ z ∧ z < 256 := by
  obtain ⟨cs, h1, h2, h3⟩ := h
  have e := h1.cell j
  rw [List.getElem?_eq_getElem (by omega)] at e
  obtain ⟨z, hz, hb⟩ := h3 _ (List.getElem_mem (by omega : j < cs.length))
  exact ⟨z, by rw [e, hz], hb⟩
theorem Byt.free (h : Byt w g t N) (j : Nat) : w.frozen? ⟨g, j, none⟩ = false := by obtain ⟨cs, h1, -⟩ := h; exact h1.free j
theorem Byt.drew (h : Byt w g t N) (n : Nat) : Byt (w.drewN n) g t N := h
end
theorem byt_lt (u : UInt8) : (0 : Int) ≤ ((u.toNat : Nat) : Int) ∧ ((u.toNat : Nat) : Int) < 256 := ⟨by omega, by have := u.toNat_lt; omega⟩
theorem fb_any (g off n N c : Nat) (t : TypeId) (hn : off + n ≤ N) (hN : N ≤ 1000) (hc : n ≤ c ∧ c ≤ 1000) (u : Int) (hu : 0 ≤ u ∧ u < 18446744073709551616) (W : World) (hB : Byt W g t N) :
    Calls Tryz.prog 130 #[.slice (some ⟨g, off, none⟩) n c, .int .u64 u] W fun e w' => e = .returned (.tuple #[]) ∧ Byt w' g t N ∧ Only [g] W w' := by
  have HB := Lib.hid hB
  clear hB
  go_enter Tryz.func130, Tryz.ntmps130
  go_wp2_with fail
  go_loopw [1, 4] (fun v1 v4 wr => ∃ (m : Nat) (y : Int), v1 = .int .u64 y ∧ v4 = .int .i64 m ∧ m ≤ n ∧ 0 ≤ y ∧ y < 18446744073709551616 ∧ Hid (Byt wr g t N) ∧ Hid (Only [g] W wr)) (fun _ v4 _ => (intOf v4).toNat)
  case atStart => exact ⟨n, u, rfl, rfl, Nat.le_refl _, hu.1, hu.2, HB, Lib.hid (Only.refl _ _)⟩
  case round =>
    clear HB hu
    obtain ⟨m, y, rfl, rfl, hm, y0, y1, B0, O0⟩ := hrel
    generalize wr = w0 at *
    by_cases h8 : 8 ≤ m
    · have z8' : decide ((8 : Int) ≤ (m : Int)) = true := decide_eq_true (by omega)
      obtain ⟨m1, hm1⟩ : ∃ j : Nat, (m : Int) - 1 = (j : Int) := ⟨m - 1, by omega⟩
      obtain ⟨m2, hm2⟩ : ∃ j : Nat, (m : Int) - 2 = (j : Int) := ⟨m - 2, by omega⟩
      have k1 : (m1 : Int) < n ∧ m1 < n := by omega
      have k2 : (m2 : Int) < n ∧ m2 < n := by omega
      obtain ⟨z1, c1, -⟩ := B0.out.cell (j := off + m1) (by omega)
      obtain ⟨z2, c2, -⟩ := B0.out.cell (j := off + m2) (by omega)
      have f1 := B0.out.free (off + m1)
      have f2 := B0.out.free (off + m2)
      go_upto_region 7 with fail
      obtain ⟨a', ha⟩ : ∃ a : Nat, y % 100 * 2 = (a : Int) := ⟨(y % 100 * 2).toNat, by omega⟩
      rw [ha]
      obtain ⟨b', hb'⟩ : ∃ j : Nat, (a' : Int) + 1 = (j : Int) := ⟨a' + 1, by omega⟩
      have hw : IntKind.u32.wrap ((a' : Int) + 1) = (b' : Int) := by rw [hb', IntKind.wrap_u32]; omega
      have bb : b' < 200 ∧ (b' : Int) < 200 := by omega
      have aa : a' < 200 ∧ (a' : Int) < 200 := by omega
      have hne : off + m1 ≠ off + m2 := by omega
      clear hb' ha
      go_cut [] from 42 to 54 (fun wx => Hid (Byt wx g t N) ∧ Hid (Only [g] W wx))
      case first =>
        go_region
        all_goals go_wp2
        all_goals go_meet
        all_goals exact ⟨Lib.hid ((B0.out.put _ _ (byt_lt _)).put _ _ (byt_lt _)), Lib.hid (((O0.out.setCell ⟨g, off + m1, none⟩ (.inl (by simp)) _).setCell ⟨g, off + m2, none⟩ (.inl (by simp)) _).drewN 1)⟩
      case rest =>
      obtain ⟨B1, O1⟩ := hcut
      generalize wc = w1 at *
      clear c1 c2 f1 f2 hm1 hm2 k1 k2 hw bb aa hne B0 O0
      obtain ⟨m1, hm1⟩ : ∃ j : Nat, (m : Int) - 3 = (j : Int) := ⟨m - 3, by omega⟩
      obtain ⟨m2, hm2⟩ : ∃ j : Nat, (m : Int) - 4 = (j : Int) := ⟨m - 4, by omega⟩
      have k1 : (m1 : Int) < n ∧ m1 < n := by omega
      have k2 : (m2 : Int) < n ∧ m2 < n := by omega
      obtain ⟨z1, c1, -⟩ := B1.out.cell (j := off + m1) (by omega)
      obtain ⟨z2, c2, -⟩ := B1.out.cell (j := off + m2) (by omega)
      have f1 := B1.out.free (off + m1)
      have f2 := B1.out.free (off + m2)
      go_upto_region 8 with fail
      obtain ⟨a', ha⟩ : ∃ a : Nat, y % 10000 / 100 * 2 = (a : Int) := ⟨(y % 10000 / 100 * 2).toNat, by omega⟩
      rw [ha]
      obtain ⟨b', hb'⟩ : ∃ j : Nat, (a' : Int) + 1 = (j : Int) := ⟨a' + 1, by omega⟩
      have hw : IntKind.u32.wrap ((a' : Int) + 1) = (b' : Int) := by rw [hb', IntKind.wrap_u32]; omega
      have bb : b' < 200 ∧ (b' : Int) < 200 := by omega
      have aa : a' < 200 ∧ (a' : Int) < 200 := by omega
      have hne : off + m1 ≠ off + m2 := by omega
      clear hb' ha
      go_cut [] from 55 to 67 (fun wx => Hid (Byt wx g t N) ∧ Hid (Only [g] W wx))
      case first =>
        go_region
        all_goals go_wp2
        all_goals go_meet
        all_goals exact ⟨Lib.hid ((B1.out.put _ _ (byt_lt _)).put _ _ (byt_lt _)), Lib.hid (((O1.out.setCell ⟨g, off + m1, none⟩ (.inl (by simp)) _).setCell ⟨g, off + m2, none⟩ (.inl (by simp)) _).drewN 1)⟩
      case rest =>
      obtain ⟨B2, O2⟩ := hcut
      generalize wc = w2 at *
      clear c1 c2 f1 f2 hm1 hm2 k1 k2 hw bb aa hne B1 O1
      obtain ⟨m1, hm1⟩ : ∃ j : Nat, (m : Int) - 5 = (j : Int) := ⟨m - 5, by omega⟩
      obtain ⟨m2, hm2⟩ : ∃ j : Nat, (m : Int) - 6 = (j : Int) := ⟨m - 6, by omega⟩
      have k1 : (m1 : Int) < n ∧ m1 < n := by omega
      have k2 : (m2 : Int) < n ∧ m2 < n := by omega
      obtain ⟨z1, c1, -⟩ := B2.out.cell (j := off + m1) (by omega)
      obtain ⟨z2, c2, -⟩ := B2.out.cell (j := off + m2) (by omega)
      have f1 := B2.out.free (off + m1)
      have f2 := B2.out.free (off + m2)
      go_upto_region 9 with fail
      obtain ⟨a', ha⟩ : ∃ a : Nat, y % 100000000 / 10000 % 100 * 2 = (a : Int) := ⟨(y % 100000000 / 10000 % 100 * 2).toNat, by omega⟩
      rw [ha]
      obtain ⟨b', hb'⟩ : ∃ j : Nat, (a' : Int) + 1 = (j : Int) := ⟨a' + 1, by omega⟩
      have hw : IntKind.u32.wrap ((a' : Int) + 1) = (b' : Int) := by rw [hb', IntKind.wrap_u32]; omega
      have bb : b' < 200 ∧ (b' : Int) < 200 := by omega
      have aa : a' < 200 ∧ (a' : Int) < 200 := by omega
      have hne : off + m1 ≠ off + m2 := by omega
      clear hb' ha
      go_cut [] from 68 to 80 (fun wx => Hid (Byt wx g t N) ∧ Hid (Only [g] W wx))
      case first =>
        go_region
        all_goals go_wp2
        all_goals go_meet
        all_goals exact ⟨Lib.hid ((B2.out.put _ _ (byt_lt _)).put _ _ (byt_lt _)), Lib.hid (((O2.out.setCell ⟨g, off + m1, none⟩ (.inl (by simp)) _).setCell ⟨g, off + m2, none⟩ (.inl (by simp)) _).drewN 1)⟩
      case rest =>
      obtain ⟨B3, O3⟩ := hcut
      generalize wc = w3 at *
      clear c1 c2 f1 f2 hm1 hm2 k1 k2 hw bb aa hne B2 O2
      obtain ⟨m1, hm1⟩ : ∃ j : Nat, (m : Int) - 7 = (j : Int) := ⟨m - 7, by omega⟩
      obtain ⟨m2, hm2⟩ : ∃ j : Nat, (m : Int) - 8 = (j : Int) := ⟨m - 8, by omega⟩
      have k1 : (m1 : Int) < n ∧ m1 < n := by omega
      have k2 : (m2 : Int) < n ∧ m2 < n := by omega
      obtain ⟨z1, c1, -⟩ := B3.out.cell (j := off + m1) (by omega)
      obtain ⟨z2, c2, -⟩ := B3.out.cell (j := off + m2) (by omega)
      have f1 := B3.out.free (off + m1)
      have f2 := B3.out.free (off + m2)
      go_upto_region 10 with fail
      obtain ⟨a', ha⟩ : ∃ a : Nat, y % 100000000 / 10000 / 100 * 2 = (a : Int) := ⟨(y % 100000000 / 10000 / 100 * 2).toNat, by omega⟩
      rw [ha]
      obtain ⟨b', hb'⟩ : ∃ j : Nat, (a' : Int) + 1 = (j : Int) := ⟨a' + 1, by omega⟩
      have hw : IntKind.u32.wrap ((a' : Int) + 1) = (b' : Int) := by rw [hb', IntKind.wrap_u32]; omega
      have bb : b' < 200 ∧ (b' : Int) < 200 := by omega
      have aa : a' < 200 ∧ (a' : Int) < 200 := by omega
      have hne : off + m1 ≠ off + m2 := by omega
      clear hb' ha
      go_cut [] from 81 to 93 (fun wx => Hid (Byt wx g t N) ∧ Hid (Only [g] W wx))
      case first =>
        go_region
        all_goals go_wp2
        all_goals go_meet
        all_goals exact ⟨Lib.hid ((B3.out.put _ _ (byt_lt _)).put _ _ (byt_lt _)), Lib.hid (((O3.out.setCell ⟨g, off + m1, none⟩ (.inl (by simp)) _).setCell ⟨g, off + m2, none⟩ (.inl (by simp)) _).drewN 1)⟩
      case rest =>
      obtain ⟨B4, O4⟩ := hcut
      generalize wc = w4 at *
      clear c1 c2 f1 f2 hm1 hm2 k1 k2 hw bb aa hne B3 O3
      obtain ⟨m8, hm8⟩ : ∃ j : Nat, (m : Int) - 8 = (j : Int) := ⟨m - 8, by omega⟩
      go_wp2_with fail
      go_roundw
      case rel => exact ⟨m8, y / 100000000, rfl, by go_num, by omega, by omega, by omega, B4, O4⟩
      case measure => simp [intOf] <;> omega
    · have z8' : decide ((8 : Int) ≤ (m : Int)) = false := decide_eq_false (by omega)
      clear h8
      go_upto_if 99 with fail
      obtain ⟨x, hx⟩ : ∃ x, y % 4294967296 = x := ⟨_, rfl⟩
      have x0 : 0 ≤ x ∧ x < 4294967296 := by omega
      rw [hx]
      clear hx y0 y1
      go_cut [4, 12, 13, 14, 15] from 100 to 137 (fun v4 v12 v13 v14 v15 wx => ∃ (m' : Nat) (x' : Int), v4 = .int .i64 m' ∧ v12 = .int .u32 x' ∧ m' ≤ n ∧ 0 ≤ x' ∧ x' < 4294967296 ∧ Hid (Byt wx g t N) ∧ Hid (Only [g] W wx))
      case first =>
        by_cases h4 : 4 ≤ m
        · have z4 : decide ((4 : Int) ≤ (m : Int)) = true := decide_eq_true (by omega)
          obtain ⟨m1, hm1⟩ : ∃ j : Nat, (m : Int) - 1 = (j : Int) := ⟨m - 1, by omega⟩
          obtain ⟨m2, hm2⟩ : ∃ j : Nat, (m : Int) - 2 = (j : Int) := ⟨m - 2, by omega⟩
          have k1 : (m1 : Int) < n ∧ m1 < n := by omega
          have k2 : (m2 : Int) < n ∧ m2 < n := by omega
          obtain ⟨z1, c1, -⟩ := B0.out.cell (j := off + m1) (by omega)
          obtain ⟨z2, c2, -⟩ := B0.out.cell (j := off + m2) (by omega)
          have f1 := B0.out.free (off + m1)
          have f2 := B0.out.free (off + m2)
          go_upto_region 17 with fail
          obtain ⟨a', ha⟩ : ∃ a : Nat, x % 100 * 2 = (a : Int) := ⟨(x % 100 * 2).toNat, by omega⟩
          rw [ha]
          obtain ⟨b', hb'⟩ : ∃ j : Nat, (a' : Int) + 1 = (j : Int) := ⟨a' + 1, by omega⟩
          have hw : IntKind.u32.wrap ((a' : Int) + 1) = (b' : Int) := by rw [hb', IntKind.wrap_u32]; omega
          have bb : b' < 200 ∧ (b' : Int) < 200 := by omega
          have aa : a' < 200 ∧ (a' : Int) < 200 := by omega
          have hne : off + m1 ≠ off + m2 := by omega
          clear hb' ha
          go_cut [] from 110 to 122 (fun wx => Hid (Byt wx g t N) ∧ Hid (Only [g] W wx))
          case first =>
            go_region
            all_goals go_wp2
            all_goals go_meet
            all_goals exact ⟨Lib.hid ((B0.out.put _ _ (byt_lt _)).put _ _ (byt_lt _)), Lib.hid (((O0.out.setCell ⟨g, off + m1, none⟩ (.inl (by simp)) _).setCell ⟨g, off + m2, none⟩ (.inl (by simp)) _).drewN 1)⟩
          case rest =>
          obtain ⟨B1, O1⟩ := hcut
          generalize wc = w1 at *
          clear c1 c2 f1 f2 hm1 hm2 k1 k2 hw bb aa hne B0 O0
          obtain ⟨m1, hm1⟩ : ∃ j : Nat, (m : Int) - 3 = (j : Int) := ⟨m - 3, by omega⟩
          obtain ⟨m2, hm2⟩ : ∃ j : Nat, (m : Int) - 4 = (j : Int) := ⟨m - 4, by omega⟩
          have k1 : (m1 : Int) < n ∧ m1 < n := by omega
          have k2 : (m2 : Int) < n ∧ m2 < n := by omega
          obtain ⟨z1, c1, -⟩ := B1.out.cell (j := off + m1) (by omega)
          obtain ⟨z2, c2, -⟩ := B1.out.cell (j := off + m2) (by omega)
          have f1 := B1.out.free (off + m1)
          have f2 := B1.out.free (off + m2)
          go_upto_region 18 with fail
          obtain ⟨a', ha⟩ : ∃ a : Nat, x % 10000 / 100 * 2 = (a : Int) := ⟨(x % 10000 / 100 * 2).toNat, by omega⟩
          rw [ha]
          obtain ⟨b', hb'⟩ : ∃ j : Nat, (a' : Int) + 1 = (j : Int) := ⟨a' + 1, by omega⟩
          have hw : IntKind.u32.wrap ((a' : Int) + 1) = (b' : Int) := by rw [hb', IntKind.wrap_u32]; omega
          have bb : b' < 200 ∧ (b' : Int) < 200 := by omega
          have aa : a' < 200 ∧ (a' : Int) < 200 := by omega
          have hne : off + m1 ≠ off + m2 := by omega
          clear hb' ha
          go_cut [] from 123 to 135 (fun wx => Hid (Byt wx g t N) ∧ Hid (Only [g] W wx))
          case first =>
            go_region
            all_goals go_wp2
            all_goals go_meet
            all_goals exact ⟨Lib.hid ((B1.out.put _ _ (byt_lt _)).put _ _ (byt_lt _)), Lib.hid (((O1.out.setCell ⟨g, off + m1, none⟩ (.inl (by simp)) _).setCell ⟨g, off + m2, none⟩ (.inl (by simp)) _).drewN 1)⟩
          case rest =>
          obtain ⟨B2, O2⟩ := hcut
          generalize wc = w2 at *
          clear c1 c2 f1 f2 hm1 hm2 k1 k2 hw bb aa hne B1 O1
          obtain ⟨m4, hm4⟩ : ∃ j : Nat, (m : Int) - 4 = (j : Int) := ⟨m - 4, by omega⟩
          go_wp2_with fail
          go_meet
          exact ⟨m4, x / 10000, rfl, rfl, by omega, by omega, by omega, B2, O2⟩
        · have z4 : decide ((4 : Int) ≤ (m : Int)) = false := decide_eq_false (by omega)
          go_wp2_with fail
          go_meet
          exact ⟨m, x, rfl, rfl, hm, x0.1, x0.2, B0, O0⟩
      case rest =>
        clear x0 z8' hm B0 O0
        obtain ⟨m, x, rfl, rfl, hm, x0, x1, B0, O0⟩ := hcut
        generalize wc = w0 at *
        go_upto_if 139 with fail
        go_cut [4, 12, 16] from 140 to 159 (fun v4 v12 v16 wx => ∃ (m' : Nat) (x' : Int), v4 = .int .i64 m' ∧ v12 = .int .u32 x' ∧ m' ≤ n ∧ 0 ≤ x' ∧ x' < 4294967296 ∧ Hid (Byt wx g t N) ∧ Hid (Only [g] W wx))
        case first =>
          by_cases h2 : 2 ≤ m
          · have z2 : decide ((2 : Int) ≤ (m : Int)) = true := decide_eq_true (by omega)
            obtain ⟨m1, hm1⟩ : ∃ j : Nat, (m : Int) - 1 = (j : Int) := ⟨m - 1, by omega⟩
            obtain ⟨m2, hm2⟩ : ∃ j : Nat, (m : Int) - 2 = (j : Int) := ⟨m - 2, by omega⟩
            have k1 : (m1 : Int) < n ∧ m1 < n := by omega
            have k2 : (m2 : Int) < n ∧ m2 < n := by omega
            obtain ⟨z1, c1, -⟩ := B0.out.cell (j := off + m1) (by omega)
            obtain ⟨z2, c2, -⟩ := B0.out.cell (j := off + m2) (by omega)
            have f1 := B0.out.free (off + m1)
            have f2 := B0.out.free (off + m2)
            go_upto_region 23 with fail
            obtain ⟨a', ha⟩ : ∃ a : Nat, x % 100 * 2 = (a : Int) := ⟨(x % 100 * 2).toNat, by omega⟩
            rw [ha]
            obtain ⟨b', hb'⟩ : ∃ j : Nat, (a' : Int) + 1 = (j : Int) := ⟨a' + 1, by omega⟩
            have hw : IntKind.u32.wrap ((a' : Int) + 1) = (b' : Int) := by rw [hb', IntKind.wrap_u32]; omega
            have bb : b' < 200 ∧ (b' : Int) < 200 := by omega
            have aa : a' < 200 ∧ (a' : Int) < 200 := by omega
            have hne : off + m1 ≠ off + m2 := by omega
            clear hb' ha
            go_cut [] from 145 to 157 (fun wx => Hid (Byt wx g t N) ∧ Hid (Only [g] W wx))
            case first =>
              go_region
              all_goals go_wp2
              all_goals go_meet
              all_goals exact ⟨Lib.hid ((B0.out.put _ _ (byt_lt _)).put _ _ (byt_lt _)), Lib.hid (((O0.out.setCell ⟨g, off + m1, none⟩ (.inl (by simp)) _).setCell ⟨g, off + m2, none⟩ (.inl (by simp)) _).drewN 1)⟩
            case rest =>
            obtain ⟨B1, O1⟩ := hcut
            generalize wc = w1 at *
            clear c1 c2 f1 f2 hm1 hm2 k1 k2 hw bb aa hne B0 O0
            obtain ⟨m4, hm4⟩ : ∃ j : Nat, (m : Int) - 2 = (j : Int) := ⟨m - 2, by omega⟩
            go_wp2_with fail
            go_meet
            exact ⟨m4, x / 100, rfl, rfl, by omega, by omega, by omega, B1, O1⟩
          · have z2 : decide ((2 : Int) ≤ (m : Int)) = false := decide_eq_false (by omega)
            go_wp2_with fail
            go_meet
            exact ⟨m, x, rfl, rfl, hm, x0, x1, B0, O0⟩
        case rest =>
          clear x0 x1 hm B0 O0
          obtain ⟨m, x, rfl, rfl, hm, x0, x1, B0, O0⟩ := hcut
          generalize wc = w0 at *
          by_cases h0 : 0 < m
          · have z0 : decide ((0 : Int) < (m : Int)) = true := decide_eq_true (by omega)
            obtain ⟨z1, c1, -⟩ := B0.out.cell (j := off) (by omega)
            have f1 := B0.out.free off
            have hn0 : 0 < n ∧ (0 : Int) < n := by omega
            have ub := fun z : Int => (by rw [IntKind.wrap_u8]; omega : 0 ≤ IntKind.u8.wrap z ∧ IntKind.u8.wrap z < 256)
            go_wp2_with fail
            refine bodyPost_end (v := .tuple #[]) (results_none (by kernel_rfl) _ _ _) rfl ?_
            exact ⟨rfl, B0.out.put off _ (ub _), O0.out.setCell ⟨g, off, none⟩ (.inl (by simp)) _⟩
          · have z0 : decide ((0 : Int) < (m : Int)) = false := decide_eq_false (by omega)
            go_wp2_with fail
            refine bodyPost_end (v := .tuple #[]) (results_none (by kernel_rfl) _ _ _) rfl ?_
            exact ⟨rfl, B0.out, O0.out⟩
end Go.Proofs.YtbhdpfacfgldiaaGreatDoor
