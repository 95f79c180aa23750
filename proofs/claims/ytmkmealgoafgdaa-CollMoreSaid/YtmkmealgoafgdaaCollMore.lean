import Derived.Test.YtmkmealgoafgdaaCollAwake
import Derived.Test.YtmkmealgoafgdaaCollTame
import Derived.Test.YtmkmealgoafgdaaHalfRow
import Derived.Test.YtmkmealgoafgdaaMinTwo
import Derived.Lib.MinMax
/- CollMore answers true. -/
namespace Go.Proofs.Ytmkmealgoafgdaa
open Go Go.RowKit
set_option linter.unusedVariables false
set_option linter.unusedSimpArgs false
set_option maxRecDepth 20000
set_option maxHeartbeats 8000000

def absI (z : Int) : Int := max z (-z)
theorem own_putI {w : World} {B0 n c g : Nat} {zs : List Int} (h : w.ownsRow B0 2 1 (.slice (some ⟨g, 0, none⟩) n c) n (i64s zs)) (k : Nat) (v : Int) :
    (w.setCell ⟨g, k, none⟩ (.int .i64 v)).ownsRow B0 2 1 (.slice (some ⟨g, 0, none⟩) n c) n (i64s (zs.set k v)) := by
  have h1 := (h.stored k (.int .i64 v)).1
  unfold i64s at h1 ⊢
  rwa [List.map_set]
theorem own_cellI {w : World} {B0 n c g : Nat} {zs : List Int} (h : w.ownsRow B0 2 1 (.slice (some ⟨g, 0, none⟩) n c) n (i64s zs)) {k : Nat} (hk : k < zs.length) : w.cell? ⟨g, k, none⟩ = some (.int .i64 zs[k]) := by
  have e : (i64s zs).length = zs.length := by simp [i64s]
  rw [h.cellAt k (by have := h.1; omega), List.getElem?_eq_getElem (by omega)]
  simp [i64s]
theorem own_lenI {w : World} {B0 n c : Nat} {A : Option Addr} {zs : List Int} (h : w.ownsRow B0 2 1 (.slice A n c) n (i64s zs)) : zs.length = n := by
  have := h.1
  simp [i64s] at this
  omega
theorem collMore_any (l : List Int) (A : Option Addr) (c : Nat) (inner more : Int) (W : World) (hR : Row W W.heap.size A (i64s l)) (hl : l.length ≤ 9223372036854775807) :
    Calls Try.prog 4 #[.slice A l.length c, .int .i64 inner, .int .i64 more] W fun e w' => e = .returned (.bool true) ∧ Below W.heap.size W w' := by
  have HA := Lib.hid (fun w => cawake_any w)
  have T := Lib.hid (ctame_any l 1000 (by decide) (by decide) A c W hR hl)
  clear hR
  have TB := tameC_bd 1000 (by decide) l
  have TL := tameC_len 1000 l
  obtain ⟨t, ht⟩ : ∃ t, tameC 1000 l = t := ⟨_, rfl⟩
  have HT := Lib.hid ht
  rw [ht] at TB TL
  have TL6 : t.length ≤ 60 := by omega
  have a1 : bits .and .i64 inner 4095 = inner % 4096 := and_mask_i64 inner 12 (by decide)
  have a2 : bits .and .i64 more 4095 = more % 4096 := and_mask_i64 more 12 (by decide)
  have m1 : 0 ≤ inner % 4096 ∧ inner % 4096 < 4096 := by omega
  have m2 : 0 ≤ more % 4096 ∧ more % 4096 < 4096 := by omega
  obtain ⟨u, hu⟩ : ∃ u, inner % 4096 = u := ⟨_, rfl⟩
  obtain ⟨v, hv⟩ : ∃ v, more % 4096 = v := ⟨_, rfl⟩
  rw [hu] at a1 m1
  rw [hv] at a2 m2
  have AL : ∀ z ∈ t.map absI, 0 ≤ z ∧ z < 1000 := fun z hz => by
    obtain ⟨y, hy, rfl⟩ := List.mem_map.1 hz
    have := TB y hy
    unfold absI; omega
  have AI : ∀ z ∈ t.map absI, I64 z := fun z hz => by have := AL z hz; unfold I64; omega
  have HTB := Lib.hid TB
  have L1 := Lib.hid (fun (A : Option Addr) (c : Nat) (hc : (t.map absI).length ≤ c) w (hR : Row w w.heap.size A (i64s (t.map absI))) => lines_any (t.map absI) (by simp; omega) AI u (by unfold I64; omega) true A c hc w hR)
  have L2 := Lib.hid (fun (A : Option Addr) (c : Nat) (hc : (t.map absI).length ≤ c) w (hR : Row w w.heap.size A (i64s (t.map absI))) => lines_any (t.map absI) (by simp; omega) AI (u + v) (by unfold I64; omega) true A c hc w hR)
  have FW := Lib.hid (linesZ_fewer (show u ≤ u + v by omega) (t.map absI) (fun z hz => (AL z hz).1))
  have PS := Lib.hid (fun h : 0 < t.length => linesZ_pos (u + v) true (t.map absI) (by simpa using h))
  clear AL AI ht TB TL hl
  go_enter Try.func4, Try.ntmps4
  go_wp2_with fail
  refine T.out.mono ?_
  rintro e w1 ⟨A1, c1, rfl, o1, hb1⟩
  rw [HT.out] at o1 ⊢
  have hcap := own_cap o1
  have O1 := Lib.hid o1
  have B1 := Lib.hid hb1
  clear o1 hb1 T HT
  go_upto_region 2 with fail
  try rw [a1, a2]
  clear a1 a2 hu hv
  go_wp2_with fail
  go_loopw [7] (fun v7 wr => ∃ k : Nat, v7 = .int .i64 k ∧ k ≤ t.length ∧ Hid (wr.ownsRow W.heap.size 2 1 (.slice A1 t.length c1) t.length (i64s (hfL absI t k))) ∧ Hid (Below W.heap.size W wr)) (fun v7 _ => t.length - (intOf v7).toNat)
  case atStart => exact ⟨0, rfl, Nat.zero_le _, Lib.hid (by rw [hfL_zero]; exact O1.out), B1⟩
  case round =>
    clear O1 B1
    obtain ⟨k, rfl, hk, O, B⟩ := hrel
    by_cases hlt : k < t.length
    · have hltz : (k : Int) < t.length := by omega
      obtain ⟨g, rfl⟩ := own_head O.out (by omega)
      have hh : k < (hfL absI t k).length := by rw [hfL_len absI t k hk]; exact hlt
      have ck := own_cellI O.out hh
      rw [hfL_get absI t k hlt hh] at ck
      have fk := O.out.frozenAt k
      have hgl := (O.out.lt g rfl).1
      have HS := hfL_set absI t k hlt
      have TBk := HTB.out _ (List.getElem_mem hlt)
      obtain ⟨z, hz⟩ : ∃ z, t[k] = z := ⟨_, rfl⟩
      rw [hz] at ck HS TBk
      have O2 := Lib.hid (own_putI O.out k (absI z))
      rw [HS] at O2
      have B2 := Lib.hid (B.out.setCell (p := ⟨g, k, none⟩) hgl (.int .i64 (absI z)))
      have hneg : -9223372036854775808 ≤ -z ∧ -z ≤ 9223372036854775807 := by omega
      have hmx : max z (-z) = absI z := rfl
      clear O B HS hz
      go_wp2_with fail
      go_region
      all_goals go_wp2
      go_roundw
      case rel => first
        | exact ⟨k + 1, by go_num, by omega, O2, B2⟩
        | exact ⟨k + 1, by go_num, by omega, Lib.hid (own_drewN O2.out 1), Lib.hid (Below.drewN' B2.out 1)⟩
      case measure => simp [intOf] <;> omega
    · obtain rfl : k = t.length := by omega
      have hml : (t.map absI).length = t.length := by simp
      rw [hfL_all] at O
      have R0 := Lib.hid ((row_of_own O.out))
      have hsr := B.out.size
      clear O
      obtain ⟨n, hn⟩ : ∃ n, t.length = n := ⟨_, rfl⟩
      have HN := Lib.hid hn
      rw [hn] at hcap TL6 PS hml ⊢
      clear hn
      have M1 := Lib.hid (L1.out A1 c1 (by omega) wr R0.out)
      rw [hml] at M1
      go_wp2_with fail
      refine M1.out.mono ?_
      rintro e w2 ⟨A2, c2, rfl, o2, hb2⟩
      have B2 := Lib.hid (B.out.trans (hb2.mono hsr))
      have R2 := Lib.hid ((R0.out.below hb2).more hb2.size)
      have hs2 := B2.out.size
      have M2 := Lib.hid (L2.out A1 c1 (by omega) w2 R2.out)
      rw [hml] at M2
      clear o2 hb2 M1 L1 L2 B R0
      go_wp2_with fail
      refine M2.out.mono ?_
      rintro e w3 ⟨A3, c3, rfl, o3, hb3⟩
      have B3 := Lib.hid (B2.out.trans (hb3.mono hs2))
      have hs3 := B3.out.size
      clear o3 hb3 M2 R2 B2
      obtain ⟨p, hp⟩ : ∃ p, (linesZ u true (t.map absI) 0).length = p := ⟨_, rfl⟩
      obtain ⟨q, hq⟩ : ∃ q, (linesZ (u + v) true (t.map absI) 0).length = q := ⟨_, rfl⟩
      rw [hp, hq] at FW
      rw [hq] at PS
      rw [hp, hq]
      have fz : (q : Int) ≤ (p : Int) := by have := FW.out; omega
      by_cases h0 : n = 0
      · subst h0
        go_wp2_with fail
        refine (HA.out _).mono ?_
        rintro e w6 ⟨rfl, hb6⟩
        have B9 := Lib.hid (B3.out.trans (hb6.mono hs3))
        clear hb6 B3
        go_wp2_with fail
        go_ret
        exact ⟨rfl, B9.out⟩
      · have hnz : ((n : Int) == 0) = false := by rw [beq_eq_false_iff_ne]; omega
        have hqz : (q : Int) > 0 := by have := PS.out (by omega); omega
        go_wp2_with fail
        refine (HA.out _).mono ?_
        rintro e w6 ⟨rfl, hb6⟩
        have B9 := Lib.hid (B3.out.trans (hb6.mono hs3))
        clear hb6 B3
        go_wp2_with fail
        go_ret
        exact ⟨rfl, B9.out⟩
end Go.Proofs.Ytmkmealgoafgdaa
