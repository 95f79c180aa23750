import Derived.Test.YtodnplllkpgfaaaFreeMoreQ
import Derived.Test.YtodnplllkpgfaaaFreeBasesQ
import Derived.BigRegion
/- FreeParts: without bounds growing items have their base and their part; shrinking ones lose by factor and base; all of it comes to the room. -/
namespace Go.Proofs.Ytodnplllkpgfaaa
open Go Go.RowKit
set_option linter.unusedVariables false
set_option linter.unusedSimpArgs false
set_option maxRecDepth 20000
set_option maxHeartbeats 8000000

structure Pa (x : Fx) : Prop where
  b0 : 0 ≤ x.base
  b1 : x.base ≤ 4095
  mn : x.mn = 0
  mx : x.mx = -1
  g0 : 1 ≤ x.grow
  g1 : x.grow ≤ 8
  s0 : 1 ≤ x.shrink
  s1 : x.shrink ≤ 8
  a0 : 0 ≤ x.around
  a1 : x.around ≤ 15
theorem Pa.ok {x : Fx} (h : Pa x) : FxOk x := by
  obtain ⟨h1, h2, h3, h4, h5, h6, h7, h8, h9, h10⟩ := h
  constructor <;> omega
theorem Pa.free {x : Fx} (h : Pa x) : Free1 x := ⟨by rw [h.mx]; decide, h.mn, h.b0⟩
def paF (z : Int) : Fx := ⟨z % 4096, 0, -1, z / 4096 % 8 + 1, z / 65536 % 8 + 1, z / 1048576 % 16⟩
theorem paF_ok (z : Int) : Pa (paF z) := by constructor <;> simp only [paF] <;> omega
def bsZ (l : List Fx) : Int := (l.map (fun x => x.around + x.base)).sum
def grZ (l : List Fx) : Int := (l.map Fx.grow).sum
def wtZ (l : List Fx) : Int := (l.map (fun x => x.base * x.shrink)).sum
def sumPA (P : List Int) (L : List Fx) (i : Nat) : Int := (P.take i).sum + ((L.take i).map Fx.around).sum
theorem sumPA_take (P : List Int) (L : List Fx) (i : Nat) (h : i < P.length) (h' : i < L.length) : sumPA P L (i + 1) = sumPA P L i + P[i] + L[i].around := by
  unfold sumPA
  rw [List.take_succ_eq_append_getElem h, List.take_succ_eq_append_getElem h', List.map_append, List.sum_append, List.sum_append]
  simp; omega
theorem bsZ_add (l : List Fx) (x : Fx) : bsZ (l ++ [x]) = bsZ l + x.base + x.around := by
  unfold bsZ; rw [List.map_append, List.sum_append]; simp; omega
theorem grZ_add (l : List Fx) (x : Fx) : grZ (l ++ [x]) = grZ l + x.grow := by
  unfold grZ; rw [List.map_append, List.sum_append]; simp
theorem wtZ_add (l : List Fx) (x : Fx) : wtZ (l ++ [x]) = wtZ l + x.base * x.shrink := by
  unfold wtZ; rw [List.map_append, List.sum_append]; simp
theorem mul_bd {a b A B : Int} (ha : 0 ≤ a) (hA : a ≤ A) (hb : 0 ≤ b) (hB : b ≤ B) : 0 ≤ a * b ∧ a * b ≤ A * B := ⟨Int.mul_nonneg ha hb, Int.mul_le_mul hA hB hb (by omega)⟩
theorem paZ_bd {l : List Fx} (h : ∀ x ∈ l, Pa x) (hl : l.length ≤ 10) : (0 ≤ bsZ l ∧ bsZ l ≤ 41100) ∧ (0 ≤ grZ l ∧ grZ l ≤ 80) ∧ (0 ≤ wtZ l ∧ wtZ l ≤ 327600) := by
  have b1 := sum_lo_by (f := fun x : Fx => x.around + x.base) (c := 0) l fun x hx => by have := (h x hx).b0; have := (h x hx).a0; omega
  have b2 := sum_hi_by (f := fun x : Fx => x.around + x.base) (c := 4110) l fun x hx => by have := (h x hx).b1; have := (h x hx).a1; omega
  have g1 := sum_lo_by (f := Fx.grow) (c := 0) l fun x hx => by have := (h x hx).g0; omega
  have g2 := sum_hi_by (f := Fx.grow) (c := 8) l fun x hx => (h x hx).g1
  have w1 := sum_lo_by (f := fun x : Fx => x.base * x.shrink) (c := 0) l fun x hx => by have := mul_bd (h x hx).b0 (h x hx).b1 (show 0 ≤ x.shrink by have := (h x hx).s0; omega) (h x hx).s1; omega
  have w2 := sum_hi_by (f := fun x : Fx => x.base * x.shrink) (c := 32760) l fun x hx => by have := mul_bd (h x hx).b0 (h x hx).b1 (show 0 ≤ x.shrink by have := (h x hx).s0; omega) (h x hx).s1; omega
  unfold bsZ grZ wtZ
  omega
theorem pa_grows {t : Int} {L : List Fx} (hx : ∀ x ∈ L, Pa x) : growsF t L = decide (bsZ L < t) := by
  unfold growsF bsZ
  rw [show (L.map (fun x => hypF x + x.around)).sum = (L.map (fun x => x.around + x.base)).sum from sum_eq_by L fun x h => by rw [(hx x h).free.hyp]; omega]
theorem sumPA_all {P : List Int} {L : List Fx} {k : Nat} (hp : P.length = k) (hl : L.length = k) : sumPA P L k = P.sum + (L.map Fx.around).sum := by
  unfold sumPA; rw [List.take_of_length_le (by omega), List.take_of_length_le (by omega)]
theorem sum_i_lo {c : Int} (l : List Int) (h : ∀ z ∈ l, -c ≤ z) : -(c * (l.length : Int)) ≤ l.sum := by
  have := sum_lo_by (f := fun z : Int => z) (c := c) l h
  simpa using this
theorem sum_i_hi {c : Int} (l : List Int) (h : ∀ z ∈ l, z ≤ c) : l.sum ≤ c * (l.length : Int) := by
  have := sum_hi_by (f := fun z : Int => z) (c := c) l h
  simpa using this
theorem sumPA_bd {P : List Int} {L : List Fx} (hP : ∀ z ∈ P, 0 ≤ z ∧ z ≤ 54043195528445952) (hx : ∀ x ∈ L, Pa x) (hl : L.length ≤ 10) (hp : P.length ≤ 10) (i : Nat) : 0 ≤ sumPA P L i ∧ sumPA P L i ≤ 540431955284460000 := by
  have p1 := sum_i_lo (c := 0) (P.take i) fun z hz => by have := (hP z (List.mem_of_mem_take hz)).1; omega
  have p2 := sum_i_hi (c := 54043195528445952) (P.take i) fun z hz => (hP z (List.mem_of_mem_take hz)).2
  have a1 := sum_lo_by (f := Fx.around) (c := 0) (L.take i) fun x h => (hx x (List.mem_of_mem_take h)).a0
  have a2 := sum_hi_by (f := Fx.around) (c := 15) (L.take i) fun x h => (hx x (List.mem_of_mem_take h)).a1
  rw [List.length_take] at p1 p2 a1 a2
  unfold sumPA
  omega
theorem fparts_any (zs : List Int) (hl : zs.length ≤ 9223372036854775807) (A : Option Addr) (c : Nat) (inner : Int) (W : World) (hR : Row W W.heap.size A (i64s zs)) :
    Calls Try.prog 3 #[.slice A zs.length c, .int .i64 inner] W fun e w' => e = .returned (.bool true) ∧ Below W.heap.size W w' := by
  have HR := Lib.hid hR
  clear hR
  have AW := Lib.hid (fun w => fawake_any w)
  have k12 : ∀ x : Int, bits .and .i64 x 4095 = x % 4096 := fun x => and_mask_i64 x 12 (by decide)
  have k16 : ∀ x : Int, bits .and .i64 x 65535 = x % 65536 := fun x => and_mask_i64 x 16 (by decide)
  have k4 : ∀ x : Int, bits .and .i64 x 15 = x % 16 := fun x => and_mask_i64 x 4 (by decide)
  have k3 : ∀ x : Int, bits .and .i64 x 7 = x % 8 := fun x => and_mask_i64 x 3 (by decide)
  go_enter Try.func3, Try.ntmps3
  go_wp2_with fail
  go_loopw [5, 6, 7, 8, 9] (fun v5 v6 v7 v8 v9 wr => ∃ (k : Nat) (A' : Option Addr) (c' : Nat), v5 = .slice A' k c' ∧ v6 = .int .i64 (bsZ ((zs.take k).map paF)) ∧ v7 = .int .i64 (grZ ((zs.take k).map paF)) ∧ v8 = .int .i64 (wtZ ((zs.take k).map paF)) ∧ v9 = .int .i64 k ∧ k ≤ zs.length ∧ k ≤ 10 ∧ Hid (wr.ownsRow W.heap.size 26 6 (.slice A' k c') k (((zs.take k).map paF).flatMap fxC)) ∧ Hid (Below W.heap.size W wr)) (fun _ _ _ _ v9 _ => zs.length - (intOf v9).toNat)
  case atStart => exact ⟨0, none, 0, rfl, rfl, rfl, rfl, rfl, Nat.zero_le _, by omega, Lib.hid ⟨rfl, .inl ⟨rfl, rfl⟩⟩, Lib.hid (Below.refl _ _)⟩
  case round =>
    obtain ⟨k, A', c', rfl, rfl, rfl, rfl, rfl, hk, hk2, O, B⟩ := hrel
    have hpa : ∀ x ∈ (zs.take k).map paF, Pa x := fun x hx => by obtain ⟨z, -, rfl⟩ := List.mem_map.1 hx; exact paF_ok z
    have hbd := paZ_bd hpa (by rw [List.length_map, List.length_take]; omega)
    by_cases hlt : k < zs.length ∧ k < 10
    · have hki : (k : Int) < zs.length := by omega
      have hkj : (k : Int) < 10 := by omega
      have z1 : decide ((k : Int) < zs.length) = true := decide_eq_true hki
      have z2 : decide ((k : Int) < 10) = true := decide_eq_true hkj
      obtain ⟨ad, rfl, hb, d0⟩ := (HR.out.below B.out).int hlt.1
      have E0 : (zs.take (k + 1)).map paF = (zs.take k).map paF ++ [paF zs[k]] := by
        rw [List.take_succ_eq_append_getElem hlt.1, List.map_append]; rfl
      have HE := Lib.hid E0
      clear E0
      obtain ⟨z, hz⟩ : ∃ z, zs[k] = z := ⟨_, rfl⟩
      rw [hz] at d0 HE
      clear hz
      obtain ⟨T, hT⟩ : ∃ T, (zs.take k).map paF = T := ⟨_, rfl⟩
      rw [hT] at O HE hbd ⊢
      have HX := Lib.hid (paF_ok z)
      have E1 := Lib.hid (bsZ_add T (paF z))
      have E2 := Lib.hid (grZ_add T (paF z))
      have E3 := Lib.hid (wtZ_add T (paF z))
      obtain ⟨s, hs⟩ : ∃ s, bsZ T = s := ⟨_, rfl⟩
      obtain ⟨g, hg⟩ : ∃ g, grZ T = g := ⟨_, rfl⟩
      obtain ⟨b, hwb⟩ : ∃ b, wtZ T = b := ⟨_, rfl⟩
      rw [hs] at E1 hbd ⊢
      rw [hg] at E2 hbd ⊢
      rw [hwb] at E3 hbd ⊢
      clear hs hg hwb hT hpa
      generalize wr = w1 at *
      have dA : ∀ o, (w1.alloc o).cell? (ad.add k) = some (.int .i64 z) := fun o => (World.cell?_alloc_lt w1 o (ad.add k) (by have := B.out.size; rw [add_block]; omega)).trans d0
      have NB : Hid (∀ g, (Value.slice A' k c').ownBlock = some g → g ≠ w1.heap.size) := Lib.hid (fun g hg => by have := owns_lt O.out hg; omega)
      have hbs := B.out.size
      go_upto_region 6 with fail
      go_region
      have PX : paF z = ⟨z % 4096, 0, -1, z / 4096 % 8 + 1, z / 65536 % 8 + 1, z / 1048576 % 16⟩ := rfl
      obtain ⟨x, hx⟩ : ∃ x : Fx, x = ⟨z % 4096, 0, -1, z / 4096 % 8 + 1, z / 65536 % 8 + 1, z / 1048576 % 16⟩ := ⟨_, rfl⟩
      rw [PX, ← hx] at HX E1 E2 E3 HE
      have q0 : z % 4096 = x.base := by rw [hx]
      have q1 : z / 4096 % 8 + 1 = x.grow := by rw [hx]
      have q2 : z / 65536 % 8 + 1 = x.shrink := by rw [hx]
      have q3 : z / 1048576 % 16 = x.around := by rw [hx]
      obtain ⟨w2, hw2, hX, hO, hB⟩ : ∃ w2, w2 = (w1.alloc (.cells #[.int .i64 (z % 4096), .int .i64 0, .int .i64 (-1), .int .i64 (z / 4096 % 8 + 1), .int .i64 (z / 65536 % 8 + 1), .int .i64 (z / 1048576 % 16)] 26)).drew ∧
          Whole w2 w1.heap.size 26 [.int .i64 x.base, .int .i64 0, .int .i64 (-1), .int .i64 x.grow, .int .i64 x.shrink, .int .i64 x.around] ∧ w2.ownsRow W.heap.size 26 6 (.slice A' k c') k (T.flatMap fxC) ∧ Below W.heap.size W w2 := by
        refine ⟨_, rfl, ?_, ?_, ?_⟩
        · rw [← q0, ← q1, ← q2, ← q3]
          exact (Whole.mk w1 26 _).drawn 1
        · exact own_below O.out (Below.drewN' ((Below.refl _ w1).alloc (Nat.le_refl _) _) 1) (Nat.le_refl _)
        · exact Below.drewN' (B.out.alloc B.out.size _) 1
      rw [← hw2]
      have X2 := Lib.hid hX
      have O2 := Lib.hid hO
      have B2 := Lib.hid hB
      obtain ⟨gg, hgg⟩ : ∃ g, w1.heap.size = g := ⟨_, rfl⟩
      rw [hgg] at X2 NB hbs ⊢
      rw [q0, q1, q2, q3]
      clear hX hO hB hw2 O B d0 dA PX hx q0 q1 q2 q3 hgg
      have n0 : (Value.slice A' k c').ownBlock ≠ some gg := fun e => NB.out gg e rfl
      have N0 := Lib.hid n0
      have hx := HX.out
      have h1 := hx.b0
      have h2 := hx.b1
      have h3 := hx.a0
      have h4 := hx.a1
      have h5 := hx.g0
      have h6 := hx.g1
      have h7 := hx.s0
      have h8 := hx.s1
      obtain ⟨m1, m2⟩ := mul_bd (a := x.base) (b := x.shrink) (A := 4095) (B := 8) h1 h2 (by omega) h8
      have FX : Hid (fxC x = [.int .i64 x.base, .int .i64 0, .int .i64 (-1), .int .i64 x.grow, .int .i64 x.shrink, .int .i64 x.around]) := Lib.hid (by unfold fxC; rw [hx.mn, hx.mx])
      clear hx n0
      have x0 := X2.out.cell 0
      have x1 := X2.out.cell 1
      have x2 := X2.out.cell 2
      have x3 := X2.out.cell 3
      have x4 := X2.out.cell 4
      have x5 := X2.out.cell 5
      simp only [List.getElem?_cons_zero, List.getElem?_cons_succ] at x0 x1 x2 x3 x4 x5
      have lt2 := X2.out.size
      have O5 := Lib.hid (own_below O2.out ((Below.refl _ w2).alloc (Nat.le_refl _) (.cells #[.int .i64 x.base, .int .i64 0, .int .i64 (-1), .int .i64 x.grow, .int .i64 x.shrink, .int .i64 x.around] 26)) (Nat.le_refl _))
      have B5 := Lib.hid (B2.out.alloc B2.out.size (.cells #[.int .i64 x.base, .int .i64 0, .int .i64 (-1), .int .i64 x.grow, .int .i64 x.shrink, .int .i64 x.around] 26))
      have X5 := Lib.hid (X2.out.made (.cells #[.int .i64 x.base, .int .i64 0, .int .i64 (-1), .int .i64 x.grow, .int .i64 x.shrink, .int .i64 x.around] 26))
      have W5 := Lib.hid (Whole.mk w2 26 #[.int .i64 x.base, .int .i64 0, .int .i64 (-1), .int .i64 x.grow, .int .i64 x.shrink, .int .i64 x.around])
      go_upto_region 8 with (at_builtin; refine wpList_pushOne rfl (.tmp 52) (.tmp 54) _ rfl W.heap.size 26 6 48 fxV0 Try.underlying23 fx_info rfl (by decide) k (.slice A' k c') _ rfl O5.out B5.out.size w2.heap.size [.int .i64 x.base, .int .i64 0, .int .i64 (-1), .int .i64 x.grow, .int .i64 x.shrink, .int .i64 x.around] rfl W5.out rfl (by simp [Value.oneCell']) (by unfold maxLen; omega) (by omega) ?_; intro A6 c6 w7 h5 ho5 hk5)
      have O7 : Hid (w7.ownsRow W.heap.size 26 6 (.slice A6 (k + 1) c6) (k + 1) ((T ++ [x]).flatMap fxC)) := Lib.hid (by
        rw [List.flatMap_append, List.flatMap_singleton, FX.out]; exact h5)
      have B7 := Lib.hid (own_push O5.out B5.out B5.out.size ho5)
      have X7 := ho5.whole X5.out (by intro h; exact N0.out (by simpa using h))
      clear h5 ho5 hk5 O5 B5 W5 x0 x1 x2 x3 x4 x5 X5 X2 O2 B2 lt2
      have x0 := X7.cell 0
      have x3 := X7.cell 3
      have x4 := X7.cell 4
      have x5 := X7.cell 5
      simp only [List.getElem?_cons_zero, List.getElem?_cons_succ] at x0 x3 x4 x5
      have c0 : ∀ q, (w7.drewN q).cell? ⟨gg, 0, none⟩ = some (.int .i64 x.base) := fun q => x0
      have c3 : ∀ q, (w7.drewN q).cell? ⟨gg, 3, none⟩ = some (.int .i64 x.grow) := fun q => x3
      have c4 : ∀ q, (w7.drewN q).cell? ⟨gg, 4, none⟩ = some (.int .i64 x.shrink) := fun q => x4
      have c5 : ∀ q, (w7.drewN q).cell? ⟨gg, 5, none⟩ = some (.int .i64 x.around) := fun q => x5
      have n1 : -9223372036854775808 ≤ s + x.base ∧ s + x.base ≤ 9223372036854775807 := by omega
      have n2 : -9223372036854775808 ≤ s + x.base + x.around ∧ s + x.base + x.around ≤ 9223372036854775807 := by omega
      have n3 : -9223372036854775808 ≤ g + x.grow ∧ g + x.grow ≤ 9223372036854775807 := by omega
      have n4 : -9223372036854775808 ≤ x.base * x.shrink ∧ x.base * x.shrink ≤ 9223372036854775807 := by omega
      have n5 : -9223372036854775808 ≤ b + x.base * x.shrink ∧ b + x.base * x.shrink ≤ 9223372036854775807 := by omega
      clear X7 x0 x3 x4 x5
      go_quiet (fail)
      have B8 := Lib.hid (Below.drewN' B7.out nq)
      have O8 : Hid ((w7.drewN nq).ownsRow W.heap.size 26 6 (.slice A6 (k + 1) c6) (k + 1) ((T ++ [x]).flatMap fxC)) := Lib.hid (own_below O7.out (Below.drewN' (Below.refl _ _) nq) (Nat.le_refl _))
      clear O7 B7 c0 c3 c4 c5
      generalize w7.drewN nq = w8 at *
      go_wp2_with fail
      go_roundw
      case rel => exact ⟨k + 1, A6, c6, by go_num, by rw [HE.out, E1.out], by rw [HE.out, E2.out], by rw [HE.out, E3.out], by go_num, by omega, by omega, Lib.hid (by rw [HE.out]; exact O8.out), B8⟩
      case measure => simp [intOf] <;> omega
    · have z1 : decide ((k : Int) < zs.length) = false ∨ decide ((k : Int) < zs.length) = true ∧ decide ((k : Int) < 10) = false := by
        by_cases h1 : k < zs.length
        · exact .inr ⟨decide_eq_true (by omega), decide_eq_false (by omega)⟩
        · exact .inl (decide_eq_false (by omega))
      have Z1 := Lib.hid z1
      have i0 := Int.emod_nonneg inner (show (65536 : Int) ≠ 0 by decide)
      have i1 := Int.emod_lt_of_pos inner (show (0 : Int) < 65536 by decide)
      obtain ⟨t, ht⟩ : ∃ t, inner % 65536 = t := ⟨_, rfl⟩
      rw [ht] at i0 i1
      obtain ⟨L, hL⟩ : ∃ L, (zs.take k).map paF = L := ⟨_, rfl⟩
      have hLk : L.length = k := by rw [← hL, List.length_map, List.length_take]; omega
      rw [hL] at O hpa hbd ⊢
      have hx : ∀ x ∈ L, FxOk x ∧ Free1 x ∧ 0 < x.grow := fun x h => ⟨(hpa x h).ok, (hpa x h).free, by have := (hpa x h).g0; omega⟩
      have hx2 : ∀ x ∈ L, FxOk x ∧ Free1 x ∧ 0 < x.shrink := fun x h => ⟨(hpa x h).ok, (hpa x h).free, by have := (hpa x h).s0; omega⟩
      have hok : ∀ x ∈ L, FxOk x := fun x h => (hpa x h).ok
      have ra : InRoom t := ⟨by omega, by omega⟩
      have rb : InRoom (bsZ L) := ⟨by omega, by omega⟩
      have hgr := pa_grows (t := t) hpa
      have gp : ∀ (i : Nat) (h : i < L.length) (h' : i < (sizesF t L).length), bsZ L < t → (t - bsZ L) * L[i].grow - grZ L ≤ ((sizesF t L)[i] - L[i].base) * grZ L ∧ ((sizesF t L)[i] - L[i].base) * grZ L ≤ (t - bsZ L) * L[i].grow + grZ L := fun i h h' hg =>
        (grow_parts (by rw [hgr]; exact decide_eq_true hg) hx (by omega) ra).1 i h h'
      have la : (sizesF t L).length = k := by rw [sizesF_len]; exact hLk
      have tg : bsZ L < t → 0 < k → sumPA (sizesF t L) L k = t := fun hg h0 => by
        rw [sumPA_all la hLk]
        exact (grow_parts (by rw [hgr]; exact decide_eq_true hg) hx (by omega) ra).2 (by intro e; rw [e] at hLk; simp at hLk; omega)
      have ts : ¬ bsZ L < t → t ≤ sumPA (sizesF t L) L k := fun hg => by
        rw [sumPA_all la hLk]
        exact shrink_sum hok (by omega) ra (by rw [hgr]; exact decide_eq_false hg)
      have sb := sizes_bd ra hok (by omega)
      have SP := Lib.hid (sumPA_bd (P := sizesF t L) sb hpa (by omega) (by omega))
      have SA := Lib.hid sb
      have ea := res_yes ra hok (by omega)
      have eb : resF (bsZ L) L = L.map Fx.base := by rw [res_yes rb hok (by omega)]; exact fit_sizes hx2 (by omega) rb
      have FA := Lib.hid (fun (w : World) (h : Row w w.heap.size A' (L.flatMap fxC)) => (fres_any L A' c' t w h (by omega)).mono fun e w' hp => res_row hp ea la)
      have FB := Lib.hid (fun (w : World) (h : Row w w.heap.size A' (L.flatMap fxC)) => (fres_any L A' c' (bsZ L) w h (by omega)).mono fun e w' hp => res_row hp eb (show _ = k by rw [List.length_map]; exact hLk))
      have BS := Lib.hid (fun (w : World) (h : Row w w.heap.size A' (L.flatMap fxC)) => bases_any L A' c' w h (by omega))
      rw [hLk] at FA FB BS
      have GP := Lib.hid gp
      have TG := Lib.hid tg
      have TS := Lib.hid ts
      have HL := Lib.hid hLk
      have HX := Lib.hid hpa
      have HA := Lib.hid ht
      have RO := Lib.hid (row_of_own O.out)
      clear z1 hL hLk hx hx2 hok ra rb hgr gp tg ts sb ea eb hpa ht O
      obtain ⟨P, hP⟩ : ∃ P, sizesF t L = P := ⟨_, rfl⟩
      rw [hP] at GP TG TS SP SA la FA
      have LP := Lib.hid la
      clear hP la
      obtain ⟨S, hS⟩ : ∃ S, bsZ L = S := ⟨_, rfl⟩
      obtain ⟨G, hG⟩ : ∃ G, grZ L = G := ⟨_, rfl⟩
      obtain ⟨WT, hWT⟩ : ∃ B, wtZ L = B := ⟨_, rfl⟩
      rw [hS] at GP TG TS hbd FB ⊢
      rw [hG] at GP hbd ⊢
      rw [hWT] at hbd ⊢
      clear hS hG hWT
      rcases Z1.out with z1 | ⟨z1, z2⟩
      · have hki : ¬ (k : Int) < zs.length := of_decide_eq_false z1
        go_upto_region 10 with fail
        rw [HA.out]
        clear k12 k16 k4 k3
        go_wp2_with fail
        refine (FA.out _ RO.out).mono ?_
        rintro e w1 ⟨A1, c1, rfl, r1, hb1⟩
        have R1 := Lib.hid r1
        have RO1 := Lib.hid ((RO.out.below hb1).more hb1.size)
        have B1 := Lib.hid (B.out.trans (hb1.mono B.out.size))
        clear r1 hb1 FA RO B
        go_wp2_with fail
        go_loopw [12, 13] (fun v12 v13 wr => ∃ i : Nat, v12 = .int .i64 (sumPA P L i) ∧ v13 = .int .i64 i ∧ i ≤ k ∧ Hid (Below w1.heap.size w1 wr)) (fun _ v13 _ => k - (intOf v13).toNat)
        case atStart => exact ⟨0, rfl, rfl, Nat.zero_le _, Lib.hid (Below.refl _ _)⟩
        case round =>
          generalize wr = w2 at *
          obtain ⟨i, rfl, rfl, hi, B2⟩ := hrel
          by_cases hlt2 : i < k
          · have hltz : (i : Int) < k := by omega
            have hp : i < P.length := by rw [LP.out]; exact hlt2
            have hq : i < L.length := by rw [HL.out]; exact hlt2
            obtain ⟨a1, rfl, hab1, dp⟩ := (R1.out.below B2.out).int hp
            obtain ⟨a2, rfl, hab2, d0, d1, d2, d3, d4, d5⟩ := Row.flex (RO1.out.below B2.out) hq
            have hx := HX.out _ (List.getElem_mem hq)
            have hp1 := SA.out _ (List.getElem_mem hp)
            have gp := GP.out i hq hp
            have ES := Lib.hid (sumPA_take P L i hp hq)
            have hs := SP.out i
            obtain ⟨x, hxe⟩ : ∃ x, L[i] = x := ⟨_, rfl⟩
            obtain ⟨p, hpe⟩ : ∃ p, P[i] = p := ⟨_, rfl⟩
            rw [hxe] at d0 d1 d2 d3 d4 d5 hx gp ES
            rw [hpe] at dp hp1 gp ES
            clear hxe hpe
            obtain ⟨s, hse⟩ : ∃ s, sumPA P L i = s := ⟨_, rfl⟩
            rw [hse] at hs ES ⊢
            clear hse
            have h1 := hx.b0
            have h2 := hx.b1
            have h3 := hx.a0
            have h4 := hx.a1
            have h5 := hx.g0
            have h6 := hx.g1
            have n1 : -9223372036854775808 ≤ s + p ∧ s + p ≤ 9223372036854775807 := by omega
            have n2 : -9223372036854775808 ≤ s + p + x.around ∧ s + p + x.around ≤ 9223372036854775807 := by omega
            have n3 : -9223372036854775808 ≤ p - x.base ∧ p - x.base ≤ 9223372036854775807 := by omega
            have hbl : (a1.add i).block < w2.heap.size := by have := B2.out.size; rw [add_block]; omega
            have c0 : ∀ q, (w2.drewN q).cell? (a1.add i) = some (.int .i64 p) := fun q => dp
            have c5 : ∀ q, (w2.drewN q).cell? ⟨(a2.add (i * 6)).block, (a2.add (i * 6)).off + 5, none⟩ = some (.int .i64 x.around) := fun q => d5
            have D0 := Lib.hid dp
            have D1 := Lib.hid d0
            have D2 := Lib.hid d3
            clear hx d1 d2 d4
            go_upto_region 17 with fail
            go_quiet (fail)
            have B3 := Lib.hid (Below.drewN' B2.out nq)
            have e0 : (w2.drewN nq).cell? (a1.add i) = some (.int .i64 p) := D0.out
            have e1 : (w2.drewN nq).cell? (a2.add (i * 6)) = some (.int .i64 x.base) := D1.out
            have e2 : (w2.drewN nq).cell? ⟨(a2.add (i * 6)).block, (a2.add (i * 6)).off + 3, none⟩ = some (.int .i64 x.grow) := D2.out
            clear B2 c0 c5 D0 D1 D2 dp d0 d3 d5 hbl
            generalize w2.drewN nq = w3 at *
            by_cases hg : S < t
            · have zg : decide (S < t) = true := decide_eq_true hg
              obtain ⟨g1, g2⟩ := gp hg
              obtain ⟨m1, m2⟩ := mul_bd (a := t - S) (b := x.grow) (A := 65536) (B := 8) (by omega) (by omega) (by omega) h6
              have n4 : -9223372036854775808 ≤ t - S ∧ t - S ≤ 9223372036854775807 := by omega
              have n5 : -9223372036854775808 ≤ (t - S) * x.grow ∧ (t - S) * x.grow ≤ 9223372036854775807 := by omega
              have n6 : -9223372036854775808 ≤ (p - x.base) * G ∧ (p - x.base) * G ≤ 9223372036854775807 := by omega
              have n7 : -9223372036854775808 ≤ (t - S) * x.grow - G ∧ (t - S) * x.grow - G ≤ 9223372036854775807 := by omega
              have n8 : -9223372036854775808 ≤ (t - S) * x.grow + G ∧ (t - S) * x.grow + G ≤ 9223372036854775807 := by omega
              have y1 : decide ((p - x.base) * G < (t - S) * x.grow - G) = false := decide_eq_false (by omega)
              have y2 : decide ((p - x.base) * G > (t - S) * x.grow + G) = false := decide_eq_false (by omega)
              have y1p : ¬ (p - x.base) * G < (t - S) * x.grow - G := by omega
              have y2p : ¬ (p - x.base) * G > (t - S) * x.grow + G := by omega
              have c0 : ∀ q, (w3.drewN q).cell? (a1.add i) = some (.int .i64 p) := fun q => e0
              have c1 : ∀ q, (w3.drewN q).cell? (a2.add (i * 6)) = some (.int .i64 x.base) := fun q => e1
              have D2 := Lib.hid e2
              clear gp g1 g2 m1 m2
              go_upto_region 19 with fail
              go_quiet (fail)
              have B4 := Lib.hid (Below.drewN' B3.out nq)
              have e3 : (w3.drewN nq).cell? ⟨(a2.add (i * 6)).block, (a2.add (i * 6)).off + 3, none⟩ = some (.int .i64 x.grow) := D2.out
              clear B3 c0 c1 D2 e0 e1 e2
              generalize w3.drewN nq = w4 at *
              go_wp2_with fail
              go_roundw
              case rel => exact ⟨i + 1, by rw [ES.out], by go_num, by omega, B4⟩
              case measure => simp [intOf] <;> omega
            · have zg : decide (S < t) = false := decide_eq_false hg
              clear gp
              go_wp2_with fail
              go_roundw
              case rel => exact ⟨i + 1, by rw [ES.out], by go_num, by omega, B3⟩
              case measure => simp [intOf] <;> omega
          · obtain rfl : k = i := by omega
            have hltz : ¬ (k : Int) < k := by omega
            have hs := SP.out k
            have ht1 := TG.out
            have ht2 := TS.out
            obtain ⟨s, hse⟩ : ∃ s, sumPA P L k = s := ⟨_, rfl⟩
            rw [hse] at hs ht1 ht2 ⊢
            clear hse
            have B4 := Lib.hid (B1.out.trans (B2.out.mono B1.out.size))
            have RO2 := Lib.hid ((RO1.out.below B2.out).more B2.out.size)
            clear B1 B2 RO1 R1
            by_cases hk0 : k = 0
            · have zk : ((k : Int) == 0) = true := by rw [beq_iff_eq]; omega
              have H0 := Lib.hid hk0
              clear hk0 ht1 ht2
              go_wp2_with fail
              refine (AW.out _).mono ?_
              rintro e w9 ⟨rfl, hb9⟩
              have B9 := Lib.hid (B4.out.trans (hb9.mono B4.out.size))
              clear hb9
              go_wp2_with fail
              go_ret
              exact ⟨rfl, B9.out⟩
            · have zk : ((k : Int) == 0) = false := by rw [beq_eq_false_iff_ne]; omega
              by_cases hg : S < t
              · have zg : decide (S < t) = true := decide_eq_true hg
                have zh : decide (S ≥ t) = false := decide_eq_false (by omega)
                have zs : (s == t) = true := by rw [beq_iff_eq]; exact ht1 hg (by omega)
                have HG := Lib.hid hg
                clear hk0 ht1 ht2 hg
                go_wp2_with fail
                refine (FB.out _ RO2.out).mono ?_
                rintro e w5 ⟨A5, c5, rfl, r5, hb5⟩
                have R5 := Lib.hid r5
                have RO5 := Lib.hid ((RO2.out.below hb5).more hb5.size)
                have B5 := Lib.hid (B4.out.trans (hb5.mono B4.out.size))
                clear r5 hb5 FB
                go_wp2_with fail
                refine (BS.out _ RO5.out).mono ?_
                rintro e w6 ⟨A6, c6, rfl, r6, hb6⟩
                have R6 := Lib.hid (row_of_own r6)
                have S5 := Lib.hid ((R5.out.below hb6).more hb6.size)
                have B6 := Lib.hid (B5.out.trans (hb6.mono B5.out.size))
                clear r6 hb6 BS R5
                go_wp2_with fail
                refine (ksame_any A5 A6 c5 c6 k (L.map Fx.base) w6 _ _ S5.out R6.out (by rw [List.length_map]; exact HL.out) (by omega)).mono ?_
                rintro e w7 ⟨rfl, kk, rfl⟩
                have B4 := Lib.hid (Below.drewN' B6.out kk)
                clear B6 R6 S5
                generalize w6.drewN kk = w8 at *
                go_wp2_with fail
                refine (AW.out _).mono ?_
                rintro e w9 ⟨rfl, hb9⟩
                have B9 := Lib.hid (B4.out.trans (hb9.mono B4.out.size))
                clear hb9
                go_wp2_with fail
                go_ret
                exact ⟨rfl, B9.out⟩
              · have zg : decide (S < t) = false := decide_eq_false hg
                have zh : decide (S ≥ t) = true := decide_eq_true (by omega)
                have zs : decide (s ≥ t) = true := decide_eq_true (ht2 (by omega))
                have HG := Lib.hid hg
                clear hk0 ht1 ht2 hg
                by_cases hw : WT = 0
                · have zw : (WT == 0) = true := by rw [beq_iff_eq]; exact hw
                  have HW := Lib.hid hw
                  clear hw
                  go_wp2_with fail
                  refine (AW.out _).mono ?_
                  rintro e w9 ⟨rfl, hb9⟩
                  have B9 := Lib.hid (B4.out.trans (hb9.mono B4.out.size))
                  clear hb9
                  go_wp2_with fail
                  go_ret
                  exact ⟨rfl, B9.out⟩
                · have zw : (WT == 0) = false := by rw [beq_eq_false_iff_ne]; exact hw
                  clear hw
                  go_wp2_with fail
                  refine (FB.out _ RO2.out).mono ?_
                  rintro e w5 ⟨A5, c5, rfl, r5, hb5⟩
                  have R5 := Lib.hid r5
                  have RO5 := Lib.hid ((RO2.out.below hb5).more hb5.size)
                  have B5 := Lib.hid (B4.out.trans (hb5.mono B4.out.size))
                  clear r5 hb5 FB
                  go_wp2_with fail
                  refine (BS.out _ RO5.out).mono ?_
                  rintro e w6 ⟨A6, c6, rfl, r6, hb6⟩
                  have R6 := Lib.hid (row_of_own r6)
                  have S5 := Lib.hid ((R5.out.below hb6).more hb6.size)
                  have B6 := Lib.hid (B5.out.trans (hb6.mono B5.out.size))
                  clear r6 hb6 BS R5
                  go_wp2_with fail
                  refine (ksame_any A5 A6 c5 c6 k (L.map Fx.base) w6 _ _ S5.out R6.out (by rw [List.length_map]; exact HL.out) (by omega)).mono ?_
                  rintro e w7 ⟨rfl, kk, rfl⟩
                  have B4 := Lib.hid (Below.drewN' B6.out kk)
                  clear B6 R6 S5
                  generalize w6.drewN kk = w8 at *
                  go_wp2_with fail
                  refine (AW.out _).mono ?_
                  rintro e w9 ⟨rfl, hb9⟩
                  have B9 := Lib.hid (B4.out.trans (hb9.mono B4.out.size))
                  clear hb9
                  go_wp2_with fail
                  go_ret
                  exact ⟨rfl, B9.out⟩
      · have hki : (k : Int) < zs.length := of_decide_eq_true z1
        have hkj : ¬ (k : Int) < 10 := of_decide_eq_false z2
        go_upto_region 10 with fail
        rw [HA.out]
        clear k12 k16 k4 k3
        go_wp2_with fail
        refine (FA.out _ RO.out).mono ?_
        rintro e w1 ⟨A1, c1, rfl, r1, hb1⟩
        have R1 := Lib.hid r1
        have RO1 := Lib.hid ((RO.out.below hb1).more hb1.size)
        have B1 := Lib.hid (B.out.trans (hb1.mono B.out.size))
        clear r1 hb1 FA RO B
        go_wp2_with fail
        go_loopw [12, 13] (fun v12 v13 wr => ∃ i : Nat, v12 = .int .i64 (sumPA P L i) ∧ v13 = .int .i64 i ∧ i ≤ k ∧ Hid (Below w1.heap.size w1 wr)) (fun _ v13 _ => k - (intOf v13).toNat)
        case atStart => exact ⟨0, rfl, rfl, Nat.zero_le _, Lib.hid (Below.refl _ _)⟩
        case round =>
          generalize wr = w2 at *
          obtain ⟨i, rfl, rfl, hi, B2⟩ := hrel
          by_cases hlt2 : i < k
          · have hltz : (i : Int) < k := by omega
            have hp : i < P.length := by rw [LP.out]; exact hlt2
            have hq : i < L.length := by rw [HL.out]; exact hlt2
            obtain ⟨a1, rfl, hab1, dp⟩ := (R1.out.below B2.out).int hp
            obtain ⟨a2, rfl, hab2, d0, d1, d2, d3, d4, d5⟩ := Row.flex (RO1.out.below B2.out) hq
            have hx := HX.out _ (List.getElem_mem hq)
            have hp1 := SA.out _ (List.getElem_mem hp)
            have gp := GP.out i hq hp
            have ES := Lib.hid (sumPA_take P L i hp hq)
            have hs := SP.out i
            obtain ⟨x, hxe⟩ : ∃ x, L[i] = x := ⟨_, rfl⟩
            obtain ⟨p, hpe⟩ : ∃ p, P[i] = p := ⟨_, rfl⟩
            rw [hxe] at d0 d1 d2 d3 d4 d5 hx gp ES
            rw [hpe] at dp hp1 gp ES
            clear hxe hpe
            obtain ⟨s, hse⟩ : ∃ s, sumPA P L i = s := ⟨_, rfl⟩
            rw [hse] at hs ES ⊢
            clear hse
            have h1 := hx.b0
            have h2 := hx.b1
            have h3 := hx.a0
            have h4 := hx.a1
            have h5 := hx.g0
            have h6 := hx.g1
            have n1 : -9223372036854775808 ≤ s + p ∧ s + p ≤ 9223372036854775807 := by omega
            have n2 : -9223372036854775808 ≤ s + p + x.around ∧ s + p + x.around ≤ 9223372036854775807 := by omega
            have n3 : -9223372036854775808 ≤ p - x.base ∧ p - x.base ≤ 9223372036854775807 := by omega
            have hbl : (a1.add i).block < w2.heap.size := by have := B2.out.size; rw [add_block]; omega
            have c0 : ∀ q, (w2.drewN q).cell? (a1.add i) = some (.int .i64 p) := fun q => dp
            have c5 : ∀ q, (w2.drewN q).cell? ⟨(a2.add (i * 6)).block, (a2.add (i * 6)).off + 5, none⟩ = some (.int .i64 x.around) := fun q => d5
            have D0 := Lib.hid dp
            have D1 := Lib.hid d0
            have D2 := Lib.hid d3
            clear hx d1 d2 d4
            go_upto_region 17 with fail
            go_quiet (fail)
            have B3 := Lib.hid (Below.drewN' B2.out nq)
            have e0 : (w2.drewN nq).cell? (a1.add i) = some (.int .i64 p) := D0.out
            have e1 : (w2.drewN nq).cell? (a2.add (i * 6)) = some (.int .i64 x.base) := D1.out
            have e2 : (w2.drewN nq).cell? ⟨(a2.add (i * 6)).block, (a2.add (i * 6)).off + 3, none⟩ = some (.int .i64 x.grow) := D2.out
            clear B2 c0 c5 D0 D1 D2 dp d0 d3 d5 hbl
            generalize w2.drewN nq = w3 at *
            by_cases hg : S < t
            · have zg : decide (S < t) = true := decide_eq_true hg
              obtain ⟨g1, g2⟩ := gp hg
              obtain ⟨m1, m2⟩ := mul_bd (a := t - S) (b := x.grow) (A := 65536) (B := 8) (by omega) (by omega) (by omega) h6
              have n4 : -9223372036854775808 ≤ t - S ∧ t - S ≤ 9223372036854775807 := by omega
              have n5 : -9223372036854775808 ≤ (t - S) * x.grow ∧ (t - S) * x.grow ≤ 9223372036854775807 := by omega
              have n6 : -9223372036854775808 ≤ (p - x.base) * G ∧ (p - x.base) * G ≤ 9223372036854775807 := by omega
              have n7 : -9223372036854775808 ≤ (t - S) * x.grow - G ∧ (t - S) * x.grow - G ≤ 9223372036854775807 := by omega
              have n8 : -9223372036854775808 ≤ (t - S) * x.grow + G ∧ (t - S) * x.grow + G ≤ 9223372036854775807 := by omega
              have y1 : decide ((p - x.base) * G < (t - S) * x.grow - G) = false := decide_eq_false (by omega)
              have y2 : decide ((p - x.base) * G > (t - S) * x.grow + G) = false := decide_eq_false (by omega)
              have y1p : ¬ (p - x.base) * G < (t - S) * x.grow - G := by omega
              have y2p : ¬ (p - x.base) * G > (t - S) * x.grow + G := by omega
              have c0 : ∀ q, (w3.drewN q).cell? (a1.add i) = some (.int .i64 p) := fun q => e0
              have c1 : ∀ q, (w3.drewN q).cell? (a2.add (i * 6)) = some (.int .i64 x.base) := fun q => e1
              have D2 := Lib.hid e2
              clear gp g1 g2 m1 m2
              go_upto_region 19 with fail
              go_quiet (fail)
              have B4 := Lib.hid (Below.drewN' B3.out nq)
              have e3 : (w3.drewN nq).cell? ⟨(a2.add (i * 6)).block, (a2.add (i * 6)).off + 3, none⟩ = some (.int .i64 x.grow) := D2.out
              clear B3 c0 c1 D2 e0 e1 e2
              generalize w3.drewN nq = w4 at *
              go_wp2_with fail
              go_roundw
              case rel => exact ⟨i + 1, by rw [ES.out], by go_num, by omega, B4⟩
              case measure => simp [intOf] <;> omega
            · have zg : decide (S < t) = false := decide_eq_false hg
              clear gp
              go_wp2_with fail
              go_roundw
              case rel => exact ⟨i + 1, by rw [ES.out], by go_num, by omega, B3⟩
              case measure => simp [intOf] <;> omega
          · obtain rfl : k = i := by omega
            have hltz : ¬ (k : Int) < k := by omega
            have hs := SP.out k
            have ht1 := TG.out
            have ht2 := TS.out
            obtain ⟨s, hse⟩ : ∃ s, sumPA P L k = s := ⟨_, rfl⟩
            rw [hse] at hs ht1 ht2 ⊢
            clear hse
            have B4 := Lib.hid (B1.out.trans (B2.out.mono B1.out.size))
            have RO2 := Lib.hid ((RO1.out.below B2.out).more B2.out.size)
            clear B1 B2 RO1 R1
            by_cases hk0 : k = 0
            · have zk : ((k : Int) == 0) = true := by rw [beq_iff_eq]; omega
              have H0 := Lib.hid hk0
              clear hk0 ht1 ht2
              go_wp2_with fail
              refine (AW.out _).mono ?_
              rintro e w9 ⟨rfl, hb9⟩
              have B9 := Lib.hid (B4.out.trans (hb9.mono B4.out.size))
              clear hb9
              go_wp2_with fail
              go_ret
              exact ⟨rfl, B9.out⟩
            · have zk : ((k : Int) == 0) = false := by rw [beq_eq_false_iff_ne]; omega
              by_cases hg : S < t
              · have zg : decide (S < t) = true := decide_eq_true hg
                have zh : decide (S ≥ t) = false := decide_eq_false (by omega)
                have zs : (s == t) = true := by rw [beq_iff_eq]; exact ht1 hg (by omega)
                have HG := Lib.hid hg
                clear hk0 ht1 ht2 hg
                go_wp2_with fail
                refine (FB.out _ RO2.out).mono ?_
                rintro e w5 ⟨A5, c5, rfl, r5, hb5⟩
                have R5 := Lib.hid r5
                have RO5 := Lib.hid ((RO2.out.below hb5).more hb5.size)
                have B5 := Lib.hid (B4.out.trans (hb5.mono B4.out.size))
                clear r5 hb5 FB
                go_wp2_with fail
                refine (BS.out _ RO5.out).mono ?_
                rintro e w6 ⟨A6, c6, rfl, r6, hb6⟩
                have R6 := Lib.hid (row_of_own r6)
                have S5 := Lib.hid ((R5.out.below hb6).more hb6.size)
                have B6 := Lib.hid (B5.out.trans (hb6.mono B5.out.size))
                clear r6 hb6 BS R5
                go_wp2_with fail
                refine (ksame_any A5 A6 c5 c6 k (L.map Fx.base) w6 _ _ S5.out R6.out (by rw [List.length_map]; exact HL.out) (by omega)).mono ?_
                rintro e w7 ⟨rfl, kk, rfl⟩
                have B4 := Lib.hid (Below.drewN' B6.out kk)
                clear B6 R6 S5
                generalize w6.drewN kk = w8 at *
                go_wp2_with fail
                refine (AW.out _).mono ?_
                rintro e w9 ⟨rfl, hb9⟩
                have B9 := Lib.hid (B4.out.trans (hb9.mono B4.out.size))
                clear hb9
                go_wp2_with fail
                go_ret
                exact ⟨rfl, B9.out⟩
              · have zg : decide (S < t) = false := decide_eq_false hg
                have zh : decide (S ≥ t) = true := decide_eq_true (by omega)
                have zs : decide (s ≥ t) = true := decide_eq_true (ht2 (by omega))
                have HG := Lib.hid hg
                clear hk0 ht1 ht2 hg
                by_cases hw : WT = 0
                · have zw : (WT == 0) = true := by rw [beq_iff_eq]; exact hw
                  have HW := Lib.hid hw
                  clear hw
                  go_wp2_with fail
                  refine (AW.out _).mono ?_
                  rintro e w9 ⟨rfl, hb9⟩
                  have B9 := Lib.hid (B4.out.trans (hb9.mono B4.out.size))
                  clear hb9
                  go_wp2_with fail
                  go_ret
                  exact ⟨rfl, B9.out⟩
                · have zw : (WT == 0) = false := by rw [beq_eq_false_iff_ne]; exact hw
                  clear hw
                  go_wp2_with fail
                  refine (FB.out _ RO2.out).mono ?_
                  rintro e w5 ⟨A5, c5, rfl, r5, hb5⟩
                  have R5 := Lib.hid r5
                  have RO5 := Lib.hid ((RO2.out.below hb5).more hb5.size)
                  have B5 := Lib.hid (B4.out.trans (hb5.mono B4.out.size))
                  clear r5 hb5 FB
                  go_wp2_with fail
                  refine (BS.out _ RO5.out).mono ?_
                  rintro e w6 ⟨A6, c6, rfl, r6, hb6⟩
                  have R6 := Lib.hid (row_of_own r6)
                  have S5 := Lib.hid ((R5.out.below hb6).more hb6.size)
                  have B6 := Lib.hid (B5.out.trans (hb6.mono B5.out.size))
                  clear r6 hb6 BS R5
                  go_wp2_with fail
                  refine (ksame_any A5 A6 c5 c6 k (L.map Fx.base) w6 _ _ S5.out R6.out (by rw [List.length_map]; exact HL.out) (by omega)).mono ?_
                  rintro e w7 ⟨rfl, kk, rfl⟩
                  have B4 := Lib.hid (Below.drewN' B6.out kk)
                  clear B6 R6 S5
                  generalize w6.drewN kk = w8 at *
                  go_wp2_with fail
                  refine (AW.out _).mono ?_
                  rintro e w9 ⟨rfl, hb9⟩
                  have B9 := Lib.hid (B4.out.trans (hb9.mono B4.out.size))
                  clear hb9
                  go_wp2_with fail
                  go_ret
                  exact ⟨rfl, B9.out⟩

end Go.Proofs.Ytodnplllkpgfaaa
