import Derived.Test.YtmkmealgoafgdaaStbSymR
/- slices.symMergeCmpFunc at int, both parts of two places and more. -/
namespace Go.Proofs.Ytmkmealgoafgdaa
open Go Go.RowKit Go.Sort
set_option linter.unusedVariables false
set_option linter.unusedSimpArgs false
set_option maxHeartbeats 16000000
set_option maxRecDepth 100000
variable {K : World → Prop} {B g c : Nat} {key : Int → Int}

theorem vals_perm {n a b : Nat} {d d1 : Array Int} (h : Vals n a b d) (hp : PermIn a b d d1) (hb : b ≤ d.size) : Vals n a b d1 :=
  fun t h1 h2 => permIn_all d d1 a b (fun z => 0 ≤ z ∧ z < (n : Int)) hb hp h t h1 h2
theorem vals_part {n a b a' b' : Nat} {d : Array Int} (h : Vals n a b d) (ha : a ≤ a') (hb : b' ≤ b) : Vals n a' b' d := fun t h1 h2 => h t (by omega) (by omega)
theorem vals_move {n a b : Nat} {d d1 : Array Int} (h : Vals n a b d) (e : ∀ t, a ≤ t → t < b → d1[t]! = d[t]!) : Vals n a b d1 := fun t h1 h2 => by rw [e t h1 h2]; exact h t h1 h2
theorem halves_left {a s mid : Nat} {d : Array Int} (h : Halves key a s mid d) (hs : s = a ∨ s = mid) : SortedIn (ltK key) a mid d := by
  rcases hs with rfl | rfl
  · exact h.r
  · exact h.l
def SymOK (K : World → Prop) (B g c : Nat) (key : Int → Int) (n : Nat) (bx : Value) (sz : Nat) : Prop := ∀ (a m b : Nat) (d : Array Int) (w : World), b - a ≤ sz → a < m → m < b → b ≤ d.size → d.size < 4611686018427387904 →
  Hid (St K B g c d w) → Vals n a b d → Halves key a m b d →
  Calls Try.prog 25 #[.slice (some ⟨g, 0, none⟩) d.size c, .int .i64 a, .int .i64 m, .int .i64 b, (.func (.func 16) #[] #[bx])] w (SymPost K B g c key a b d)
theorem sym_at {D a m b n sz : Nat} {bx : Value} (h : Hid (SymOK K B g c key n bx sz)) (d : Array Int) (w : World) (hD : D = d.size) (hsz : b - a ≤ sz) (ham : a < m) (hmb : m < b) (hb : b ≤ d.size) (hd : d.size < 4611686018427387904) (S : Hid (St K B g c d w)) (V : Hid (Vals n a b d)) (H : Hid (Halves key a m b d)) :
    Calls Try.prog 25 #[.slice (some ⟨g, 0, none⟩) D c, .int .i64 a, .int .i64 m, .int .i64 b, (.func (.func 16) #[] #[bx])] w (SymPost K B g c key a b d) := by
  subst hD; exact h.out a m b d w hsz ham hmb hb hd S V.out H.out
theorem rotate_at {D : Nat} (hK : Hid (Keep g K)) (a m b : Nat) (d : Array Int) (F : Value) (w : World) (h : Hid (St K B g c d w)) (hD : D = d.size) (ham : a < m) (hmb : m < b) (hb : b ≤ d.size) (hd : d.size < 4611686018427387904) :
    Calls Try.prog 26 #[.slice (some ⟨g, 0, none⟩) D c, .int .i64 a, .int .i64 m, .int .i64 b, F] w (RotPost K B g c a m b d) := by
  subst hD; exact rotate_any hK.out a m b d F w h.out ham hmb hb hd

theorem sym_gen (hK : Keep g K) (n : Nat) (bx : Value) (hC : Cmp K key n bx) (sz : Nat) (IH : SymOK K B g c key n bx sz) (a m b : Nat) (d : Array Int) (w : World) (hsz : b - a ≤ sz + 1) (ham : a + 1 < m) (hmb : m + 1 < b)
    (hb : b ≤ d.size) (hd : d.size < 4611686018427387904) (h : St K B g c d w) (hv : Vals n a b d) (hh : Halves key a m b d) :
    Calls Try.prog 25 #[.slice (some ⟨g, 0, none⟩) d.size c, .int .i64 a, .int .i64 m, .int .i64 b, (.func (.func 16) #[] #[bx])] w (SymPost K B g c key a b d) := by
  have HK := Lib.hid hK
  have HC := Lib.hid hC
  have HI := Lib.hid IH
  have H0 := Lib.hid h
  have HV := Lib.hid hv
  have HH := Lib.hid hh
  have hne : ((m : Int) - (a : Int) == 1) = false := by simp; omega
  have hne2 : ((b : Int) - (m : Int) == 1) = false := by simp; omega
  obtain ⟨mid, hmid⟩ : ∃ h : Nat, ((a : Int) + (b : Int)) / 2 = (h : Int) := ⟨(a + b) / 2, by omega⟩
  have hmidN : 2 * mid ≤ a + b ∧ a + b < 2 * mid + 2 := by omega
  have hmid1 : a < mid := by omega
  have hmid2 : mid < b := by omega
  clear hK h hC hv hh IH
  go_enter Try.func25, Try.ntmps25
  by_cases hm : mid < m
  · have hmz : (mid : Int) < (m : Int) := by omega
    obtain ⟨s0, hs0⟩ : ∃ h : Nat, (mid : Int) + (m : Int) - (b : Int) = (h : Int) := ⟨mid + m - b, by omega⟩
    go_wp2_with fail
    try rw [hs0]
    go_loopw [20, 21] (fun vs vr wr => ∃ (s r : Nat), vs = .int .i64 s ∧ vr = .int .i64 r ∧ s0 ≤ s ∧ s ≤ r ∧ r ≤ mid ∧ Hid (St K B g c d wr) ∧ Hid (s = s0 ∨ ltK key d[mid + m - s]! d[s - 1]! = false) ∧ Hid (r = mid ∨ ltK key d[mid + m - 1 - r]! d[r]! = true)) (fun vs vr _ => (intOf vr).toNat - (intOf vs).toNat)
    case atStart => exact ⟨s0, mid, by go_num, by go_num, by omega, by omega, by omega, H0, Lib.hid (.inl rfl), Lib.hid (.inl rfl)⟩
    case round =>
      clear H0
      obtain ⟨s, r, rfl, rfl, hs, hsr, hr, S, LO, UP⟩ := hrel
      by_cases hlt : s < r
      · have hltz : (s : Int) < (r : Int) := by omega
        obtain ⟨h, hh⟩ : ∃ h : Nat, ((s : Int) + (r : Int)) / 2 = (h : Int) := ⟨(s + r) / 2, by omega⟩
        have hih : s ≤ h := by omega
        have hhj : h < r := by omega
        obtain ⟨pc, hpc⟩ : ∃ p : Nat, (mid : Int) + (m : Int) - 1 - (h : Int) = (p : Int) := ⟨mid + m - 1 - h, by omega⟩
        have hpN : pc + 1 + h ≤ mid + m ∧ mid + m ≤ pc + 1 + h := by omega
        obtain ⟨x, hx⟩ : ∃ x, x = d[pc]! := ⟨_, rfl⟩
        obtain ⟨y, hy⟩ : ∃ y, y = d[h]! := ⟨_, rfl⟩
        have hyx : y < x := by rw [hx, hy]; exact HH.out.x h pc (by omega) (by omega) (by omega) (by omega)
        have vx : 0 ≤ x ∧ x < (n : Int) := by rw [hx]; exact HV.out pc (by omega) (by omega)
        have vy : 0 ≤ y ∧ y < (n : Int) := by rw [hy]; exact HV.out h (by omega) (by omega)
        have hpd : pc < d.size := by omega
        have cx : ∀ q, (wr.drewN q).cell? ⟨g, pc, none⟩ = some (.int .i64 x) := fun q => by rw [hx]; exact (S.out.drewN HK.out q).cell (by omega)
        have cy : ∀ q, (wr.drewN q).cell? ⟨g, h, none⟩ = some (.int .i64 y) := fun q => by rw [hy]; exact (S.out.drewN HK.out q).cell (by omega)
        have hc : ∀ q, _ := fun q => HC.out (wr.drewN q) x y (HK.out.drewN _ q S.out.keep) vx.1 vx.2 vy.1 vy.2
        have HL := Lib.hid (ltK_back (key := key) hyx)
        have HX := Lib.hid hx
        have HY := Lib.hid hy
        clear hx hy vx vy hyx
        go_wp2_with fail
        try rw [hh]
        clear hh
        cases hl : decide (cmpZ (key x) (key y) < 0) with
        | true =>
          have hlz : cmpZ (key x) (key y) < 0 := of_decide_eq_true hl
          go_quiet (first | (refine Calls.quiet_of (hc _)))
          have S1 := Lib.hid (S.out.drewN HK.out nq)
          have UP1 : Hid (h = mid ∨ ltK key d[mid + m - 1 - h]! d[h]! = true) := Lib.hid (.inr (by rw [show mid + m - 1 - h = pc by omega, ← HX.out, ← HY.out, HL.out]; exact hl))
          clear cx cy hc S UP
          generalize wr.drewN nq = w1 at S1 ⊢
          go_wp2_with fail
          go_roundw
          case rel => exact ⟨s, h, rfl, rfl, hs, by omega, by omega, S1, LO, UP1⟩
          case measure => simp [intOf] <;> omega
        | false =>
          have hlz : ¬ cmpZ (key x) (key y) < 0 := of_decide_eq_false hl
          go_quiet (first | (refine Calls.quiet_of (hc _)))
          have S1 := Lib.hid (S.out.drewN HK.out nq)
          have LO1 : Hid (h + 1 = s0 ∨ ltK key d[mid + m - (h + 1)]! d[h + 1 - 1]! = false) := Lib.hid (.inr (by rw [show mid + m - (h + 1) = pc by omega, Nat.add_sub_cancel, ← HX.out, ← HY.out, HL.out]; exact hl))
          clear cx cy hc S LO
          generalize wr.drewN nq = w1 at S1 ⊢
          go_wp2_with fail
          go_roundw
          case rel => exact ⟨h + 1, r, by go_num, rfl, by omega, by omega, hr, S1, LO1, UP⟩
          case measure => simp [intOf] <;> omega
      · obtain rfl : s = r := by omega
        obtain ⟨e, he⟩ : ∃ p : Nat, (mid : Int) + (m : Int) - (s : Int) = (p : Int) := ⟨mid + m - s, by omega⟩
        have heN : e + s ≤ mid + m ∧ mid + m ≤ e + s := by omega
        have hnlt : ¬ (s : Int) < (s : Int) := by omega
        have SP := fun (d1 : Array Int) (hd1 : ∀ t, d1[t]! = rotF s m e (fun k => d[k]!) t) => sym_split HH.out (by omega) (by omega) (show mid = (a + b) / 2 by omega) (show e = mid + m - s by omega) (s0 := s0) (r0 := mid) (by omega) hs hr LO.out UP.out hd1
        have SPH := Lib.hid SP
        clear SP
        by_cases p2 : s < mid
        · have p1 : s < m := by omega
          have z1 : (s : Int) < (m : Int) := by omega
          have z2 : (m : Int) < (e : Int) := by omega
          go_wp2_with fail
          try rw [he]
          refine (rotate_at HK s m e d (.func (.func 16) #[] #[bx]) wr S rfl (by omega) (by omega) (by omega) hd).mono ?_
          rintro _ w1 ⟨rfl, d1, S1, hs1, P1, E1⟩
          have S1 := Lib.hid S1
          have PM := Lib.hid (permIn_mono _ _ _ _ _ _ (show a ≤ s by omega) (show e ≤ b by omega) hb P1)
          have V1 := Lib.hid (vals_perm HV.out PM.out hb)
          obtain ⟨L1, R1, X1⟩ := SPH.out d1 E1
          have L1 := Lib.hid L1
          have R1 := Lib.hid R1
          have X1 := Lib.hid X1
          clear SPH E1 LO UP HV HH P1 S
          by_cases p3 : a < s
          · have z3 : (a : Int) < (s : Int) := by omega
            have z4 : (s : Int) < (mid : Int) := by omega
            go_wp2_with fail
            try rw [he]
            refine (sym_at HI d1 w1 (by omega) (by omega) (by omega) (by omega) (by omega) (by omega) S1 (Lib.hid (vals_part V1.out (Nat.le_refl a) (by omega))) L1).mono ?_
            rintro _ w2 ⟨rfl, d2, S2, hs2, M2⟩
            have S2 := Lib.hid S2
            have M2 := Lib.hid M2
            clear S1 L1
            by_cases p6 : e < b
            · have R2 := Lib.hid (halves_move R1.out (fun t h1 h2 => M2.out.1.2.1 t (Or.inr h1)) (by omega) (by omega))
              have V2 := Lib.hid (vals_move (vals_part V1.out (show a ≤ mid by omega) (Nat.le_refl b)) (fun t h1 h2 => M2.out.1.2.1 t (Or.inr h1)))
              have z5 : (mid : Int) < (e : Int) := by omega
              have z6 : (e : Int) < (b : Int) := by omega
              go_wp2_with fail
              try rw [he]
              refine (sym_at HI d2 w2 (by omega) (by omega) (by omega) (by omega) (by omega) (by omega) S2 V2 R2).mono ?_
              rintro _ w3 ⟨rfl, d3, S3, hs3, M3⟩
              have R : Hid (SymPost K B g c key a b d (.returned (.tuple #[])) w3) := Lib.hid ⟨rfl, d3, S3, by omega, (fun j => ⟨permIn_trans _ _ _ _ _ PM.out j.1, j.2⟩) (sym_join (by omega) (by omega) (by omega) X1.out M2.out M3)⟩
              clear S3 M3 S2 M2 R2 V2 X1 PM V1
              go_wp2
              go_end0
              exact R.out
            · have R2 := Lib.hid (halves_move R1.out (fun t h1 h2 => M2.out.1.2.1 t (Or.inr h1)) (by omega) (by omega))
              have V2 := Lib.hid (vals_move (vals_part V1.out (show a ≤ mid by omega) (Nat.le_refl b)) (fun t h1 h2 => M2.out.1.2.1 t (Or.inr h1)))
              have z5 : (mid : Int) < (e : Int) := by omega
              have z6 : ¬ (e : Int) < (b : Int) := by omega
              have R : Hid (SymPost K B g c key a b d (.returned (.tuple #[])) w2) := Lib.hid ⟨rfl, d2, S2.out, by omega, (fun j => ⟨permIn_trans _ _ _ _ _ PM.out j.1, j.2⟩) (sym_join (by omega) (by omega) (by omega) X1.out M2.out (merged_none (halves_left R2.out (by omega))))⟩
              clear S2 M2 R2 V2 X1 PM V1
              go_wp2_with fail
              try rw [he]
              go_end0
              exact R.out
          · obtain ⟨w2, d2, S2, hs2, M2, rfl, rfl⟩ : ∃ w2 d2, Hid (St K B g c d2 w2) ∧ d2.size = d1.size ∧ Hid (Merged key a mid d1 d2) ∧ w2 = w1 ∧ d2 = d1 :=
              ⟨w1, d1, S1, rfl, Lib.hid (merged_none (halves_left L1.out (by omega))), rfl, rfl⟩
            have z3 : ¬ (a : Int) < (s : Int) := by omega
            by_cases p6 : e < b
            · have R2 := Lib.hid (halves_move R1.out (fun t h1 h2 => M2.out.1.2.1 t (Or.inr h1)) (by omega) (by omega))
              have V2 := Lib.hid (vals_move (vals_part V1.out (show a ≤ mid by omega) (Nat.le_refl b)) (fun t h1 h2 => M2.out.1.2.1 t (Or.inr h1)))
              have z5 : (mid : Int) < (e : Int) := by omega
              have z6 : (e : Int) < (b : Int) := by omega
              go_wp2_with fail
              try rw [he]
              refine (sym_at HI d2 w2 (by omega) (by omega) (by omega) (by omega) (by omega) (by omega) S2 V2 R2).mono ?_
              rintro _ w3 ⟨rfl, d3, S3, hs3, M3⟩
              have R : Hid (SymPost K B g c key a b d (.returned (.tuple #[])) w3) := Lib.hid ⟨rfl, d3, S3, by omega, (fun j => ⟨permIn_trans _ _ _ _ _ PM.out j.1, j.2⟩) (sym_join (by omega) (by omega) (by omega) X1.out M2.out M3)⟩
              clear S3 M3 S2 M2 R2 V2 X1 PM V1
              go_wp2
              go_end0
              exact R.out
            · have R2 := Lib.hid (halves_move R1.out (fun t h1 h2 => M2.out.1.2.1 t (Or.inr h1)) (by omega) (by omega))
              have V2 := Lib.hid (vals_move (vals_part V1.out (show a ≤ mid by omega) (Nat.le_refl b)) (fun t h1 h2 => M2.out.1.2.1 t (Or.inr h1)))
              have z5 : (mid : Int) < (e : Int) := by omega
              have z6 : ¬ (e : Int) < (b : Int) := by omega
              have R : Hid (SymPost K B g c key a b d (.returned (.tuple #[])) w2) := Lib.hid ⟨rfl, d2, S2.out, by omega, (fun j => ⟨permIn_trans _ _ _ _ _ PM.out j.1, j.2⟩) (sym_join (by omega) (by omega) (by omega) X1.out M2.out (merged_none (halves_left R2.out (by omega))))⟩
              clear S2 M2 R2 V2 X1 PM V1
              go_wp2_with fail
              try rw [he]
              go_end0
              exact R.out
        · have z1 : (s : Int) < (m : Int) := by omega
          have z2 : ¬ (m : Int) < (e : Int) := by omega
          obtain ⟨w1, d1, S1, hs1, PM, E1, rfl, rfl⟩ : ∃ w1 d1, Hid (St K B g c d1 w1) ∧ d1.size = d.size ∧ Hid (PermIn a b d d1) ∧ (∀ t, d1[t]! = rotF s m e (fun k => d[k]!) t) ∧ w1 = wr ∧ d1 = d :=
            ⟨wr, d, S, rfl, Lib.hid (permIn_refl _ _ _), fun t => (rot_none (by omega) _ t).symm, rfl, rfl⟩
          have V1 := Lib.hid (vals_perm HV.out PM.out hb)
          obtain ⟨L1, R1, X1⟩ := SPH.out d1 E1
          have L1 := Lib.hid L1
          have R1 := Lib.hid R1
          have X1 := Lib.hid X1
          clear SPH E1 LO UP HV HH
          obtain ⟨w2, d2, S2, hs2, M2, rfl, rfl⟩ : ∃ w2 d2, Hid (St K B g c d2 w2) ∧ d2.size = d1.size ∧ Hid (Merged key a mid d1 d2) ∧ w2 = w1 ∧ d2 = d1 :=
            ⟨w1, d1, S1, rfl, Lib.hid (merged_none (halves_left L1.out (by omega))), rfl, rfl⟩
          have z3 : (a : Int) < (s : Int) := by omega
          have z4 : ¬ (s : Int) < (mid : Int) := by omega
          have R2 := Lib.hid (halves_move R1.out (fun t h1 h2 => M2.out.1.2.1 t (Or.inr h1)) (by omega) (by omega))
          have V2 := Lib.hid (vals_move (vals_part V1.out (show a ≤ mid by omega) (Nat.le_refl b)) (fun t h1 h2 => M2.out.1.2.1 t (Or.inr h1)))
          have z5 : (mid : Int) < (e : Int) := by omega
          have z6 : (e : Int) < (b : Int) := by omega
          go_wp2_with fail
          try rw [he]
          refine (sym_at HI d2 w2 (by omega) (by omega) (by omega) (by omega) (by omega) (by omega) S2 V2 R2).mono ?_
          rintro _ w3 ⟨rfl, d3, S3, hs3, M3⟩
          have R : Hid (SymPost K B g c key a b d2 (.returned (.tuple #[])) w3) := Lib.hid ⟨rfl, d3, S3, by omega, (fun j => ⟨permIn_trans _ _ _ _ _ PM.out j.1, j.2⟩) (sym_join (by omega) (by omega) (by omega) X1.out M2.out M3)⟩
          clear S3 M3 S2 M2 R2 V2 X1 PM V1
          go_wp2
          go_end0
          exact R.out
  · have hmz : ¬ (mid : Int) < (m : Int) := by omega
    go_wp2_with fail
    go_loopw [20, 21] (fun vs vr wr => ∃ (s r : Nat), vs = .int .i64 s ∧ vr = .int .i64 r ∧ a ≤ s ∧ s ≤ r ∧ r ≤ m ∧ Hid (St K B g c d wr) ∧ Hid (s = a ∨ ltK key d[mid + m - s]! d[s - 1]! = false) ∧ Hid (r = m ∨ ltK key d[mid + m - 1 - r]! d[r]! = true)) (fun vs vr _ => (intOf vr).toNat - (intOf vs).toNat)
    case atStart => exact ⟨a, m, by go_num, by go_num, by omega, by omega, by omega, H0, Lib.hid (.inl rfl), Lib.hid (.inl rfl)⟩
    case round =>
      clear H0
      obtain ⟨s, r, rfl, rfl, hs, hsr, hr, S, LO, UP⟩ := hrel
      by_cases hlt : s < r
      · have hltz : (s : Int) < (r : Int) := by omega
        obtain ⟨h, hh⟩ : ∃ h : Nat, ((s : Int) + (r : Int)) / 2 = (h : Int) := ⟨(s + r) / 2, by omega⟩
        have hih : s ≤ h := by omega
        have hhj : h < r := by omega
        obtain ⟨pc, hpc⟩ : ∃ p : Nat, (mid : Int) + (m : Int) - 1 - (h : Int) = (p : Int) := ⟨mid + m - 1 - h, by omega⟩
        have hpN : pc + 1 + h ≤ mid + m ∧ mid + m ≤ pc + 1 + h := by omega
        obtain ⟨x, hx⟩ : ∃ x, x = d[pc]! := ⟨_, rfl⟩
        obtain ⟨y, hy⟩ : ∃ y, y = d[h]! := ⟨_, rfl⟩
        have hyx : y < x := by rw [hx, hy]; exact HH.out.x h pc (by omega) (by omega) (by omega) (by omega)
        have vx : 0 ≤ x ∧ x < (n : Int) := by rw [hx]; exact HV.out pc (by omega) (by omega)
        have vy : 0 ≤ y ∧ y < (n : Int) := by rw [hy]; exact HV.out h (by omega) (by omega)
        have hpd : pc < d.size := by omega
        have cx : ∀ q, (wr.drewN q).cell? ⟨g, pc, none⟩ = some (.int .i64 x) := fun q => by rw [hx]; exact (S.out.drewN HK.out q).cell (by omega)
        have cy : ∀ q, (wr.drewN q).cell? ⟨g, h, none⟩ = some (.int .i64 y) := fun q => by rw [hy]; exact (S.out.drewN HK.out q).cell (by omega)
        have hc : ∀ q, _ := fun q => HC.out (wr.drewN q) x y (HK.out.drewN _ q S.out.keep) vx.1 vx.2 vy.1 vy.2
        have HL := Lib.hid (ltK_back (key := key) hyx)
        have HX := Lib.hid hx
        have HY := Lib.hid hy
        clear hx hy vx vy hyx
        go_wp2_with fail
        try rw [hh]
        clear hh
        cases hl : decide (cmpZ (key x) (key y) < 0) with
        | true =>
          have hlz : cmpZ (key x) (key y) < 0 := of_decide_eq_true hl
          go_quiet (first | (refine Calls.quiet_of (hc _)))
          have S1 := Lib.hid (S.out.drewN HK.out nq)
          have UP1 : Hid (h = m ∨ ltK key d[mid + m - 1 - h]! d[h]! = true) := Lib.hid (.inr (by rw [show mid + m - 1 - h = pc by omega, ← HX.out, ← HY.out, HL.out]; exact hl))
          clear cx cy hc S UP
          generalize wr.drewN nq = w1 at S1 ⊢
          go_wp2_with fail
          go_roundw
          case rel => exact ⟨s, h, rfl, rfl, hs, by omega, by omega, S1, LO, UP1⟩
          case measure => simp [intOf] <;> omega
        | false =>
          have hlz : ¬ cmpZ (key x) (key y) < 0 := of_decide_eq_false hl
          go_quiet (first | (refine Calls.quiet_of (hc _)))
          have S1 := Lib.hid (S.out.drewN HK.out nq)
          have LO1 : Hid (h + 1 = a ∨ ltK key d[mid + m - (h + 1)]! d[h + 1 - 1]! = false) := Lib.hid (.inr (by rw [show mid + m - (h + 1) = pc by omega, Nat.add_sub_cancel, ← HX.out, ← HY.out, HL.out]; exact hl))
          clear cx cy hc S LO
          generalize wr.drewN nq = w1 at S1 ⊢
          go_wp2_with fail
          go_roundw
          case rel => exact ⟨h + 1, r, by go_num, rfl, by omega, by omega, hr, S1, LO1, UP⟩
          case measure => simp [intOf] <;> omega
      · obtain rfl : s = r := by omega
        obtain ⟨e, he⟩ : ∃ p : Nat, (mid : Int) + (m : Int) - (s : Int) = (p : Int) := ⟨mid + m - s, by omega⟩
        have heN : e + s ≤ mid + m ∧ mid + m ≤ e + s := by omega
        have hnlt : ¬ (s : Int) < (s : Int) := by omega
        have SP := fun (d1 : Array Int) (hd1 : ∀ t, d1[t]! = rotF s m e (fun k => d[k]!) t) => sym_split HH.out (by omega) (by omega) (show mid = (a + b) / 2 by omega) (show e = mid + m - s by omega) (s0 := a) (r0 := m) (by omega) hs hr LO.out UP.out hd1
        have SPH := Lib.hid SP
        clear SP
        by_cases p1 : s < m
        · have z1 : (s : Int) < (m : Int) := by omega
          have z2 : (m : Int) < (e : Int) := by omega
          go_wp2_with fail
          try rw [he]
          refine (rotate_at HK s m e d (.func (.func 16) #[] #[bx]) wr S rfl (by omega) (by omega) (by omega) hd).mono ?_
          rintro _ w1 ⟨rfl, d1, S1, hs1, P1, E1⟩
          have S1 := Lib.hid S1
          have PM := Lib.hid (permIn_mono _ _ _ _ _ _ (show a ≤ s by omega) (show e ≤ b by omega) hb P1)
          have V1 := Lib.hid (vals_perm HV.out PM.out hb)
          obtain ⟨L1, R1, X1⟩ := SPH.out d1 E1
          have L1 := Lib.hid L1
          have R1 := Lib.hid R1
          have X1 := Lib.hid X1
          clear SPH E1 LO UP HV HH P1 S
          by_cases p3 : a < s
          · have z3 : (a : Int) < (s : Int) := by omega
            have z4 : (s : Int) < (mid : Int) := by omega
            go_wp2_with fail
            try rw [he]
            refine (sym_at HI d1 w1 (by omega) (by omega) (by omega) (by omega) (by omega) (by omega) S1 (Lib.hid (vals_part V1.out (Nat.le_refl a) (by omega))) L1).mono ?_
            rintro _ w2 ⟨rfl, d2, S2, hs2, M2⟩
            have S2 := Lib.hid S2
            have M2 := Lib.hid M2
            clear S1 L1
            by_cases p6 : e < b
            · have R2 := Lib.hid (halves_move R1.out (fun t h1 h2 => M2.out.1.2.1 t (Or.inr h1)) (by omega) (by omega))
              have V2 := Lib.hid (vals_move (vals_part V1.out (show a ≤ mid by omega) (Nat.le_refl b)) (fun t h1 h2 => M2.out.1.2.1 t (Or.inr h1)))
              have z5 : (mid : Int) < (e : Int) := by omega
              have z6 : (e : Int) < (b : Int) := by omega
              go_wp2_with fail
              try rw [he]
              refine (sym_at HI d2 w2 (by omega) (by omega) (by omega) (by omega) (by omega) (by omega) S2 V2 R2).mono ?_
              rintro _ w3 ⟨rfl, d3, S3, hs3, M3⟩
              have R : Hid (SymPost K B g c key a b d (.returned (.tuple #[])) w3) := Lib.hid ⟨rfl, d3, S3, by omega, (fun j => ⟨permIn_trans _ _ _ _ _ PM.out j.1, j.2⟩) (sym_join (by omega) (by omega) (by omega) X1.out M2.out M3)⟩
              clear S3 M3 S2 M2 R2 V2 X1 PM V1
              go_wp2
              go_end0
              exact R.out
            · have R2 := Lib.hid (halves_move R1.out (fun t h1 h2 => M2.out.1.2.1 t (Or.inr h1)) (by omega) (by omega))
              have V2 := Lib.hid (vals_move (vals_part V1.out (show a ≤ mid by omega) (Nat.le_refl b)) (fun t h1 h2 => M2.out.1.2.1 t (Or.inr h1)))
              have z5 : (mid : Int) < (e : Int) := by omega
              have z6 : ¬ (e : Int) < (b : Int) := by omega
              have R : Hid (SymPost K B g c key a b d (.returned (.tuple #[])) w2) := Lib.hid ⟨rfl, d2, S2.out, by omega, (fun j => ⟨permIn_trans _ _ _ _ _ PM.out j.1, j.2⟩) (sym_join (by omega) (by omega) (by omega) X1.out M2.out (merged_none (halves_left R2.out (by omega))))⟩
              clear S2 M2 R2 V2 X1 PM V1
              go_wp2_with fail
              try rw [he]
              go_end0
              exact R.out
          · obtain ⟨w2, d2, S2, hs2, M2, rfl, rfl⟩ : ∃ w2 d2, Hid (St K B g c d2 w2) ∧ d2.size = d1.size ∧ Hid (Merged key a mid d1 d2) ∧ w2 = w1 ∧ d2 = d1 :=
              ⟨w1, d1, S1, rfl, Lib.hid (merged_none (halves_left L1.out (by omega))), rfl, rfl⟩
            have z3 : ¬ (a : Int) < (s : Int) := by omega
            by_cases p6 : e < b
            · have R2 := Lib.hid (halves_move R1.out (fun t h1 h2 => M2.out.1.2.1 t (Or.inr h1)) (by omega) (by omega))
              have V2 := Lib.hid (vals_move (vals_part V1.out (show a ≤ mid by omega) (Nat.le_refl b)) (fun t h1 h2 => M2.out.1.2.1 t (Or.inr h1)))
              have z5 : (mid : Int) < (e : Int) := by omega
              have z6 : (e : Int) < (b : Int) := by omega
              go_wp2_with fail
              try rw [he]
              refine (sym_at HI d2 w2 (by omega) (by omega) (by omega) (by omega) (by omega) (by omega) S2 V2 R2).mono ?_
              rintro _ w3 ⟨rfl, d3, S3, hs3, M3⟩
              have R : Hid (SymPost K B g c key a b d (.returned (.tuple #[])) w3) := Lib.hid ⟨rfl, d3, S3, by omega, (fun j => ⟨permIn_trans _ _ _ _ _ PM.out j.1, j.2⟩) (sym_join (by omega) (by omega) (by omega) X1.out M2.out M3)⟩
              clear S3 M3 S2 M2 R2 V2 X1 PM V1
              go_wp2
              go_end0
              exact R.out
            · have R2 := Lib.hid (halves_move R1.out (fun t h1 h2 => M2.out.1.2.1 t (Or.inr h1)) (by omega) (by omega))
              have V2 := Lib.hid (vals_move (vals_part V1.out (show a ≤ mid by omega) (Nat.le_refl b)) (fun t h1 h2 => M2.out.1.2.1 t (Or.inr h1)))
              have z5 : (mid : Int) < (e : Int) := by omega
              have z6 : ¬ (e : Int) < (b : Int) := by omega
              have R : Hid (SymPost K B g c key a b d (.returned (.tuple #[])) w2) := Lib.hid ⟨rfl, d2, S2.out, by omega, (fun j => ⟨permIn_trans _ _ _ _ _ PM.out j.1, j.2⟩) (sym_join (by omega) (by omega) (by omega) X1.out M2.out (merged_none (halves_left R2.out (by omega))))⟩
              clear S2 M2 R2 V2 X1 PM V1
              go_wp2_with fail
              try rw [he]
              go_end0
              exact R.out
        · have z1 : ¬ (s : Int) < (m : Int) := by omega
          obtain ⟨w1, d1, S1, hs1, PM, E1, rfl, rfl⟩ : ∃ w1 d1, Hid (St K B g c d1 w1) ∧ d1.size = d.size ∧ Hid (PermIn a b d d1) ∧ (∀ t, d1[t]! = rotF s m e (fun k => d[k]!) t) ∧ w1 = wr ∧ d1 = d :=
            ⟨wr, d, S, rfl, Lib.hid (permIn_refl _ _ _), fun t => (rot_none (by omega) _ t).symm, rfl, rfl⟩
          have V1 := Lib.hid (vals_perm HV.out PM.out hb)
          obtain ⟨L1, R1, X1⟩ := SPH.out d1 E1
          have L1 := Lib.hid L1
          have R1 := Lib.hid R1
          have X1 := Lib.hid X1
          clear SPH E1 LO UP HV HH
          by_cases p2 : s < mid
          · have z3 : (a : Int) < (s : Int) := by omega
            have z4 : (s : Int) < (mid : Int) := by omega
            go_wp2_with fail
            try rw [he]
            refine (sym_at HI d1 w1 (by omega) (by omega) (by omega) (by omega) (by omega) (by omega) S1 (Lib.hid (vals_part V1.out (Nat.le_refl a) (by omega))) L1).mono ?_
            rintro _ w2 ⟨rfl, d2, S2, hs2, M2⟩
            have S2 := Lib.hid S2
            have M2 := Lib.hid M2
            clear S1 L1
            have R2 := Lib.hid (halves_move R1.out (fun t h1 h2 => M2.out.1.2.1 t (Or.inr h1)) (by omega) (by omega))
            have V2 := Lib.hid (vals_move (vals_part V1.out (show a ≤ mid by omega) (Nat.le_refl b)) (fun t h1 h2 => M2.out.1.2.1 t (Or.inr h1)))
            have z5 : ¬ (mid : Int) < (e : Int) := by omega
            have R : Hid (SymPost K B g c key a b d1 (.returned (.tuple #[])) w2) := Lib.hid ⟨rfl, d2, S2.out, by omega, (fun j => ⟨permIn_trans _ _ _ _ _ PM.out j.1, j.2⟩) (sym_join (by omega) (by omega) (by omega) X1.out M2.out (merged_none (halves_left R2.out (by omega))))⟩
            clear S2 M2 R2 V2 X1 PM V1
            go_wp2_with fail
            try rw [he]
            go_end0
            exact R.out
          · obtain ⟨w2, d2, S2, hs2, M2, rfl, rfl⟩ : ∃ w2 d2, Hid (St K B g c d2 w2) ∧ d2.size = d1.size ∧ Hid (Merged key a mid d1 d2) ∧ w2 = w1 ∧ d2 = d1 :=
              ⟨w1, d1, S1, rfl, Lib.hid (merged_none (halves_left L1.out (by omega))), rfl, rfl⟩
            have z3 : (a : Int) < (s : Int) := by omega
            have z4 : ¬ (s : Int) < (mid : Int) := by omega
            have R2 := Lib.hid (halves_move R1.out (fun t h1 h2 => M2.out.1.2.1 t (Or.inr h1)) (by omega) (by omega))
            have V2 := Lib.hid (vals_move (vals_part V1.out (show a ≤ mid by omega) (Nat.le_refl b)) (fun t h1 h2 => M2.out.1.2.1 t (Or.inr h1)))
            have z5 : ¬ (mid : Int) < (e : Int) := by omega
            have R : Hid (SymPost K B g c key a b d2 (.returned (.tuple #[])) w2) := Lib.hid ⟨rfl, d2, S2.out, by omega, (fun j => ⟨permIn_trans _ _ _ _ _ PM.out j.1, j.2⟩) (sym_join (by omega) (by omega) (by omega) X1.out M2.out (merged_none (halves_left R2.out (by omega))))⟩
            clear S2 M2 R2 V2 X1 PM V1
            go_wp2_with fail
            try rw [he]
            go_end0
            exact R.out
end Go.Proofs.Ytmkmealgoafgdaa
