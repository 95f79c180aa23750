import Derived.Test.YtmkmealgoafgdaaStbSymG
import Derived.Test.YtmkmealgoafgdaaStbBlk
/- slices.SortStableFunc at int, over places. -/
namespace Go.Proofs.Ytmkmealgoafgdaa
open Go Go.RowKit Go.Sort
set_option linter.unusedVariables false
set_option linter.unusedSimpArgs false
set_option maxHeartbeats 8000000
set_option maxRecDepth 100000
variable {K : World → Prop} {B g c : Nat} {key : Int → Int}

theorem sym_any (hK : Keep g K) (n : Nat) (bx : Value) (hC : Cmp K key n bx) (sz : Nat) : SymOK K B g c key n bx sz := by
  induction sz with
  | zero => intro a m b d w h1 h2 h3; omega
  | succ sz ih =>
    intro a m b d w h1 h2 h3 hb hd S V H
    by_cases c1 : m = a + 1
    · subst c1
      exact sym_left hK a b n d bx hC w S.out h3 hb hd V H
    · by_cases c2 : b = m + 1
      · subst c2
        exact sym_right hK a m n d bx hC w S.out (by omega) hb hd V H
      · exact sym_gen hK n bx hC sz ih a m b d w h1 (by omega) (by omega) hb hd S.out V H
theorem sym_atz {D : Nat} {X Y Z : Int} (hK : Hid (Keep g K)) (n : Nat) (bx : Value) (hC : Hid (Cmp K key n bx)) (a m b : Nat) (d : Array Int) (w : World) (hD : D = d.size) (hX : X = a) (hY : Y = m) (hZ : Z = b) (ham : a < m) (hmb : m < b) (hb : b ≤ d.size) (hd : d.size < 4611686018427387904) (S : Hid (St K B g c d w)) (V : Hid (Vals n a b d)) (H : Hid (Halves key a m b d)) :
    Calls Try.prog 25 #[.slice (some ⟨g, 0, none⟩) D c, .int .i64 X, .int .i64 Y, .int .i64 Z, (.func (.func 16) #[] #[bx])] w (SymPost K B g c key a b d) := by
  subst hD hX hY hZ; exact sym_any hK.out n bx hC.out (b - a) a m b d w (Nat.le_refl _) ham hmb hb hd S V.out H.out
/-- Nothing to sort. -/
theorem insertion_none (A : Option Addr) (n c : Nat) (a b : Int) (F : Value) (w : World) (h : a = b) (ha : 0 ≤ a) (hb : b < 4611686018427387904) :
    Calls Try.prog 24 #[.slice A n c, .int .i64 a, .int .i64 b, F] w fun e w' => e = .returned (.tuple #[]) ∧ w' = w := by
  subst h
  go_enter Try.func24, Try.ntmps24
  go_wp2
  have z : ¬ a + 1 < a := by omega
  go_loopw [8] (fun vi wr => vi = .int .i64 (a + 1) ∧ wr = w) (fun _ _ => 0)
  case atStart => exact ⟨by go_num, rfl⟩
  case round =>
    obtain ⟨rfl, rfl⟩ := hrel
    go_wp2
    go_end0
    exact ⟨rfl, rfl⟩
theorem insertion_at {D : Nat} {X Y : Int} (hK : Hid (Keep g K)) (a b n : Nat) (d : Array Int) (bx : Value) (hC : Hid (Cmp K key n bx)) (w : World) (h : Hid (St K B g c d w)) (hD : D = d.size) (hX : X = a) (hY : Y = b) (hab : a ≤ b) (hb : b ≤ d.size) (hn : d.size ≤ n) (hd : d.size < 4611686018427387904)
    (hid : Hid (∀ t, a ≤ t → t < b → d[t]! = (t : Int))) :
    Calls Try.prog 24 #[.slice (some ⟨g, 0, none⟩) D c, .int .i64 X, .int .i64 Y, (.func (.func 16) #[] #[bx])] w (SymPost K B g c key a b d) := by
  subst hD hX hY
  by_cases c1 : a < b
  · exact insertion_any hK.out a b n d bx hC.out w h.out c1 hb hn hd hid.out
  · obtain rfl : a = b := by omega
    exact (insertion_none _ _ _ _ _ _ w rfl (by omega) (by omega)).mono fun e w' ⟨h1, h2⟩ => ⟨h1, d, h2 ▸ h.out, rfl, merged_none fun p q h1 h2 h3 => by omega⟩

/-- The places 0, 1, .. -/
def Idn (d : Array Int) : Prop := ∀ t, t < d.size → d[t]! = (t : Int)
theorem stable_any (hK : Keep g K) (d : Array Int) (bx : Value) (hC : Cmp K key d.size bx) (w : World) (h : St K B g c d w) (hd : d.size < 1152921504606846976) (h0 : 0 < d.size) (hid : Idn d) :
    Calls Try.prog 21 #[.slice (some ⟨g, 0, none⟩) d.size c, .int .i64 d.size, (.func (.func 16) #[] #[bx])] w (SymPost K B g c key 0 d.size d) := by
  have HK := Lib.hid hK
  have HC := Lib.hid hC
  have H0 := Lib.hid h
  have HI := Lib.hid hid
  obtain ⟨n, hn⟩ : ∃ n, n = d.size := ⟨_, rfl⟩
  have hVal : Vals n 0 n d := fun t _ h2 => by rw [hid t (by omega)]; omega
  have HV := Lib.hid hVal
  clear hK h hC hid hVal
  rw [← hn] at HC ⊢
  have hn1 : n ≤ d.size ∧ d.size ≤ n := by omega
  clear hn
  go_enter Try.func21, Try.ntmps21
  go_wp2_with fail
  go_loopw [7, 8] (fun va vb wr => ∃ (q A E : Nat) (dk : Array Int), va = .int .i64 A ∧ vb = .int .i64 E ∧ A = q * 20 ∧ E = A + 20 ∧ A ≤ n ∧ dk.size = d.size ∧ Hid (St K B g c dk wr) ∧ Hid (Fst key q n dk) ∧ Hid (PermIn 0 n d dk)) (fun va _ _ => n - (intOf va).toNat)
  case atStart => exact ⟨0, 0, 20, d, rfl, rfl, by omega, by omega, by omega, rfl, H0, Lib.hid ⟨fun p hp => absurd hp (by omega), fun t _ h2 => HI.out t (by omega)⟩, Lib.hid (permIn_refl _ _ _)⟩
  case round =>
    clear H0
    obtain ⟨q, A, E, dk, rfl, rfl, hA, hE, hAn, hs, S, F, P⟩ := hrel
    have hA1 : A ≤ q * 20 ∧ q * 20 ≤ A := by omega
    have hE1 : E ≤ A + 20 ∧ A + 20 ≤ E := by omega
    clear hA hE
    by_cases hlt : E ≤ n
    · have hltz : (E : Int) ≤ n := by omega
      go_wp2_with fail
      refine (insertion_at HK A E n dk bx HC wr S (by omega) rfl rfl (by omega) (by omega) (by omega) (by omega) (Lib.hid fun t h1 h2 => F.out.rest t (by omega) (by omega))).mono ?_
      rintro _ w1 ⟨rfl, d1, S1, hs1, M1⟩
      have S1 := Lib.hid S1
      have hAq : A = q * 20 := by omega
      have hEq : E = q * 20 + 20 := by omega
      have F1 := Lib.hid (F.out.step (by omega) (by omega) (by rw [← hEq, ← hAq]; exact M1))
      have P1 := Lib.hid (permIn_trans _ _ _ _ _ P.out (permIn_mono _ _ _ _ _ _ (Nat.zero_le _) hlt (by omega) M1.1))
      clear S F P M1 hAq hEq
      go_wp2_with fail
      go_roundw
      case rel => exact ⟨q + 1, E, E + 20, d1, rfl, by go_num, by omega, by omega, hlt, by omega, S1, F1, P1⟩
      case measure => simp [intOf] <;> omega
    · have hltz : ¬ (E : Int) ≤ n := by omega
      go_wp2_with fail
      refine (insertion_at HK A n n dk bx HC wr S (by omega) rfl rfl (by omega) (by omega) (by omega) (by omega) (Lib.hid fun t h1 h2 => F.out.rest t (by omega) (by omega))).mono ?_
      rintro _ w1 ⟨rfl, d1, S1, hs1, M1⟩
      have S1 := Lib.hid S1
      have hAq : A = q * 20 := by omega
      have B1 := Lib.hid (F.out.fin (by omega) (by omega) (by omega) (by rw [← hAq]; exact M1))
      have P1 := Lib.hid (permIn_trans _ _ _ _ _ P.out (permIn_mono _ _ _ _ _ _ (Nat.zero_le _) (Nat.le_refl _) (by omega) M1.1))
      clear S F P M1 hAq hA1 hE1 hltz hlt hAn
      go_wp2_with fail
      go_loopw [6] (fun vb wr => ∃ (bs : Nat) (dk : Array Int), vb = .int .i64 bs ∧ 0 < bs ∧ bs < 2305843009213693952 ∧ dk.size = d.size ∧ Hid (St K B g c dk wr) ∧ Hid (Blks key bs n dk) ∧ Hid (PermIn 0 n d dk)) (fun vb _ => n - (intOf vb).toNat)
      case atStart => exact ⟨20, d1, rfl, by omega, by omega, by omega, S1, B1, P1⟩
      case round =>
        clear S1 B1 P1 hs hs1
        obtain ⟨bs, dk, rfl, hb0, hb1, hs, S, BK, P⟩ := hrel
        by_cases hlt : bs < n
        · have hltz : (bs : Int) < n := by omega
          go_wp2_with fail
          go_loopw [7, 8] (fun va vb wr => ∃ (q A E : Nat) (dk : Array Int), va = .int .i64 A ∧ vb = .int .i64 E ∧ E = A + 2 * bs ∧ A ≤ n ∧ dk.size = d.size ∧ Hid (St K B g c dk wr) ∧ Hid (Mrg key bs q A n dk) ∧ Hid (PermIn 0 n d dk)) (fun va _ _ => n - (intOf va).toNat)
          case atStart => exact ⟨0, 0, 2 * bs, dk, rfl, by go_num, by omega, by omega, hs, S, Lib.hid (Mrg.start BK.out), P⟩
          case round =>
            clear S BK P hs
            obtain ⟨q, A, E, dk, rfl, rfl, hE, hAn, hs, S, F, P⟩ := hrel
            have hE1 : E ≤ A + 2 * bs ∧ A + 2 * bs ≤ E := by omega
            have V := Lib.hid (vals_perm HV.out P.out (by omega))
            clear hE
            by_cases hle : E ≤ n
            · have hlez : (E : Int) ≤ n := by omega
              have o1 := F.out.one (by omega)
              have o2 := F.out.two (by omega)
              rw [show min (A + bs) n = A + bs by omega] at o1
              rw [show min (A + bs + bs) n = E by omega] at o2
              have HH := Lib.hid (blk_halves o1 o2)
              clear o1 o2
              go_wp2_with fail
              refine (sym_atz HK n bx HC A (A + bs) E dk wr (by omega) rfl (by omega) rfl (by omega) (by omega) (by omega) (by omega) S (Lib.hid (vals_part V.out (Nat.zero_le _) hle)) HH).mono ?_
              rintro _ w1 ⟨rfl, d1, S1, hs1, M1⟩
              have S1 := Lib.hid S1
              have hEq : E = A + 2 * bs := by omega
              have F1 := Lib.hid (F.out.step hb0 (by omega) (by omega) (by rw [← hEq]; exact M1))
              rw [← hEq] at F1
              have P1 := Lib.hid (permIn_trans _ _ _ _ _ P.out (permIn_mono _ _ _ _ _ _ (Nat.zero_le _) hle (by omega) M1.1))
              clear S F P M1 hEq HH V
              go_wp2_with fail
              go_roundw
              case rel => exact ⟨q + 1, E, E + 2 * bs, d1, rfl, by go_num, by omega, hle, by omega, S1, F1, P1⟩
              case measure => simp [intOf] <;> omega
            · have hlez : ¬ (E : Int) ≤ n := by omega
              by_cases hm : A + bs < n
              · have hmz : (A : Int) + (bs : Int) < n := by omega
                have o1 := F.out.one (by omega)
                have o2 := F.out.two (by omega)
                rw [show min (A + bs) n = A + bs by omega] at o1
                rw [show min (A + bs + bs) n = n by omega] at o2
                have HH := Lib.hid (blk_halves o1 o2)
                clear o1 o2
                go_wp2_with fail
                refine (sym_atz HK n bx HC A (A + bs) n dk wr (by omega) rfl (by omega) rfl (by omega) (by omega) (by omega) (by omega) S (Lib.hid (vals_part V.out (Nat.zero_le _) (Nat.le_refl _))) HH).mono ?_
                rintro _ w1 ⟨rfl, d1, S1, hs1, M1⟩
                have S1 := Lib.hid S1
                have F1 := Lib.hid (F.out.fin hb0 (by omega) hAn (by omega) (fun _ => M1) (fun h => absurd h (by omega)))
                have P1 := Lib.hid (permIn_trans _ _ _ _ _ P.out (permIn_mono _ _ _ _ _ _ (Nat.zero_le _) (Nat.le_refl _) (by omega) M1.1))
                clear S F P M1 HH V
                go_wp2_with fail
                go_roundw
                case rel => exact ⟨2 * bs, d1, by congr 1; omega, by omega, by omega, by omega, S1, F1, P1⟩
                case measure => simp [intOf] <;> omega
              · have hmz : ¬ (A : Int) + (bs : Int) < n := by omega
                have F1 := Lib.hid (F.out.fin (d' := dk) hb0 (by omega) hAn (by omega) (fun h => absurd h hm) (fun _ => rfl))
                clear F V
                go_wp2_with fail
                go_roundw
                case rel => exact ⟨2 * bs, dk, by congr 1; omega, by omega, by omega, by omega, S, F1, P⟩
                case measure => simp [intOf] <;> omega
        · have hltz : ¬ (bs : Int) < n := by omega
          have R : Hid (SymPost K B g c key 0 n d (.returned (.tuple #[])) wr) := Lib.hid ⟨rfl, dk, S.out, hs, P.out, blks_all BK.out (by omega) (by omega)⟩
          clear S BK P
          go_wp2_with fail
          go_end0
          exact R.out
theorem sortStable_any (hK : Keep g K) (d : Array Int) (bx : Value) (hC : Cmp K key d.size bx) (w : World) (h : St K B g c d w) (hd : d.size < 1152921504606846976) (h0 : 0 < d.size) (hid : Idn d) :
    Calls Try.prog 15 #[.slice (some ⟨g, 0, none⟩) d.size c, (.func (.func 16) #[] #[bx])] w (SymPost K B g c key 0 d.size d) := by
  have HS := Lib.hid (stable_any hK d bx hC w h hd h0 hid)
  clear hK h hC hid
  go_enter Try.func15, Try.ntmps15
  go_wp2_with fail
  refine HS.out.mono ?_
  rintro _ w1 ⟨rfl, R⟩
  have R := Lib.hid R
  go_wp2
  go_end0
  exact ⟨rfl, R.out⟩
/-- Nothing to sort. -/
theorem stable_none (A : Option Addr) (c : Nat) (F : Value) (w : World) :
    Calls Try.prog 21 #[.slice A 0 c, .int .i64 0, F] w fun e w' => e = .returned (.tuple #[]) ∧ w' = w := by
  go_enter Try.func21, Try.ntmps21
  go_wp2_with fail
  go_loopw [7, 8] (fun v7 v8 wr => v7 = .int .i64 0 ∧ v8 = .int .i64 20 ∧ wr = w) (fun _ _ _ => 0)
  case atStart => exact ⟨rfl, rfl, rfl⟩
  case round =>
    obtain ⟨rfl, rfl, rfl⟩ := hrel
    go_wp2_with fail
    refine (insertion_none A 0 c 0 0 F wr rfl (by omega) (by omega)).mono ?_
    rintro _ w1 ⟨rfl, rfl⟩
    go_wp2_with fail
    go_loopw [6] (fun v6 wr => v6 = .int .i64 20 ∧ wr = w1) (fun _ _ => 0)
    case atStart => exact ⟨rfl, rfl⟩
    case round =>
      obtain ⟨rfl, rfl⟩ := hrel
      go_wp2_with fail
      go_end0
      exact ⟨rfl, rfl⟩
theorem sortStable_none (A : Option Addr) (c : Nat) (F : Value) (w : World) :
    Calls Try.prog 15 #[.slice A 0 c, F] w fun e w' => e = .returned (.tuple #[]) ∧ w' = w := by
  have HS := Lib.hid (stable_none A c F w)
  go_enter Try.func15, Try.ntmps15
  go_wp2_with fail
  refine HS.out.mono ?_
  rintro _ w1 ⟨rfl, rfl⟩
  go_wp2
  go_end0
  exact ⟨rfl, rfl⟩
end Go.Proofs.Ytmkmealgoafgdaa
