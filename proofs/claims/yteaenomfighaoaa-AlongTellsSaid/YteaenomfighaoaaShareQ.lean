import Derived.Test.YteaenomfighaoaaZQ
import Derived.Test.YteaenomfighaoaaRatioQ
import Derived.Deep.OwnRows
import Derived.Deep.QuietTactic
import Derived.BigQuiet
/- unit.sum and unit.Share by their contracts. -/
namespace Go.Proofs.Yteaenomfighaoaa
open Go.RowKit
set_option linter.unusedVariables false
set_option linter.unusedSimpArgs false

theorem ret_ib {a b : Int} {t : Bool} (h : a = b) : Ending.returned (.tuple #[.int .i64 a, .bool t]) = .returned (.tuple #[.int .i64 b, .bool t]) := by rw [h]
theorem sum_yes (A : Option Addr) (c : Nat) (zs : List Int) (w : World) (B : Nat) (hr : Row w B A (i64s zs)) (hl : zs.length ≤ 1000) (ha : zs.all wOk = true) :
    Calls Try.prog 36 #[.slice A zs.length c] w fun e w' => e = .returned (.tuple #[.int .i64 zs.sum, .bool true]) ∧ w = w' := by
  have HA := Lib.hid ha
  clear ha
  go_enter Try.func36, Try.ntmps36
  go_wp2
  go_loop [4, 12] (fun t i => ∃ k : Nat, k ≤ zs.length ∧ i = .int .i64 k ∧ t = .int .i64 (zs.take k).sum) (fun _ i => zs.length - (intOf i).toNat)
  case atStart => exact ⟨0, Nat.zero_le _, rfl, by simp⟩
  case round =>
    obtain ⟨k, hk, rfl, rfl⟩ := hrel
    by_cases hlt : k < zs.length
    · obtain ⟨ad, rfl, _, hc⟩ := hr.int hlt
      obtain ⟨h1, h2⟩ := all_get zs HA.out k hlt
      obtain ⟨h3, h4⟩ := wsum_bd _ (all_take zs k HA.out)
      have h5 : (zs.take k).length ≤ 1000 := by rw [List.length_take]; omega
      have h4' : (zs.take k).sum ≤ 1125899906842624000 := by omega
      have hs := Lib.hid (sum_take_succ zs k hlt)
      clear hr h4 h5
      generalize zs[k] = z at *
      go_wp2
      go_round
      case rel => exact ⟨k + 1, by omega, by go_num, by rw [hs.out]⟩
      case measure => simp [intOf]; omega
    · go_wp2
      obtain rfl : k = zs.length := by omega
      go_ret2
      exact ⟨ret_ib (by rw [List.take_length]), rfl⟩
theorem sum_bad (A : Option Addr) (c : Nat) (zs : List Int) (w : World) (B : Nat) (hr : Row w B A (i64s zs)) (hl : zs.length ≤ 1000) (j : Nat) (hj : j < zs.length) (ha : (zs.take j).all wOk = true) (hb : wOk zs[j] = false) :
    Calls Try.prog 36 #[.slice A zs.length c] w fun e w' => e = .returned (.tuple #[.int .i64 0, .bool false]) ∧ w = w' := by
  have HA := Lib.hid ha
  have hb' : zs[j] < 0 ∨ (0 ≤ zs[j] ∧ 1125899906842624 < zs[j]) := by simp [wOk] at hb; omega
  have HB := Lib.hid hb'
  clear ha hb hb'
  go_enter Try.func36, Try.ntmps36
  go_wp2
  go_loop [4, 12] (fun t i => ∃ k : Nat, k ≤ j ∧ i = .int .i64 k ∧ t = .int .i64 (zs.take k).sum) (fun _ i => zs.length - (intOf i).toNat)
  case atStart => exact ⟨0, Nat.zero_le _, rfl, by simp⟩
  case round =>
    obtain ⟨k, hk, rfl, rfl⟩ := hrel
    obtain ⟨ad, rfl, _, hc⟩ := hr.int (show k < zs.length by omega)
    have hlt : k < zs.length := by omega
    by_cases hkj : k < j
    · have e : zs.take k = (zs.take j).take k := by rw [List.take_take, Nat.min_eq_left (by omega)]
      have h0 := all_get (zs.take j) HA.out k (by simp; omega)
      rw [List.getElem_take] at h0
      obtain ⟨h1, h2⟩ := h0
      obtain ⟨h3, h4⟩ := wsum_bd _ (all_take (zs.take j) k HA.out)
      rw [← e] at h3 h4
      have h5 : (zs.take k).length ≤ 1000 := by rw [List.length_take]; omega
      have h4' : (zs.take k).sum ≤ 1125899906842624000 := by omega
      have hs := Lib.hid (sum_take_succ zs k hlt)
      clear hr h4 h5 e HB
      generalize zs[k] = z at *
      go_wp2
      go_round
      case rel => exact ⟨k + 1, by omega, by go_num, by rw [hs.out]⟩
      case measure => simp [intOf]; omega
    · obtain rfl : k = j := by omega
      have hb := HB.out
      clear HB HA hr
      generalize zs[k] = z at *
      rcases hb with hb | ⟨hb, hb2⟩
      all_goals
        go_wp2
        go_ret2
        exact ⟨rfl, rfl⟩
theorem sum_long (A : Option Addr) (c n : Nat) (w : World) (hl : ¬ n ≤ 1000) (hn : n ≤ 9223372036854775807) :
    Calls Try.prog 36 #[.slice A n c] w fun e w' => e = .returned (.tuple #[.int .i64 0, .bool false]) ∧ w = w' := by
  go_enter Try.func36, Try.ntmps36
  go_wp2
  go_ret2
  exact ⟨rfl, rfl⟩
theorem sum_no (A : Option Addr) (c : Nat) (zs : List Int) (w : World) (B : Nat) (hr : Row w B A (i64s zs)) (hm : zs.length ≤ 9223372036854775807) (h : sumOk zs = false) :
    Calls Try.prog 36 #[.slice A zs.length c] w fun e w' => e = .returned (.tuple #[.int .i64 0, .bool false]) ∧ w = w' := by
  by_cases hl : zs.length ≤ 1000
  · have ha : zs.all wOk = false := by simpa [sumOk, hl] using h
    obtain ⟨j, hj, h1, h2⟩ := not_all zs ha
    exact sum_bad A c zs w B hr hl j hj h1 h2
  · exact sum_long A c _ w hl hm

theorem int_info : (Try.prog.info? 2).map (fun i => (i.zero, i.size, i.bytes)) = some (some (.int .i64 0), 1, 8) := by kernel_rfl

theorem share_yes (n : Int) (A : Option Addr) (c : Nat) (zs : List Int) (w : World) (B : Nat) (hB : B ≤ w.heap.size) (hr0 : Row w B A (i64s zs)) (hok : shareOk n zs = true) :
    Calls Try.prog 34 #[.int .i64 n, .slice A zs.length c] w fun e w' =>
      e = .returned (.slice (some ⟨w.heap.size, 0, none⟩) zs.length zs.length) ∧ w'.rowIs w.heap.size 2 zs.length (fun i => .int .i64 (shareAt n zs i)) ∧ Below w.heap.size w w' := by
  have hr := hr0.more hB
  clear hr0 hB
  have hok' : (zs.length ≤ 1000 ∧ zs.all wOk = true) ∧ -1152921504606846976 ≤ n ∧ n ≤ 1152921504606846976 := by simpa [shareOk, sumOk] using hok
  obtain ⟨⟨hl, hall⟩, hn1, hn2⟩ := hok'
  have hsh : decide (-1152921504606846976 ≤ n ∧ n ≤ 1152921504606846976) = true := by simp [hn1, hn2]
  have HS := Lib.hid (fun (W : World) (h : Row W w.heap.size A (i64s zs)) => sum_yes A c zs W _ h hl hall)
  have hmk := fun W => run_make_row' (P := Try.prog) 24 2 (.int .i64 0) 8 Try.underlying24 int_info rfl .i64 .i64 zs.length (by omega) (by omega) W
  have hnew := World.rowIs_made w (.int .i64 0) zs.length 2
  have HA := Lib.hid hall
  clear hok hall
  go_enter Try.func34, Try.ntmps34
  go_wp2_with (first
    | (go_at_call 36; refine (HS.out _ hr).mono ?_; rintro e w' ⟨rfl, rfl⟩)
    | (go_at_call 37; refine (sharable_any _ _).mono ?_; rintro e w' ⟨rfl, rfl⟩; rw [hsh])
    | (go_at_call 38; fail))
  clear hmk HS
  have hW := (Below.refl w.heap.size w).alloc (Nat.le_refl _) (.cells (madeCells #[.int .i64 0] zs.length) 2)
  generalize w.alloc (.cells (madeCells #[.int .i64 0] zs.length) 2) = w1 at *
  go_loopw [8, 9, 30] (fun u g i wr => ∃ k : Nat, k ≤ zs.length ∧ i = .int .i64 k ∧ u = .int .i64 (zs.take k).sum ∧ g = .int .i64 (ratZ n (zs.take k).sum zs.sum) ∧
      wr.rowIs w.heap.size 2 zs.length (fun j => .int .i64 (if j < k then shareAt n zs j else 0)) ∧ Below w.heap.size w wr)
    (fun _ _ i _ => zs.length - (intOf i).toNat)
  case atStart => exact ⟨0, Nat.zero_le _, rfl, by simp, by simp [ratZ_zero], hnew.congr (fun i hi => by simp), hW⟩
  case round =>
    obtain ⟨k, hk, rfl, rfl, rfl, hrow, hbel⟩ := hrel
    by_cases hlt : k < zs.length
    · obtain ⟨ad, rfl, _, hc⟩ := (hr.below hbel).int hlt
      obtain ⟨h1, h2⟩ := all_get zs HA.out k hlt
      obtain ⟨h3, h4⟩ := wsum_bd _ (all_take zs k HA.out)
      have h5 : (zs.take k).length ≤ 1000 := by rw [List.length_take]; omega
      have h4' : (zs.take k).sum ≤ 1125899906842624000 := by omega
      have hs := Lib.hid (sum_take_succ zs k hlt)
      have hcell := hrow.cell hlt
      have hfr := hrow.frozen k
      simp only [Nat.lt_irrefl, if_false] at hcell
      have b1 := ratZ_bd n (zs.take k).sum zs.sum
      have b2 := ratZ_bd n (zs.take (k + 1)).sum zs.sum
      have HR := Lib.hid hrow
      clear h4 h5 hr hnew hW hrow
      rw [hs.out] at b2
      obtain ⟨b1a, b1b⟩ := b1
      obtain ⟨b2a, b2b⟩ := b2
      generalize zs[k] = z at *
      go_wp2_with (go_at_call 38; refine (ratio_any _ _ _ _).mono ?_; rintro e w' ⟨rfl, kk, rfl⟩)
      go_roundw
      case rel =>
        refine ⟨k + 1, by omega, by go_num, by rw [hs.out], by rw [hs.out], ?_, (Below.drewN' hbel kk).setCell (Nat.le_refl _) _⟩
        refine (World.rowIs.set (w := wr.drewN kk) HR.out k _).congr fun j hj => ?_
        rw [← hs.out]
        by_cases hjk : j = k
        · subst hjk; simp [shareAt]
        · simp only [if_neg hjk, show (j < k + 1) = (j < k) from by simp; omega]
      case measure => simp [intOf]; omega
    · go_wp2
      obtain rfl : k = zs.length := by omega
      go_ret
      exact ⟨rfl, hrow.congr (fun i hi => by simp [hi]), hbel⟩
theorem row_of_rowIs {w : World} {g : Nat} {t : TypeId} {n B : Nat} {f : Nat → Int} (h : w.rowIs g t n (fun i => .int .i64 (f i))) (hB : g < B) : Row w B (some ⟨g, 0, none⟩) (i64s ((List.range n).map f)) := by
  intro _
  refine ⟨_, rfl, hB, fun i hi => ?_⟩
  have hi' : i < n := by simpa [i64s] using hi
  rw [show (⟨g, 0, none⟩ : Addr).add i = ⟨g, i, none⟩ by unfold Addr.add; split <;> simp_all]
  rw [h.cell hi']
  simp [i64s]
theorem share_no (n : Int) (A : Option Addr) (c : Nat) (zs : List Int) (w : World) (B : Nat) (hr : Row w B A (i64s zs)) (hm : zs.length ≤ 9223372036854775807) (hok : shareOk n zs = false) :
    Calls Try.prog 34 #[.int .i64 n, .slice A zs.length c] w fun e w' => e = .returned (.slice none 0 0) ∧ w = w' := by
  by_cases hs : sumOk zs = true
  · have hd : decide (-1152921504606846976 ≤ n ∧ n ≤ 1152921504606846976) = false := by simpa [shareOk, hs] using hok
    have hs' : zs.length ≤ 1000 ∧ zs.all wOk = true := by simpa [sumOk] using hs
    have HS := Lib.hid (sum_yes A c zs w _ hr hs'.1 hs'.2)
    clear hr hs hs' hok
    go_enter Try.func34, Try.ntmps34
    go_wp2_with (first
      | (go_at_call 36; refine HS.out.mono ?_; rintro e w' ⟨rfl, rfl⟩)
      | (go_at_call 37; refine (sharable_any _ _).mono ?_; rintro e w' ⟨rfl, rfl⟩; rw [hd]))
    go_ret
    exact ⟨rfl, rfl⟩
  · have HS := Lib.hid (sum_no A c zs w _ hr hm (by simpa using hs))
    clear hr hs hok
    go_enter Try.func34, Try.ntmps34
    go_wp2_with (first
      | (go_at_call 36; refine HS.out.mono ?_; rintro e w' ⟨rfl, rfl⟩)
      | (go_at_call 37; refine (sharable_any _ _).mono ?_; rintro e w' ⟨rfl, rfl⟩))
    go_ret
    exact ⟨rfl, rfl⟩
/-- Share, whatever it is given. -/
theorem share_any (n : Int) (A : Option Addr) (c : Nat) (zs : List Int) (w : World) (B : Nat) (hB : B ≤ w.heap.size) (hr : Row w B A (i64s zs)) (hm : zs.length ≤ 9223372036854775807) :
    Calls Try.prog 34 #[.int .i64 n, .slice A zs.length c] w fun e w' =>
      ∃ A' c', e = .returned (.slice A' (shareZ n zs).length c') ∧ Row w' w'.heap.size A' (i64s (shareZ n zs)) ∧ Below w.heap.size w w' := by
  by_cases hok : shareOk n zs = true
  · refine (share_yes n A c zs w B hB hr hok).mono ?_
    rintro e w' ⟨rfl, hrow, hb⟩
    refine ⟨some ⟨w.heap.size, 0, none⟩, zs.length, ?_, ?_, hb⟩
    · rw [shareZ_yes n zs hok]; simp
    · rw [shareZ_yes n zs hok]
      exact row_of_rowIs hrow hrow.lt
  · have hok' : shareOk n zs = false := by simpa using hok
    refine (share_no n A c zs w B hr hm hok').mono ?_
    rintro e w' ⟨rfl, rfl⟩
    have e : shareZ n zs = [] := by simp [shareZ, hok']
    rw [e]
    exact ⟨none, 0, rfl, Row.nil _ _ _, Below.refl _ _⟩
end Go.Proofs.Yteaenomfighaoaa
