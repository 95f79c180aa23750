import Derived.Test.YtcdjdpgjflhjiaaAwake
import Derived.IntWalk
/- quoinlaw1.UnitHolds answers true, whatever it is given. -/
namespace Go.Proofs.Ytcdjdpgjflhjiaa
open Go.RowKit
set_option linter.unusedVariables false
set_option linter.unusedSimpArgs false

/-- The small numbers of the law. -/
def smalls (zs : List Int) : List Int := zs.map fun z => z.tmod 10000000

theorem smalls_length (zs : List Int) : (smalls zs).length = zs.length := by simp [smalls]
theorem small_bd (z : Int) : -9999999 ≤ z.tmod 10000000 ∧ z.tmod 10000000 ≤ 9999999 := by
  have h1 := Int.tmod_lt_of_pos z (show (0 : Int) < 10000000 by decide)
  have h2 := Int.lt_tmod_of_pos z (show (0 : Int) < 10000000 by decide)
  omega
def Small (zs : List Int) : Prop := ∀ z ∈ zs, -9999999 ≤ z ∧ z ≤ 9999999
theorem smalls_small (zs : List Int) : Small (smalls zs) := by
  intro z hz
  obtain ⟨y, _, rfl⟩ := List.mem_map.1 hz
  exact small_bd y
theorem small_sum (zs : List Int) (h : Small zs) : -(9999999 * (zs.length : Int)) ≤ zs.sum ∧ zs.sum ≤ 9999999 * (zs.length : Int) := by
  induction zs with
  | nil => simp
  | cons z zs ih =>
    have h1 := h z (by simp)
    have h2 := ih (fun y hy => h y (by simp [hy]))
    simp only [List.sum_cons, List.length_cons]
    omega
theorem addZ_small (zs : List Int) (h : Small zs) (hl : zs.length ≤ 60) : addZ zs = zs.sum := by
  have key : ∀ k, k ≤ zs.length → addZ (zs.take k) = (zs.take k).sum := by
    intro k
    induction k with
    | zero => intro _; simp [addZ]
    | succ k ih =>
      intro hk
      have hk' : k < zs.length := by omega
      rw [addZ_take zs k hk', ih (by omega), sum_take_succ zs k hk']
      have h1 := h _ (List.getElem_mem hk')
      have h2 := small_sum (zs.take k) (fun y hy => h y (List.mem_of_mem_take hy))
      have h3 : (zs.take k).length ≤ 60 := by rw [List.length_take]; omega
      unfold holdZ
      omega
  have := key zs.length (Nat.le_refl _)
  rwa [List.take_length] at this
theorem sum_reverse' (zs : List Int) : zs.reverse.sum = zs.sum := by
  induction zs with
  | nil => rfl
  | cons z zs ih => simp [List.sum_append, ih]; omega
theorem small_reverse (zs : List Int) (h : Small zs) : Small zs.reverse := fun z hz => h z (by simpa using hz)
theorem addZ_cut (zs : List Int) (k : Nat) : addZ (addZ (zs.take k) :: zs.drop k) = addZ zs := by
  have h1 := addZ_bd (zs.take k)
  have h : holdZ (0 + holdZ (addZ (zs.take k))) = addZ (zs.take k) := by
    generalize addZ (zs.take k) = a at *
    unfold holdZ; omega
  have e : addZ zs = (zs.drop k).foldl (fun s z => holdZ (s + holdZ z)) (addZ (zs.take k)) := by
    conv => lhs; rw [← List.take_append_drop k zs]
    unfold addZ
    rw [List.foldl_append]
  rw [e]
  show (zs.drop k).foldl _ (holdZ (0 + holdZ (addZ (zs.take k)))) = _
  rw [h]
theorem smalls_take_succ (zs : List Int) (k : Nat) (h : k < zs.length) : smalls (zs.take (k + 1)) = smalls (zs.take k) ++ [zs[k].tmod 10000000] := by
  rw [take_succ' zs k h]; unfold smalls; rw [List.map_append]; rfl
theorem smalls_sum_succ (zs : List Int) (k : Nat) (h : k < zs.length) : (smalls (zs.take (k + 1))).sum = (smalls (zs.take k)).sum + zs[k].tmod 10000000 := by
  rw [smalls_take_succ zs k h, List.sum_append]; simp

theorem rev_row {w : World} {B : Nat} {A : Option Addr} {ss : List Int} (h : Row w B A (i64s ss)) (n p : Nat) (hn : ss.length = n) (hp : 0 < p) (hpn : p ≤ n) :
    ∃ ad y, A = some ad ∧ w.cell? (ad.add (p - 1)) = some (.int .i64 y) ∧ ss.reverse.take (n - p + 1) = ss.reverse.take (n - p) ++ [y] := by
  obtain ⟨ad, e, _, hc⟩ := h.int (show p - 1 < ss.length by omega)
  refine ⟨ad, _, e, hc, ?_⟩
  rw [take_succ' _ _ (by simp; omega)]
  congr 2
  rw [List.getElem_reverse]
  congr 1
  omega
set_option maxHeartbeats 4000000 in
theorem holds_walk (a0 : Int) (l0 : -9223372036854775808 ≤ a0) (u0 : a0 ≤ 9223372036854775807) (A : Option Addr) (c : Nat) (zs : List Int) (cut : Int) (lc : -9223372036854775808 ≤ cut) (uc : cut ≤ 9223372036854775807)
    (w : World) (hr : Row w w.heap.size A (i64s zs)) (hz : ints64 zs) (hc : zs.length ≤ c) (hm : c ≤ maxLen) (hnil : A = none → c = 0) :
    Calls Try.prog 3 #[.int .i64 a0, .slice A zs.length c, .int .i64 cut] w fun e w' => e = .returned (.bool true) ∧ Below w.heap.size w w' := by
  unfold maxLen at hm
  by_cases hl : zs.length ≤ 60
  · have HZ := Lib.hid hz
    have hnil' := Lib.hid hnil
    clear hz
    go_enter Try.func3, Try.ntmps3
    go_wp2_with (first
      | (go_at_call 10; refine (hold_any _ _ l0 u0).mono ?_; rintro e w' ⟨rfl, rfl⟩))
    go_loopw [8, 10, 11] (fun v s i wr => ∃ (k : Nat) (A1 : Option Addr) (c1 : Nat), k ≤ zs.length ∧ i = .int .i64 k ∧ v = .slice A1 k c1 ∧ s = .int .i64 (smalls (zs.take k)).sum ∧
        wr.ownsRow w.heap.size 2 1 (.slice A1 k c1) k (i64s (smalls (zs.take k))) ∧ Below w.heap.size w wr)
      (fun _ _ i _ => zs.length - (intOf i).toNat)
    case atStart => exact ⟨0, none, 0, Nat.zero_le _, rfl, rfl, by simp [smalls], World.ownsRow_nil _ _ _ _, Below.refl _ _⟩
    case round =>
      obtain ⟨k, A1, c1, hk, rfl, rfl, rfl, hown, hbel⟩ := hrel
      by_cases hlt : k < zs.length
      · obtain ⟨ad, rfl, _, hcell⟩ := (hr.below hbel).int hlt
        obtain ⟨h1, h2⟩ := HZ.out k hlt
        have hs := small_sum _ (smalls_small (zs.take k))
        have h3 : (zs.take k).length ≤ 60 := by rw [List.length_take]; omega
        rw [smalls_length] at hs
        obtain ⟨h4, h5⟩ := hs
        have h4' : -1000000000 ≤ (smalls (zs.take k)).sum := by omega
        have h5' : (smalls (zs.take k)).sum ≤ 1000000000 := by omega
        obtain ⟨h6, h7⟩ := small_bd zs[k]
        have E1 := Lib.hid (smalls_take_succ zs k hlt)
        have E2 := Lib.hid (smalls_sum_succ zs k hlt)
        clear h3 h4 h5 hnil hc hr
        generalize zs[k] = z at *
        go_wp2_with (at_builtin; refine wpList_new rfl (.tmp 33) (.tmp 35) _ rfl w.heap.size 2 1 8 (.int .i64 0) Try.underlying22 int_info rfl (by decide) _ _ _ _ rfl hown rfl ⟨by omega, by unfold maxLen; omega, hbel.size⟩ rfl (by simp [Value.oneCell']) ?_; intro A2 c2 w2 hown2 hbel2)
        go_roundw
        case rel => exact ⟨k + 1, A2, c2, by omega, by go_num, rfl, by rw [E2.out], by rw [E1.out, i64s_append]; exact hown2, hbel.trans hbel2⟩
        case measure => simp [intOf]; omega
      · obtain rfl : k = zs.length := by omega
        have hss := smalls_small zs
        have hsl := smalls_length zs
        rw [List.take_length] at hown ⊢
        generalize hS : smalls zs = ss at *
        have HSL := Lib.hid hsl
        have rs := row_of_own hown
        have hr1 := (hr.below hbel)
        have hsz := hbel.size
        go_wp2_with fail
        clear hown
        generalize wr = w1 at *
        go_loopw [9, 13] (fun v i wx => ∃ (p : Nat) (A2 : Option Addr) (c2 : Nat), p ≤ zs.length ∧ i = .int .i64 ((p : Int) - 1) ∧ v = .slice A2 (zs.length - p) c2 ∧
            wx.ownsRow w1.heap.size 2 1 (.slice A2 (zs.length - p) c2) (zs.length - p) (i64s (ss.reverse.take (zs.length - p))) ∧ Below w1.heap.size w1 wx)
          (fun _ i _ => (intOf i + 1).toNat)
        case atStart => exact ⟨zs.length, none, 0, Nat.le_refl _, rfl, by simp, by simp [i64s]; exact World.ownsRow_nil _ _ _ _, Below.refl _ _⟩
        case round =>
          obtain ⟨p, A2, c2, hp, rfl, rfl, hown2, hbel2⟩ := hrel
          by_cases hp0 : p = 0
          · subst hp0
            simp only [Nat.sub_zero] at hown2 ⊢
            have hsl' := HSL.out
            rw [List.take_of_length_le (by simp; omega)] at hown2
            have rb := row_of_own hown2
            have a255 := and255 cut
            obtain ⟨κ, hκ⟩ : ∃ κ : Nat, cut % 256 % ((zs.length : Int) + 1) = (κ : Int) := ⟨(cut % 256 % ((zs.length : Int) + 1)).toNat, by
              rw [Int.toNat_of_nonneg (Int.emod_nonneg _ (by omega))]⟩
            have hκ1 : κ ≤ zs.length := by
              have := Int.emod_lt_of_pos (cut % 256) (show 0 < (zs.length : Int) + 1 by omega)
              omega
            have hz := HZ.out
            have hbx := hbel2.size
            have hr2 := hr1.below (hbel2.mono hsz)
            have hB : Below w.heap.size w wr := hbel.trans (hbel2.mono hsz)
            have s64 : ints64 ss := (ints64_mem ss).2 fun z hz => by have := hss z hz; omega
            have b64 : ints64 ss.reverse := (ints64_mem _).2 fun z hz => by have := small_reverse ss hss z hz; omega
            have C1 := Lib.hid (add_n A c κ (zs.take κ) wr _ (by simp; omega) (by rw [← i64s_take]; exact hr2.take κ) (ints64_take zs hz κ) (by omega))
            have C2 := Lib.hid (add_n A1 c1 zs.length ss wr _ hsl' (rs.below hbel2) s64 (by omega))
            have C3 := Lib.hid (add_n A2 c2 zs.length ss.reverse wr _ (by simp [hsl']) rb b64 (by omega))
            have hab := addZ_bd (zs.take κ)
            have v64 : ints64 (addZ (zs.take κ) :: zs.drop κ) := (ints64_mem _).2 fun z hzm => by
              rcases List.mem_cons.1 hzm with rfl | hzm
              · omega
              · exact (ints64_mem zs).1 hz z (List.mem_of_mem_drop hzm)
            have e1 := Lib.hid (addZ_cut zs κ)
            have e2 : addZ ss = ss.sum := addZ_small ss hss (by omega)
            have e3 : addZ ss.reverse = ss.sum := by rw [addZ_small _ (small_reverse ss hss) (by simp; omega), sum_reverse']
            rw [e2] at C2
            rw [e3] at C3
            have ho := World.ownsRow_lit (base := wr.heap.size) (e := 2) (size := 1) wr #[.int .i64 (addZ (zs.take κ))] 1 (Nat.le_refl _) (by decide) rfl
            have hh : holdZ (holdZ a0) = holdZ a0 := by have := hold_bd a0; unfold holdZ at *; omega
            have hh1 : (holdZ a0 == a0) = true ∨ ((holdZ a0 == a0) = false ∧ 1073741824 < a0) ∨ ((holdZ a0 == a0) = false ∧ a0 ≤ 1073741824 ∧ a0 < -1073741824) := by
              simp only [beq_iff_eq, beq_eq_false_iff_ne]
              unfold holdZ
              omega
            have hh2 := hold_bd a0
            obtain ⟨hh3, hh4⟩ := hh2
            clear hsl' hown2 hss s64 b64 hS rs hr1 hr rb hz hl
            go_wp2_with fail
            refine C1.out.mono ?_; rintro e w' ⟨rfl, rfl⟩
            clear C1
            generalize addZ (zs.take κ) = a at *
            have hd1 := Lib.hid (fun h : ¬ c = κ => show Row wr w.heap.size (A.map (fun x => x.add κ)) (i64s (zs.drop κ)) by rw [← i64s_drop]; exact hr2.dropMap κ)
            have hd2 := Lib.hid (fun h : c = κ => show Row wr w.heap.size A (i64s (zs.drop κ)) by rw [List.drop_of_length_le (by omega)]; exact Row.nil _ _ _)
            have hn1 := Lib.hid (fun (h : A.map (fun x => x.add κ) = none) => show c - κ = 0 by have := hnil (by simpa using h); omega)
            have hcc : (c = κ) = True ∨ (c = κ) = False := by by_cases h : c = κ <;> simp [h]
            rcases hh1 with hh1 | ⟨hh1, hh5⟩ | ⟨hh1, hh5, hh6⟩
            all_goals rcases hcc with hcc | hcc
            all_goals
              go_wp2_with (go_at_call 10; refine (hold_any _ _ (by omega) (by omega)).mono ?_; rintro e w' ⟨rfl, rfl⟩)
              refine C2.out.mono ?_; rintro e w' ⟨rfl, rfl⟩
              go_wp2_with fail
              refine C3.out.mono ?_; rintro e w' ⟨rfl, rfl⟩
              go_wp2_with (at_builtin; refine wpList_push_all rfl (.tmp 103) (.tmp 106) _ rfl wr.heap.size 2 1 8 (.int .i64 0) Try.underlying22 int_info rfl (by decide) 1 1 _ [.int .i64 a] rfl ho w.heap.size (zs.length - κ) _ _ (i64s (zs.drop κ)) rfl ?_ (by simp [i64s]) ?_ (i64s_one _) (by unfold maxLen; omega) (by omega) (by simp) ?_; rotate_left; rotate_left; intro A3 c3 w3 hown3 hbel3)
              case refine_1 => intro h; first | exact hn1.out h | (have := hnil'.out h; omega)
              case refine_2 => first | exact (hd1.out (of_eq_false hcc)).alloc hB.size _ | exact (hd2.out (of_eq_true hcc)).alloc hB.size _
              have hb3 : Below wr.heap.size wr w3 := ((Below.refl _ _).alloc (Nat.le_refl _) _).trans hbel3
              have r4 : Row w3 w3.heap.size A3 (i64s (a :: zs.drop κ)) := row_of_own hown3
              have r5 := hr2.below (hb3.mono hB.size)
              have hB3 : Below w.heap.size w w3 := hB.trans (hb3.mono hB.size)
              have C4 := Lib.hid (add_n A3 c3 (1 + (zs.length - κ)) (a :: zs.drop κ) w3 _ (by simp; omega) r4 v64 (by omega))
              rw [e1.out] at C4
              have C5 := Lib.hid (add_n A c zs.length zs w3 _ rfl r5 HZ.out (by omega))
              have C6 := Lib.hid (add_n none 0 0 [] w3 0 rfl (Row.nil _ _ _) (fun k hk => absurd hk (by simp)) (by omega))
              clear r4 r5 hown3 hbel3 hb3 hr2 ho HZ v64
              go_wp2_with fail
              refine C4.out.mono ?_; rintro e w' ⟨rfl, rfl⟩
              go_wp2_with fail
              refine C5.out.mono ?_; rintro e w' ⟨rfl, rfl⟩
              go_wp2_with fail
              refine C6.out.mono ?_; rintro e w' ⟨rfl, rfl⟩
              go_wp2_with (go_at_call 9; refine (awake_any _).mono ?_; rintro e w' ⟨rfl, hbela⟩)
              go_ret
              exact ⟨rfl, hB3.trans (hbela.mono hB3.size)⟩
          · obtain ⟨ad, y, rfl, hcell, hE⟩ := rev_row (rs.below hbel2) zs.length p HSL.out (by omega) hp
            have E3 := Lib.hid hE
            clear hE hsl hr1 hr hnil
            go_wp2_with (at_builtin; refine wpList_new rfl (.tmp 47) (.tmp 52) _ rfl w1.heap.size 2 1 8 (.int .i64 0) Try.underlying22 int_info rfl (by decide) _ _ _ _ rfl hown2 rfl ⟨by omega, by unfold maxLen; omega, hbel2.size⟩ rfl (by simp [Value.oneCell']) ?_; intro A3 c3 w3 hown3 hbel3)
            go_roundw
            case rel => exact ⟨p - 1, A3, c3, by omega, by go_num, by rw [show zs.length - (p - 1) = zs.length - p + 1 by omega], by rw [show zs.length - (p - 1) = zs.length - p + 1 by omega, E3.out, i64s_append]; exact hown3, hbel2.trans hbel3⟩
            case measure => simp [intOf]; omega
  · go_enter Try.func3, Try.ntmps3
    go_wp2_with (go_at_call 9; refine (awake_any _).mono ?_; rintro e w' ⟨rfl, hbel⟩)
    go_ret
    exact ⟨rfl, hbel⟩
end Go.Proofs.Ytcdjdpgjflhjiaa
