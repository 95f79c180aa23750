import Derived.Test.YtbhdpfacfgldiaaGreatDoorRefValueQ
import Derived.Test.YtbhdpfacfgldiaaGreatDoorZSQ
import Derived.Deep.CutBlock
/- The document's answer: a text of declarations. -/
namespace Go.Proofs.YtbhdpfacfgldiaaGreatDoor
open Go Go.RowKit
set_option linter.unusedVariables false
set_option linter.unusedSimpArgs false
set_option maxRecDepth 20000
set_option maxHeartbeats 8000000

theorem dec_info : (Tryz.prog.info? 70).map (fun i => (i.zero, i.size, i.bytes)) = some (some (.agg #[.int .i64 0, .int .i64 0, .int .i64 0, .int .i64 0]), 4, 32) := by kernel_rfl
def NamesAt (W : World) (e : Ending) (w' : World) : Prop := ∃ A, e = .returned (.slice (some A) 33 33) ∧ Row w' (W.heap.size + 1) (some A) (strs namesS) ∧ Below W.heap.size W w'
theorem rnames_any (W : World) : Calls Tryz.prog 63 #[] W fun e w' => NamesAt W e w' := by
  go_enter Tryz.func63, Tryz.ntmps63
  go_wp2
  go_ret
  exact ⟨⟨W.heap.size, 0, none⟩, rfl, row_new W (strs namesS).toArray 9, (Below.refl _ _).alloc (Nat.le_refl _) _⟩
theorem bytesOf_cut (s : ByteArray) (a b : Nat) : bytesOf (s.extract a b) = cutL (bytesOf s) a b := by
  unfold bytesOf cutL
  rw [ByteArray.data_extract, Array.toList_extract]
section
variable {l : List UInt8} {a k c v e p b : Nat} {w kd n : Int}
theorem stepR_1 (hk : a + rowN nameB l a = k) (h : k = a) : stepR l a = .bad a 5 := by
  unfold stepR; simp only [hk]; rw [if_pos h]
theorem stepR_2 (hk : a + rowN nameB l a = k) (h : ¬ k = a) (hc : k + rowN blankB l k = c) (h2 : ¬ l[c]? = some 58) : stepR l a = .bad c 5 := by
  unfold stepR; simp only [hk]; rw [if_neg h]; simp only [hc]; rw [if_pos h2]
theorem stepR_3 (hk : a + rowN nameB l a = k) (h : ¬ k = a) (hc : k + rowN blankB l k = c) (h2 : l[c]? = some 58) (hv : c + 1 + rowN blankB l (c + 1) = v) (he : v + rowN valB l v = e) (h3 : e = v) : stepR l a = .bad v 5 := by
  unfold stepR; simp only [hk]; rw [if_neg h]; simp only [hc]; rw [if_neg (fun x => x h2)]; simp only [hv, he]; rw [if_pos h3]
theorem stepR_4 (hk : a + rowN nameB l a = k) (h : ¬ k = a) (hc : k + rowN blankB l k = c) (h2 : l[c]? = some 58) (hv : c + 1 + rowN blankB l (c + 1) = v) (he : v + rowN valB l v = e) (h3 : ¬ e = v) (hp : propN (cutL l a k) 33 = p) (h4 : p = 0) : stepR l a = .bad a 6 := by
  unfold stepR; simp only [hk]; rw [if_neg h]; simp only [hc]; rw [if_neg (fun x => x h2)]; simp only [hv, he]; rw [if_neg h3]; simp only [hp]; rw [if_pos h4]
theorem stepR_5 (hk : a + rowN nameB l a = k) (h : ¬ k = a) (hc : k + rowN blankB l k = c) (h2 : l[c]? = some 58) (hv : c + 1 + rowN blankB l (c + 1) = v) (he : v + rowN valB l v = e) (h3 : ¬ e = v) (hp : propN (cutL l a k) 33 = p) (h4 : ¬ p = 0) (h5 : valueR p (cutL l v e) = none) : stepR l a = .bad v 7 := by
  unfold stepR; simp only [hk]; rw [if_neg h]; simp only [hc]; rw [if_neg (fun x => x h2)]; simp only [hv, he]; rw [if_neg h3]; simp only [hp]; rw [if_neg h4, h5]
theorem stepR_6 (hk : a + rowN nameB l a = k) (h : ¬ k = a) (hc : k + rowN blankB l k = c) (h2 : l[c]? = some 58) (hv : c + 1 + rowN blankB l (c + 1) = v) (he : v + rowN valB l v = e) (h3 : ¬ e = v) (hp : propN (cutL l a k) 33 = p) (h4 : ¬ p = 0) (h5 : valueR p (cutL l v e) = some (w, kd, n)) (hb : e + rowN blankB l e = b) (h6 : b < l.length ∧ ¬ l[b]? = some 59) : stepR l a = .bad b 5 := by
  unfold stepR; simp only [hk]; rw [if_neg h]; simp only [hc]; rw [if_neg (fun x => x h2)]; simp only [hv, he]; rw [if_neg h3]; simp only [hp]; rw [if_neg h4, h5]; simp only [hb]; rw [if_pos h6]
theorem stepR_7 (hk : a + rowN nameB l a = k) (h : ¬ k = a) (hc : k + rowN blankB l k = c) (h2 : l[c]? = some 58) (hv : c + 1 + rowN blankB l (c + 1) = v) (he : v + rowN valB l v = e) (h3 : ¬ e = v) (hp : propN (cutL l a k) 33 = p) (h4 : ¬ p = 0) (h5 : valueR p (cutL l v e) = some (w, kd, n)) (hb : e + rowN blankB l e = b) (h6 : ¬ (b < l.length ∧ ¬ l[b]? = some 59)) : stepR l a = .next ⟨p, w, kd, n⟩ (if b < l.length then b + 1 + rowN blankB l (b + 1) else b) := by
  unfold stepR; simp only [hk]; rw [if_neg h]; simp only [hc]; rw [if_neg (fun x => x h2)]; simp only [hv, he]; rw [if_neg h3]; simp only [hp]; rw [if_neg h4, h5]; simp only [hb]; rw [if_neg h6]
end
def ParsePost (W : World) (r : PRes) (e : Ending) (w' : World) : Prop := match r with
  | .bad a er => e = .returned (.tuple #[.slice none 0 0, .int .i64 (a : Int), .int .i64 er]) ∧ Below W.heap.size W w'
  | .ok ds => ∃ A c, e = .returned (.tuple #[.slice A ds.length c, .int .i64 0, .int .i64 0]) ∧ w'.ownsRow W.heap.size 70 4 (.slice A ds.length c) ds.length (i64s (dCells ds)) ∧ Below W.heap.size W w'
theorem parse_bad {W w' : World} {r : PRes} {l : List UInt8} {f a x : Nat} {er : Int} {ds : List Dc} (h : r = parseFrom l (f + 1) a ds) (ha : a < l.length) (hs : stepR l a = .bad x er) (hb : Below W.heap.size W w') : ParsePost W r (.returned (.tuple #[.slice none 0 0, .int .i64 (x : Int), .int .i64 er])) w' := by
  have : r = .bad x er := by rw [h, parseFrom, if_pos ha, hs]
  rw [this]
  exact ⟨rfl, hb⟩
theorem parse_next {r : PRes} {l : List UInt8} {f a b : Nat} {d : Dc} {ds : List Dc} (h : r = parseFrom l (f + 1) a ds) (ha : a < l.length) (hs : stepR l a = .next d b) : r = parseFrom l f b (ds ++ [d]) := by
  rw [h, parseFrom, if_pos ha, hs]
theorem parse_next7 {r : PRes} {l : List UInt8} {f a k c v e p b : Nat} {w kd n : Int} {ds : List Dc} (h : r = parseFrom l (f + 1) a ds) (ha : a < l.length) (hk : a + rowN nameB l a = k) (hka : ¬ k = a) (hc : k + rowN blankB l k = c) (h2 : l[c]? = some 58) (hv : c + 1 + rowN blankB l (c + 1) = v) (he : v + rowN valB l v = e) (h3 : ¬ e = v)
    (hp : propN (cutL l a k) 33 = p) (h4 : ¬ p = 0) (h5 : valueR p (cutL l v e) = some (w, kd, n)) (hb : e + rowN blankB l e = b) (h6 : b < l.length → l[b]? = some 59) :
    (b < l.length → r = parseFrom l f (b + 1 + rowN blankB l (b + 1)) (ds ++ [⟨p, w, kd, n⟩])) ∧ (¬ b < l.length → r = parseFrom l f b (ds ++ [⟨p, w, kd, n⟩])) := by
  have h7 := parse_next h ha (stepR_7 hk hka hc h2 hv he h3 hp h4 h5 hb (fun x => x.2 (h6 x.1)))
  constructor
  · intro hb1; rw [if_pos hb1] at h7; exact h7
  · intro hb1; rw [if_neg hb1] at h7; exact h7
theorem rparse_any (s : ByteArray) (W : World) : Calls Tryz.prog 48 #[.string s] W fun e w' => ParsePost W (parseR (bytesOf s)) e w' := by
  have HL := Lib.hid (bytesOf_length s)
  by_cases hbig : 2000 < s.size
  · have H := Lib.hid (show parseR (bytesOf s) = .bad 0 4 by unfold parseR; rw [if_pos (by rw [HL.out]; exact hbig)])
    have hb2 : (2000 : Int) < s.size := by omega
    go_enter Tryz.func48, Tryz.ntmps48
    go_wp2
    go_ret3
    exact (by rw [H.out]; exact ⟨rfl, Below.refl _ _⟩ : ParsePost W (parseR (bytesOf s)) _ _)
  · have hs : s.size ≤ 2000 := by omega
    have hb2 : ¬ (2000 : Int) < s.size := by omega
    have hs4 : s.size ≤ 4611686018427387904 := by omega
    have HP0 := Lib.hid (show parseR (bytesOf s) = parseFrom (bytesOf s) ((bytesOf s).length + 1) (rowN blankB (bytesOf s) 0) [] by unfold parseR; rw [if_neg (by rw [HL.out]; omega)])
    have h0 := rowN_le blankB (bytesOf s) 0 (Nat.zero_le _)
    rw [HL.out, Nat.zero_add] at h0
    have h1 := rskip_any s 0 W hs4 (Nat.zero_le _)
    rw [Nat.zero_add] at h1
    generalize rowN blankB (bytesOf s) 0 = a0 at *
    have HS0 := Lib.hid (show Calls Tryz.prog 64 #[.string s, .int .i64 0] W (fun e w' => e = .returned (.int .i64 (a0 : Int)) ∧ W = w') from h1)
    clear h1 hbig
    generalize parseR (bytesOf s) = pr at *
    go_enter Tryz.func48, Tryz.ntmps48
    go_wp2_with (go_at_call 64; refine HS0.out.mono ?_; rintro e w' ⟨rfl, rfl⟩)
    go_loopw [5, 6] (fun o5 i6 wr => ∃ (a f : Nat) (ds : List Dc) (A : Option Addr) (c : Nat), a ≤ s.size ∧ i6 = .int .i64 (a : Int) ∧ o5 = .slice A ds.length c ∧ wr.ownsRow W.heap.size 70 4 (.slice A ds.length c) ds.length (i64s (dCells ds)) ∧ Below W.heap.size W wr ∧ ds.length ≤ a ∧ s.size < a + f ∧ pr = parseFrom (bytesOf s) f a ds) (fun _ i6 _ => s.size - (intOf i6).toNat)
    case atStart => exact ⟨a0, s.size + 1, [], none, 0, h0, rfl, rfl, World.ownsRow_nil _ _ _ _, Below.refl _ _, Nat.zero_le _, by omega, by rw [HP0.out, HL.out]⟩
    case round =>
      obtain ⟨a, f, ds, A, c0, ha, rfl, rfl, hown, hbel, hda, haf, hpr⟩ := hrel
      have HO := Lib.hid hown
      have HB := Lib.hid hbel
      have HPR := Lib.hid hpr
      clear hown hbel hpr HP0 HS0 h0
      by_cases hlt : a < s.size
      · obtain ⟨f, rfl⟩ : ∃ f', f = f' + 1 := ⟨f - 1, by omega⟩
        have hai : (a : Int) < s.size := by omega
        have hal : a < (bytesOf s).length := by rw [HL.out]; exact hlt
        have HAL := Lib.hid hal
        clear hal
        go_upto_block 2 with fail
        go_cut [7] from 22 to 136 (fun u wx => u = .int .i64 ((a + rowN nameB (bytesOf s) a : Nat) : Int) ∧ wr = wx)
        case first =>
          go_wp2_with fail
          go_loop [7] (fun i => ∃ j : Nat, j ≤ rowN nameB (bytesOf s) a ∧ i = .int .i64 ((a + j : Nat) : Int)) (fun i => s.size - (intOf i).toNat)
          case atStart => exact ⟨0, Nat.zero_le _, rfl⟩
          case round =>
            obtain ⟨j, hj, rfl⟩ := hrel
            have hle := rowN_le nameB (bytesOf s) a (by rw [HL.out]; omega)
            rw [HL.out] at hle
            by_cases hlt : a + j < s.size
            · have hi : ((a : Int) + j) < s.size := by omega
              go_wp2_with fail
              cases hb : nameB s[a + j] with
              | true =>
                have HK := Lib.hid (rowN_more hj (by rw [HL.out]; exact hlt) hb)
                refine (rinName_val _ true hb _).mono ?_
                rintro e w' ⟨rfl, rfl⟩
                clear hb
                go_wp2
                go_round
                case rel => exact ⟨j + 1, HK.out, by go_num⟩
                case measure => simp [intOf]; omega
              | false =>
                have HK := Lib.hid (rowN_stop hj (by rw [HL.out]; exact hlt) hb)
                refine (rinName_val _ false hb _).mono ?_
                rintro e w' ⟨rfl, rfl⟩
                clear hb
                go_wp2
                go_meet
                case rel => exact ⟨by rw [← HK.out]; first | rfl | (push_cast; rfl), rfl⟩
            · have HK := Lib.hid (rowN_end hj (by rw [HL.out]; omega))
              have hi : ¬ ((a : Int) + j) < s.size := by omega
              go_wp2
              go_meet
              case rel => exact ⟨by rw [← HK.out]; first | rfl | (push_cast; rfl), rfl⟩
        case rest =>
          obtain ⟨h7, rfl⟩ := hcut
          have hk0 := rowN_le nameB (bytesOf s) a (by rw [HL.out]; omega)
          rw [HL.out] at hk0
          generalize hk : a + rowN nameB (bytesOf s) a = k at *
          have hak : a ≤ k := by omega
          have HK := Lib.hid hk
          clear hk
          subst h7
          by_cases hka : k = a
          · have hb3 : ((k : Int) == a) = true := by simp [hka]
            have HS := Lib.hid (stepR_1 HK.out hka)
            clear hka
            go_wp2
            go_ret3
            exact parse_bad HPR.out HAL.out HS.out HB.out
          · have hb3 : ((k : Int) == a) = false := by rw [beq_eq_false_iff_ne]; omega
            have HKA := Lib.hid hka
            clear hka
            have hc0 := rowN_le blankB (bytesOf s) k (by rw [HL.out]; omega)
            rw [HL.out] at hc0
            have hsk := rskip_any s k wr hs4 hk0
            generalize hc : k + rowN blankB (bytesOf s) k = c at *
            have hkc : k ≤ c := by omega
            have HC := Lib.hid hc
            have HSK := Lib.hid hsk
            clear hc hsk
            have HBY := Lib.hid (byte_at s c 58 (by omega))
            have hak2 : (a : Int) ≤ k := by omega
            have hks : (k : Int) ≤ s.size := by omega
            go_wp2_with fail
            refine HSK.out.mono ?_
            rintro e w' ⟨rfl, rfl⟩
            by_cases hcol : (bytesOf s)[c]? = some 58
            · obtain ⟨hcs, hcb⟩ := HBY.out.1 hcol
              have hcs2 : (c : Int) < s.size := by omega
              have hcs3 : ((c : Int) == s.size) = false := by rw [beq_eq_false_iff_ne]; omega
              have hcb2 : ((s[c].toNat : Int) == 58) = true := by rw [beq_iff_eq]; exact hcb
              have HCOL := Lib.hid hcol
              clear hcol hcb
              have hv0 := rowN_le blankB (bytesOf s) (c + 1) (by rw [HL.out]; omega)
              rw [HL.out] at hv0
              have hsk2 := rskip_any s (c + 1) wr hs4 (by omega)
              rw [show ((c + 1 : Nat) : Int) = (c : Int) + 1 from by push_cast; rfl] at hsk2
              generalize hv : c + 1 + rowN blankB (bytesOf s) (c + 1) = v at *
              have hcv : c + 1 ≤ v := by omega
              have HV := Lib.hid hv
              have HSK2 := Lib.hid hsk2
              clear hv hsk2
              go_wp2_with fail
              refine HSK2.out.mono ?_
              rintro e w' ⟨rfl, rfl⟩
              clear hcs3 hcb2
              go_upto_block 4 with fail
              go_cut [11] from 22 to 136 (fun u wx => u = .int .i64 ((v + rowN valB (bytesOf s) v : Nat) : Int) ∧ wr = wx)
              case first =>
                go_wp2_with fail
                go_loop [11] (fun i => ∃ j : Nat, j ≤ rowN valB (bytesOf s) v ∧ i = .int .i64 ((v + j : Nat) : Int)) (fun i => s.size - (intOf i).toNat)
                case atStart => exact ⟨0, Nat.zero_le _, rfl⟩
                case round =>
                  obtain ⟨j, hj, rfl⟩ := hrel
                  have hle := rowN_le valB (bytesOf s) v (by rw [HL.out]; omega)
                  rw [HL.out] at hle
                  by_cases hlt : v + j < s.size
                  · have hi : ((v : Int) + j) < s.size := by omega
                    go_wp2_with fail
                    cases hb : valB s[v + j] with
                    | true =>
                      have HK := Lib.hid (rowN_more hj (by rw [HL.out]; exact hlt) hb)
                      refine (rinValue_val _ true hb _).mono ?_
                      rintro e w' ⟨rfl, rfl⟩
                      clear hb
                      go_wp2
                      go_round
                      case rel => exact ⟨j + 1, HK.out, by go_num⟩
                      case measure => simp [intOf]; omega
                    | false =>
                      have HK := Lib.hid (rowN_stop hj (by rw [HL.out]; exact hlt) hb)
                      refine (rinValue_val _ false hb _).mono ?_
                      rintro e w' ⟨rfl, rfl⟩
                      clear hb
                      go_wp2
                      go_meet
                      case rel => exact ⟨by rw [← HK.out]; first | rfl | (push_cast; rfl), rfl⟩
                  · have HK := Lib.hid (rowN_end hj (by rw [HL.out]; omega))
                    have hi : ¬ ((v : Int) + j) < s.size := by omega
                    go_wp2
                    go_meet
                    case rel => exact ⟨by rw [← HK.out]; first | rfl | (push_cast; rfl), rfl⟩
              case rest =>
                obtain ⟨h11, rfl⟩ := hcut
                have he0 := rowN_le valB (bytesOf s) v (by rw [HL.out]; omega)
                rw [HL.out] at he0
                generalize he : v + rowN valB (bytesOf s) v = x at *
                have hvx : v ≤ x := by omega
                have HX := Lib.hid he
                clear he
                subst h11
                by_cases hxv : x = v
                · have hb4 : ((x : Int) == v) = true := by simp [hxv]
                  have HS := Lib.hid (stepR_3 HK.out HKA.out HC.out HCOL.out HV.out HX.out hxv)
                  clear hxv
                  go_wp2
                  go_ret3
                  exact parse_bad HPR.out HAL.out HS.out HB.out
                · have hb4 : ((x : Int) == v) = false := by rw [beq_eq_false_iff_ne]; omega
                  have HXV := Lib.hid hxv
                  clear hxv
                  go_wp2_with fail
                  refine (rnames_any wr).mono ?_
                  rintro e w1 ⟨A1, rfl, R1, b1⟩
                  have HO1 := Lib.hid (own_below HO.out b1 (Nat.le_refl _))
                  have HB1 := Lib.hid (HB.out.trans (b1.mono HB.out.size))
                  have HR1 := Lib.hid R1
                  clear b1 R1
                  have HCUT := Lib.hid (bytesOf_cut s a k)
                  go_upto_block 6 with fail
                  go_cut [12] from 22 to 136 (fun u wx => u = .int .i64 ((propN (cutL (bytesOf s) a k) 33 : Nat) : Int) ∧ w1 = wx)
                  case first =>
                    go_wp2_with fail
                    go_loop [12, 14] (fun u i => ∃ j : Nat, 1 ≤ j ∧ j ≤ 33 ∧ i = .int .i64 (j : Int) ∧ u = .int .i64 ((propN (cutL (bytesOf s) a k) j : Nat) : Int)) (fun _ i => 33 - (intOf i).toNat)
                    case atStart => exact ⟨1, Nat.le_refl _, by omega, rfl, rfl⟩
                    case round =>
                      obtain ⟨j, hj1, hj, rfl, rfl⟩ := hrel
                      by_cases hj33 : j < 33
                      · have hj34 : (j : Int) < 33 := by omega
                        obtain ⟨ad, had, _, hcell⟩ := HR1.out.get (k := j) (by rw [strs_length]; exact hj33)
                        obtain rfl := Option.some.inj had
                        have hgs : (strs namesS)[j]'(by rw [strs_length]; exact hj33) = .string (namesS.getD j ⟨#[]⟩) := by
                          have : j < namesS.length := hj33
                          simp [strs, List.getD, this]
                        rw [hgs] at hcell
                        have HEQ := Lib.hid (show ((namesS.getD j ⟨#[]⟩).toList == (s.extract a k).toList) = (bytesOf (namesS.getD j ⟨#[]⟩) == cutL (bytesOf s) a k) by rw [ByteArray.toList_eq, ByteArray.toList_eq, ← HCUT.out]; rfl)
                        have HNX := Lib.hid (show propN (cutL (bytesOf s) a k) (j + 1) = if 1 ≤ j ∧ (bytesOf (namesS.getD j ⟨#[]⟩) == cutL (bytesOf s) a k) = true then j else propN (cutL (bytesOf s) a k) j from rfl)
                        generalize namesS.getD j ⟨#[]⟩ = nmj at *
                        clear hgs
                        cases hb : nmj.toList == (s.extract a k).toList with
                        | true =>
                          have HN2 := Lib.hid (HNX.out.trans (if_pos ⟨hj1, by rw [← HEQ.out]; exact hb⟩))
                          go_wp2
                          go_round
                          case rel => exact ⟨j + 1, by omega, by omega, by go_num, by rw [HN2.out]⟩
                          case measure => simp [intOf]; omega
                        | false =>
                          have HN2 := Lib.hid (HNX.out.trans (if_neg (fun hc => by rw [← HEQ.out, hb] at hc; cases hc.2)))
                          go_wp2
                          go_round
                          case rel => exact ⟨j + 1, by omega, by omega, by go_num, by rw [HN2.out]⟩
                          case measure => simp [intOf]; omega
                      · have : j = 33 := by omega
                        subst this
                        go_wp2
                        go_meet
                        case rel => exact ⟨rfl, rfl⟩
                  case rest =>
                    obtain ⟨h12, rfl⟩ := hcut
                    have hpl := propN_lt (cutL (bytesOf s) a k) 33 (by omega)
                    generalize hpp : propN (cutL (bytesOf s) a k) 33 = p at *
                    have HPN := Lib.hid hpp
                    clear hpp
                    subst h12
                    by_cases hp0 : p = 0
                    · have HS := Lib.hid (stepR_4 HK.out HKA.out HC.out HCOL.out HV.out HX.out HXV.out HPN.out hp0)
                      have hb5 : ((p : Int) == 0) = true := by simp [hp0]
                      clear hp0
                      go_wp2
                      go_ret3
                      exact parse_bad HPR.out HAL.out HS.out HB1.out
                    · have hb5 : ((p : Int) == 0) = false := by rw [beq_eq_false_iff_ne]; omega
                      have HP0 := Lib.hid hp0
                      have hp1 : 1 ≤ (p : Int) := by omega
                      have hp2 : (p : Int) ≤ 32 := by omega
                      clear hp0
                      have hvx2 : (v : Int) ≤ x := by omega
                      have hxs2 : (x : Int) ≤ s.size := by omega
                      have hvc := rvalue_any p (s.extract v x) hp1 hp2 w1 (by rw [ByteArray.size_extract]; omega)
                      rw [bytesOf_cut] at hvc
                      go_wp2_with fail
                      cases hval : valueR p (cutL (bytesOf s) v x) with
                      | none =>
                        rw [hval] at hvc
                        have HS := Lib.hid (stepR_5 HK.out HKA.out HC.out HCOL.out HV.out HX.out HXV.out HPN.out HP0.out hval)
                        clear hval
                        refine hvc.mono ?_
                        rintro e w2 ⟨rfl, b2⟩
                        have HB2 := Lib.hid (HB1.out.trans (b2.mono HB1.out.size))
                        clear b2 hvc
                        go_wp2
                        go_ret3
                        exact parse_bad HPR.out HAL.out HS.out (HB2.out.alloc HB2.out.size _)
                      | some r =>
                        obtain ⟨wd, kd, nv⟩ := r
                        rw [hval] at hvc
                        have HVAL := Lib.hid hval
                        clear hval
                        refine hvc.mono ?_
                        rintro e w2 ⟨rfl, b2⟩
                        have HO2 := Lib.hid ((own_below HO1.out b2 (Nat.le_refl _)).alloc (.cells #[.int .i64 (p : Int), .int .i64 wd, .int .i64 kd, .int .i64 nv] 70))
                        have HB2 := Lib.hid ((HB1.out.trans (b2.mono HB1.out.size)).alloc (HB1.out.trans (b2.mono HB1.out.size)).size (.cells #[.int .i64 (p : Int), .int .i64 wd, .int .i64 kd, .int .i64 nv] 70))
                        have E2 := Lib.hid (Whole.mk w2 70 #[.int .i64 (p : Int), .int .i64 wd, .int .i64 kd, .int .i64 nv])
                        clear b2 hvc
                        go_upto_region 33 with fail
                        generalize w2.alloc (.cells #[.int .i64 (p : Int), .int .i64 wd, .int .i64 kd, .int .i64 nv] 70) = w3 at *
                        obtain ⟨q0, q1, q2, q3⟩ := E2.out.four
                        have hB3 := HB2.out.size
                        go_wp2_with (at_builtin; refine wpList_new rfl (.tmp 111) (.tmp 113) _ rfl W.heap.size 70 4 32 (.agg #[.int .i64 0, .int .i64 0, .int .i64 0, .int .i64 0]) Tryz.underlying30 dec_info rfl (by decide) _ _ _ _ rfl HO2.out rfl ⟨by omega, by unfold maxLen; omega, hB3⟩ rfl (by simp [Value.oneCell']) ?_; intro A3 c3 w4 hown3 hb3; have HO4 := Lib.hid hown3; have HB4 := Lib.hid (HB2.out.trans hb3); clear hown3 hb3)
                        have HO5 := Lib.hid (show w4.ownsRow W.heap.size 70 4 (.slice A3 (ds.length + 1) c3) (ds.length + 1) (i64s (dCells (ds ++ [⟨p, wd, kd, nv⟩]))) by
                          have := HO4.out
                          rw [dCells_append, i64s_append]
                          exact this)
                        have hb0 := rowN_le blankB (bytesOf s) x (by rw [HL.out]; omega)
                        rw [HL.out] at hb0
                        have hskx := rskip_any s x w4 hs4 (by omega)
                        generalize hbb : x + rowN blankB (bytesOf s) x = b at *
                        have hxb : x ≤ b := by omega
                        have HBB := Lib.hid hbb
                        clear hbb HO4 q0 q1 q2 q3
                        refine hskx.mono ?_
                        rintro e w' ⟨rfl, rfl⟩
                        clear hskx
                        have HB9 := Lib.hid (byte_at s b 59 (by omega))
                        by_cases hbs : b < s.size
                        · have hbs2 : (b : Int) < s.size := by omega
                          by_cases hsem : (s[b].toNat : Int) = 59
                          · have hsem2 : ((s[b].toNat : Int) == 59) = true := by rw [beq_iff_eq]; exact hsem
                            have hz0 := rowN_le blankB (bytesOf s) (b + 1) (by rw [HL.out]; omega)
                            rw [HL.out] at hz0
                            have hskb := rskip_any s (b + 1) w4 hs4 (by omega)
                            rw [show ((b + 1 : Nat) : Int) = (b : Int) + 1 from by push_cast; rfl] at hskb
                            have hn7 := (parse_next7 HPR.out HAL.out HK.out HKA.out HC.out HCOL.out HV.out HX.out HXV.out HPN.out HP0.out HVAL.out HBB.out (fun _ => HB9.out.2 ⟨hbs, hsem⟩)).1 (by rw [HL.out]; exact hbs)
                            generalize hzz : b + 1 + rowN blankB (bytesOf s) (b + 1) = z at *
                            have hbz : b + 1 ≤ z := by omega
                            have HSKB := Lib.hid hskb
                            have HS2 := Lib.hid hn7
                            clear hzz hskb hsem hn7
                            go_wp2_with fail
                            refine HSKB.out.mono ?_
                            rintro e w' ⟨rfl, rfl⟩
                            go_wp2
                            go_roundw
                            case rel => exact ⟨z, f, ds ++ [⟨p, wd, kd, nv⟩], A3, c3, hz0, rfl, by rw [List.length_append]; rfl, by rw [List.length_append]; exact HO5.out, HB4.out, by rw [List.length_append]; simp; omega, by omega, HS2.out⟩
                            case measure => simp [intOf]; omega
                          · have hsem2 : ((s[b].toNat : Int) == 59) = false := by rw [beq_eq_false_iff_ne]; exact hsem
                            have HS := Lib.hid (stepR_6 HK.out HKA.out HC.out HCOL.out HV.out HX.out HXV.out HPN.out HP0.out HVAL.out HBB.out ⟨by rw [HL.out]; exact hbs, fun h => hsem (HB9.out.1 h).2⟩)
                            clear hsem
                            go_wp2
                            go_ret3
                            exact parse_bad HPR.out HAL.out HS.out HB4.out
                        · have hbs2 : ¬ (b : Int) < s.size := by omega
                          have hn7 := (parse_next7 HPR.out HAL.out HK.out HKA.out HC.out HCOL.out HV.out HX.out HXV.out HPN.out HP0.out HVAL.out HBB.out (fun h => absurd h (by rw [HL.out]; exact hbs))).2 (by rw [HL.out]; exact hbs)
                          have HS2 := Lib.hid hn7
                          clear hn7
                          go_wp2
                          go_roundw
                          case rel => exact ⟨b, f, ds ++ [⟨p, wd, kd, nv⟩], A3, c3, hb0, rfl, by rw [List.length_append]; rfl, by rw [List.length_append]; exact HO5.out, HB4.out, by rw [List.length_append]; simp; omega, by omega, HS2.out⟩
                          case measure => simp [intOf]; omega
            · have HS := Lib.hid (stepR_2 HK.out HKA.out HC.out hcol)
              by_cases hcs : c < s.size
              · have hcs2 : (c : Int) < s.size := by omega
                have hcs3 : ((c : Int) == s.size) = false := by rw [beq_eq_false_iff_ne]; omega
                have hcb2 : ((s[c].toNat : Int) == 58) = false := by rw [beq_eq_false_iff_ne]; exact fun h => hcol (HBY.out.2 ⟨hcs, h⟩)
                clear hcol
                go_wp2
                go_ret3
                exact parse_bad HPR.out HAL.out HS.out HB.out
              · have hcs2 : ((c : Int) == s.size) = true := by rw [beq_iff_eq]; omega
                clear hcol
                go_wp2
                go_ret3
                exact parse_bad HPR.out HAL.out HS.out HB.out
      · have hae : a = s.size := by omega
        obtain ⟨f, rfl⟩ : ∃ f', f = f' + 1 := ⟨f - 1, by omega⟩
        have hai : ¬ (a : Int) < s.size := by omega
        have HS := Lib.hid (show pr = .ok ds by rw [HPR.out, parseFrom, if_neg (by rw [HL.out]; omega)])
        clear hae
        go_wp2
        go_ret3
        exact (by rw [HS.out]; exact ⟨A, c0, rfl, HO.out, HB.out⟩ : ParsePost W pr _ _)
end Go.Proofs.YtbhdpfacfgldiaaGreatDoor
