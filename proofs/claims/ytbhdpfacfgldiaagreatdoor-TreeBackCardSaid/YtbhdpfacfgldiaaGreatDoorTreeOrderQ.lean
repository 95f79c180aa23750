import Derived.Test.YtbhdpfacfgldiaaGreatDoorZTQ
import Derived.Test.YtbhdpfacfgldiaaGreatDoorZUQ
import Derived.Test.YtbhdpfacfgldiaaGreatDoorMadeQ
import Derived.Test.YtbhdpfacfgldiaaGreatDoorZSQ
import Derived.Test.YtbhdpfacfgldiaaGreatDoorZRQ
import Derived.Deep.QuietTactic
/- TreeOrder answers true. -/
namespace Go.Proofs.YtbhdpfacfgldiaaGreatDoor
open Go Go.RowKit
set_option linter.unusedVariables false
set_option linter.unusedSimpArgs false
set_option maxRecDepth 20000
set_option maxHeartbeats 4000000

theorem cntK_bd (L : List Nd) : ∀ i, i ≤ L.length → cntK L i ≤ i * L.length
  | 0, _ => by rw [cntK_zero]; omega
  | i + 1, h => by
    have h1 := cntK_bd L i (by omega)
    have h2 : (kidsZ L L[i].id).length ≤ L.length := by
      unfold kidsZ
      rw [List.length_map]
      exact Nat.le_trans (List.length_filter_le _ _) (by simp)
    rw [cntK_succ L (show i < L.length by omega), Nat.succ_mul]; omega
theorem deepF_bd (L : List Nd) : ∀ (f : Nat) (id : Int), -1 ≤ deepF L f id ∧ deepF L f id ≤ f
  | 0, id => by unfold deepF; omega
  | f + 1, id => by
    have := deepF_bd L f (parZ L id)
    unfold deepF
    split <;> omega
theorem deepZ_bd (L : List Nd) (id : Int) (h : L.length ≤ 1000) : -1 ≤ deepZ L id ∧ deepZ L id ≤ 1001 := by
  have := deepF_bd L (L.length + 1) id
  unfold deepZ; omega
theorem wrap_one {d k : Int} (h0 : -1 ≤ d) (h1 : d ≤ 1001) (e : k = d + 1) : (k != IntKind.i64.wrap (d + 1)) = false := by
  have : IntKind.i64.wrap (d + 1) = d + 1 := by rw [IntKind.wrap_i64]; omega
  rw [this, e]; simp
theorem TreeOk.root_facts {L : List Nd} (h : TreeOk L) : hasZ L 0 = true ∧ parZ L 0 = -1 ∧ deepZ L 0 = 0 := by
  have hn := h.not_nobody (id := -1) (by decide)
  obtain ⟨r, R, e, r0, r1, -⟩ := h.root
  have hm : r ∈ L := by rw [e]; exact List.mem_cons_self ..
  have h0 : hasZ L 0 = true := has_iff.2 ⟨r, hm, r0⟩
  have hp : parZ L 0 = -1 := by
    have := h.at_mem hm
    rw [r0] at this
    unfold parZ; rw [this]; exact r1
  exact ⟨h0, hp, by rw [h.deep_has h0, hp, deep_no hn]; rfl⟩
theorem in64_0 : In64i 0 := ⟨by decide, by decide⟩
/-- The tree, and the nodes that it is of. -/
structure TOs (W w : World) (lo t : Nat) (mo : Int) (L : List Nd) (A1 : Option Addr) (n c1 : Nat) : Prop where
  tree : Tree w lo t mo L
  list : R6 w (.slice A1 n c1) L
  low : Below W.heap.size W w
theorem TOs.behind {W w w' : World} {lo t : Nat} {mo : Int} {L : List Nd} {A1 : Option Addr} {n c1 : Nat} (h : TOs W w lo t mo L A1 n c1) (hb : Below w.heap.size w w') : TOs W w' lo t mo L A1 n c1 :=
  ⟨h.tree.behind hb, h.list.behind hb, h.low.trans (hb.mono h.low.size)⟩
theorem TOs.at_ {W w : World} {lo t : Nat} {mo : Int} {L : List Nd} {A1 : Option Addr} {n c1 : Nat} (h : TOs W w lo t mo L A1 n c1) : ∀ k (hk : k < L.length), ∃ ad, A1 = some ad ∧ ad.block < w.heap.size ∧ w.cell? (ad.add (k * 5)) = some (.int .i64 L[k].id) ∧
    w.cell? ⟨(ad.add (k * 5)).block, (ad.add (k * 5)).off + 2, none⟩ = some (.bool L[k].tx) := by
  obtain ⟨A, c, e, -, h⟩ := h.list.tx_
  injection e with e1 e2 e3
  subst e1
  exact h
theorem same_flip {P : Program} {f : FuncId} {xs : Array Value} {w : World} {v : Value} (h : Calls P f xs w fun e w' => e = .returned v ∧ w = w') : Calls P f xs w fun e w' => e = .returned v ∧ w' = w := h.mono fun _ _ ⟨a, b⟩ => ⟨a, b.symm⟩
theorem below_drew (w : World) (q : Nat) : Below w.heap.size w (w.drewN q) := Below.drewN' (Below.refl w.heap.size w) q
section
variable {W w : World} {lo t : Nat} {mo : Int} {L : List Nd} {A1 : Option Addr} {n c1 : Nat}
theorem TOs.par (h : TOs W w lo t mo L A1 n c1) {k x : Int} (hi : In64i k) (e : parZ L k = x) (q : Nat) :
    Calls Tryz.prog 9 #[.pointer (some ⟨t, 0, none⟩), .int .i64 k] (w.drewN q) fun e w' => e = .returned (.int .i64 x) ∧ w' = w.drewN q := by
  subst e; exact same_flip (tparent_any (h.behind (below_drew w q)).tree hi)
theorem TOs.deep (h : TOs W w lo t mo L A1 n c1) (hL : L.length ≤ 1000) {k x : Int} (hi : In64i k) (e : deepZ L k = x) (q : Nat) :
    Calls Tryz.prog 10 #[.pointer (some ⟨t, 0, none⟩), .int .i64 k] (w.drewN q) fun e w' => e = .returned (.int .i64 x) ∧ w' = w.drewN q := by
  subst e; exact same_flip (tdeep_any (h.behind (below_drew w q)).tree hi hL)
theorem TOs.under (h : TOs W w lo t mo L A1 n c1) {a b : Int} {v : Bool} (ha : In64i a) (hb : In64i b) (e : belowZ L a b = v) (q : Nat) :
    Calls Tryz.prog 11 #[.pointer (some ⟨t, 0, none⟩), .int .i64 a, .int .i64 b] (w.drewN q) fun e w' => e = .returned (.bool v) ∧ w' = w.drewN q := by
  subst e; exact same_flip (tbelow_any (h.behind (below_drew w q)).tree ha hb)
end
/-- .. and a node's kids. -/
structure TKs (W w : World) (lo t : Nat) (mo : Int) (L : List Nd) (A1 : Option Addr) (n c1 : Nat) (K : List Int) (A2 : Option Addr) (m c2 : Nat) : Prop where
  st : TOs W w lo t mo L A1 n c1
  kids : Row w w.heap.size A2 (i64s K)
theorem TKs.behind {W w w' : World} {lo t : Nat} {mo : Int} {L : List Nd} {A1 : Option Addr} {n c1 : Nat} {K : List Int} {A2 : Option Addr} {m c2 : Nat} (h : TKs W w lo t mo L A1 n c1 K A2 m c2) (hb : Below w.heap.size w w') : TKs W w' lo t mo L A1 n c1 K A2 m c2 :=
  ⟨h.st.behind hb, (h.kids.below hb).more hb.size⟩
theorem treeOrder_any (zs : List Int) (A : Option Addr) (c : Nat) (W : World) (hR : Row W W.heap.size A (i64s zs)) (hm : zs.length ≤ 9223372036854775807) (hT : TabOk W) (hA : AscOk W) :
    Calls Tryz.prog 3 #[.slice A zs.length c] W fun e w' => e = .returned (.bool true) ∧ Below W.heap.size W w' := by
  have MA := Lib.hid (made_any zs A c W hR hm)
  clear hR hm
  go_enter Tryz.func3, Tryz.ntmps3
  go_wp2_with fail
  refine MA.out.mono ?_
  rintro e w1 ⟨v, L, rfl, hO, h6, hb1⟩
  obtain ⟨A1, c1, svs, rfl, hc1, hs⟩ := h6
  have LB := Lib.hid (of_most 500 L hO)
  have hOK := Lib.hid (of_ok 500 L hO)
  have TXK := Lib.hid (fun id h => text_kids 500 L hO (id := id) h)
  have S1 : Hid (R6 w1 (.slice A1 L.length c1) L) := Lib.hid ⟨A1, c1, svs, rfl, hc1, hs⟩
  have OF := Lib.hid (tof_at (L.length : Int) A1 c1 L svs w1 (hs.low hO) hc1 fun n hn ht d hd => untoldAt_any w1 (hT.below hb1) (hA.below hb1) d)
  have OL := Lib.hid (of_len L hO)
  have B1 := Lib.hid hb1
  obtain ⟨n, hn⟩ : ∃ n, L.length = n := ⟨_, rfl⟩
  have HN := Lib.hid hn
  rw [hn] at OF OL S1 ⊢
  clear hn hs hO hT hA hb1 MA hc1
  go_wp2_with fail
  refine OF.out.mono ?_
  rintro e w2 ⟨hp, hb2⟩
  unfold OfPost at hp
  rw [if_pos OL.out] at hp
  obtain ⟨t, rfl, hTr⟩ := hp
  have ST : Hid (TOs W w2 w1.heap.size t (mostZ (n : Int)) L A1 n c1) := Lib.hid ⟨hTr, S1.out.behind hb2, B1.out.trans (hb2.mono B1.out.size)⟩
  clear hTr hb2 S1 OF OL B1
  generalize ((mostZ (n : Int) : Nat) : Int) = mo at *
  generalize w1.heap.size = lo at *
  have hn5 : n ≤ 500 := by have h1 := LB.out; have h2 := HN.out; have h3 : mostZ 500 = 500 := rfl; omega
  clear LB
  go_wp2_with fail
  go_loopw [6, 7] (fun v6 v7 wr => ∃ i : Nat, v6 = .int .i64 (cntK L i : Nat) ∧ v7 = .int .i64 i ∧ i ≤ n ∧ Hid (TOs W wr lo t mo L A1 n c1)) (fun _ v7 _ => n - (intOf v7).toNat)
  case atStart => exact ⟨0, by rw [cntK_zero]; rfl, rfl, Nat.zero_le _, ST⟩
  case round =>
    clear ST
    obtain ⟨i, rfl, rfl, hi, S3⟩ := hrel
    generalize wr = w3 at *
    by_cases hlt : i < n
    · have hltz : (i : Int) < n := by omega
      have hil : i < L.length := by rw [HN.out]; exact hlt
      obtain ⟨ad, rfl, hb, d0, d2⟩ := S3.out.at_ i hil
      have CS := Lib.hid (cntK_succ L hil)
      have CB := cntK_bd L i (by omega)
      have CB2 : cntK L i ≤ 250000 := Nat.le_trans CB (by rw [HN.out]; exact Nat.mul_le_mul (by omega : i ≤ 500) hn5)
      clear CB
      have hid := hOK.out.rng _ (List.getElem_mem hil)
      have hhas := Lib.hid (has_iff.2 ⟨L[i], List.getElem_mem hil, rfl⟩)
      have TXi := Lib.hid (fun (h : L[i].tx = true) => TXK.out L[i].id (by unfold txZ; rw [hOK.out.at_mem (List.getElem_mem hil)]; exact h))
      have KF := Lib.hid (fun k (hk : k ∈ kidsZ L L[i].id) => hOK.out.kid_facts hk)
      have KR := Lib.hid (fun k (hk : k ∈ kidsZ L L[i].id) => (by
        obtain ⟨n', hn', e⟩ := has_iff.1 (hOK.out.kid hk).1
        have := hOK.out.rng n' hn'
        rwa [e] at this : 0 ≤ k ∧ k ≤ 1000))
      have KN := Lib.hid (hOK.out.kids_nodup L[i].id)
      have BR := Lib.hid (hOK.out.below_root _ L[i].id (Nat.lt_succ_self _) hhas.out)
      have BS := Lib.hid (below_self hhas.out)
      have KL : Hid ((kidsZ L L[i].id).length ≤ 500) := Lib.hid (by
        unfold kidsZ
        rw [List.length_map]
        have h1 := List.length_filter_le (fun n => n.par == L[i].id) L.tail
        have h2 : L.tail.length ≤ L.length := by simp
        have h3 := HN.out
        omega)
      obtain ⟨x, hx⟩ : ∃ x, L[i].id = x := ⟨_, rfl⟩
      obtain ⟨tx, htx⟩ : ∃ x, L[i].tx = x := ⟨_, rfl⟩
      rw [hx] at d0 CS hid hhas TXi KF KR KN BR BS KL
      rw [htx] at d2 TXi
      have HX := Lib.hid hx
      have HTX := Lib.hid htx
      clear hx htx
      have DX := deepZ_bd L x (by rw [HN.out]; omega)
      have hin : In64i x := ⟨by omega, by omega⟩
      have KC := Lib.hid (tkids_any S3.out.tree hin hid.1 (by rw [HN.out]; omega))
      go_wp2_with fail
      refine KC.out.mono ?_
      rintro e w4 ⟨v, rfl, ⟨A2, c2, rfl, ho2, -⟩, hb4⟩
      have S4 := Lib.hid (TKs.mk (m := (kidsZ L x).length) (c2 := c2) (S3.out.behind hb4) (show Row w4 w4.heap.size A2 (i64s (kidsZ L x)) from row_of_own ho2))
      clear S3 KC ho2 hb4 d0 d2 hb
      obtain ⟨K, hK⟩ : ∃ K, kidsZ L x = K := ⟨_, rfl⟩
      rw [hK] at S4 CS TXi KF KR KN KL ⊢
      clear hK
      obtain ⟨m, hm⟩ : ∃ m, K.length = m := ⟨_, rfl⟩
      have HM := Lib.hid hm
      rw [hm] at S4 CS KL ⊢
      clear hm
      obtain ⟨ct, hct⟩ : ∃ ct, cntK L i = ct := ⟨_, rfl⟩
      rw [hct] at CS CB2 ⊢
      clear hct
      have hm5 := KL.out
      go_wp2_with fail
      go_loopw [9] (fun v9 wr => ∃ j : Nat, v9 = .int .i64 j ∧ j ≤ m ∧ Hid (TKs W wr lo t mo L (some ad) n c1 K A2 m c2)) (fun v9 _ => m - (intOf v9).toNat)
      case atStart => exact ⟨0, rfl, Nat.zero_le _, S4⟩
      case round =>
        clear S4
        obtain ⟨j, rfl, hj, S5⟩ := hrel
        generalize wr = w5 at *
        by_cases hltj : j < m
        · have hltjz : (j : Int) < m := by omega
          have hjl : j < K.length := by rw [HM.out]; exact hltj
          obtain ⟨ak, rfl, hbk, k0⟩ := S5.out.kids.int hjl
          obtain ⟨ad', e2, hb, d0, -⟩ := S5.out.st.at_ i hil
          injection e2 with e2
          subst e2
          rw [HX.out] at d0
          have hkm := List.getElem_mem hjl
          obtain ⟨f1, f2, f3, f4⟩ := KF.out _ hkm
          have kr := KR.out _ hkm
          have HQ := Lib.hid (fun (q : Nat) (hq : q < j) => (fun e => by have := (List.getElem_inj (xs := K) (i := q) (j := j) (h₀ := by omega) (h₁ := hjl) KN.out).1 e; omega : K[q]'(by omega) ≠ K[j]))
          obtain ⟨k, hke⟩ : ∃ k, K[j] = k := ⟨_, rfl⟩
          rw [hke] at k0 f1 f2 f3 f4 kr HQ
          have HKE := Lib.hid hke
          clear hke hkm
          obtain ⟨dx, hdx⟩ : ∃ d, deepZ L x = d := ⟨_, rfl⟩
          obtain ⟨dk, hdk⟩ : ∃ d, deepZ L k = d := ⟨_, rfl⟩
          rw [hdx] at f2 DX
          rw [hdk] at f2
          have hin2 : In64i k := ⟨by omega, by omega⟩
          have hL1 : L.length ≤ 1000 := by rw [HN.out]; omega
          have P1 := Lib.hid (S5.out.st.par hin2 f1)
          have P2 := Lib.hid (S5.out.st.deep hL1 hin2 hdk)
          have P3 := Lib.hid (S5.out.st.deep hL1 hin hdx)
          have P4 := Lib.hid (S5.out.st.under hin2 hin f3)
          have P5 := Lib.hid (S5.out.st.under hin hin2 f4)
          have q1 : (x != x) = false := by simp
          have q2 := wrap_one DX.1 DX.2 f2
          clear f1 f2 f3 f4 hdx hdk hL1
          go_upto_region 14 with fail
          go_quiet (first | (with_reducible refine Calls.quiet_of_same (P1.out _)) | (with_reducible refine Calls.quiet_of_same (P2.out _)) | (with_reducible refine Calls.quiet_of_same (P3.out _)) | (with_reducible refine Calls.quiet_of_same (P4.out _)) | (with_reducible refine Calls.quiet_of_same (P5.out _)))
          have S6 := Lib.hid (S5.out.behind (below_drew w5 nq))
          clear S5 P1 P2 P3 P4 P5 q1 q2 d0 k0 hb hbk
          generalize w5.drewN nq = w6 at *
          go_wp2_with fail
          go_loopw [10] (fun v10 wr => ∃ q : Nat, v10 = .int .i64 q ∧ q ≤ j ∧ Hid (TKs W wr lo t mo L (some ad) n c1 K (some ak) m c2)) (fun v10 _ => j - (intOf v10).toNat)
          case atStart => exact ⟨0, rfl, Nat.zero_le _, S6⟩
          case round =>
            clear S6
            obtain ⟨q, rfl, hq, S7⟩ := hrel
            generalize wr = w7 at *
            by_cases hltq : q < j
            · have hltqz : (q : Int) < j := by omega
              have hqm : (q : Int) < m := by omega
              have hql : q < K.length := by omega
              obtain ⟨ak', e1, hbk, kq⟩ := S7.out.kids.int hql
              injection e1 with e1
              subst e1
              obtain ⟨ak', e1, -, kj⟩ := S7.out.kids.int hjl
              injection e1 with e1
              subst e1
              rw [HKE.out] at kj
              have hne := HQ.out q hltq
              obtain ⟨kk, hkk⟩ : ∃ z, K[q] = z := ⟨_, rfl⟩
              rw [hkk] at kq hne
              have zne : (kk == k) = false := by rw [beq_eq_false_iff_ne]; exact hne
              clear hkk hne
              go_upto_region 19 with fail
              go_quiet (fail)
              have S8 := Lib.hid (S7.out.behind (below_drew w7 nq))
              clear S7 kq kj zne hbk
              generalize w7.drewN nq = w8 at *
              go_wp2_with fail
              go_roundw
              case rel => exact ⟨q + 1, by go_num, by omega, S8⟩
              case measure => simp [intOf] <;> omega
            · obtain rfl : j = q := by omega
              have hltqz : ¬ (j : Int) < j := by omega
              go_wp2_with fail
              go_roundw
              case rel => exact ⟨j + 1, by go_num, by omega, S7⟩
              case measure => simp [intOf] <;> omega
        · obtain rfl : m = j := by omega
          have hltjz : ¬ (m : Int) < m := by omega
          obtain ⟨ad', e2, hb, d0, d2⟩ := S5.out.st.at_ i hil
          injection e2 with e2
          subst e2
          rw [HX.out] at d0
          rw [HTX.out] at d2
          have U1 := Lib.hid (S5.out.st.under hin in64_0 BR.out)
          have U2 := Lib.hid (S5.out.st.under hin hin BS.out)
          have CV : Hid (Value.int .i64 ((ct : Int) + m) = .int .i64 (cntK L (i + 1) : Nat)) := Lib.hid (by rw [CS.out]; simp)
          cases tx with
          | true =>
            have m0 : m = 0 := by have h1 := HM.out; rw [TXi.out rfl] at h1; simpa using h1.symm
            have g0 : ¬ (0 : Int) < m := by omega
            have g1 : decide ((0 : Int) < m) = false := decide_eq_false g0
            have g2 : decide ((m : Int) > 0) = false := decide_eq_false g0
            clear m0
            go_upto_region 21 with fail
            go_quiet (first | (with_reducible refine Calls.quiet_of_same (U1.out _)) | (with_reducible refine Calls.quiet_of_same (U2.out _)))
            have S6 := Lib.hid (S5.out.behind (below_drew w5 nq))
            clear S5 U1 U2 d0 d2 hb
            generalize w5.drewN nq = w6 at *
            go_wp2_with fail
            go_roundw
            case rel => exact ⟨i + 1, CV.out, by go_num, by omega, Lib.hid S6.out.st⟩
            case measure => simp [intOf] <;> omega
          | false =>
            go_upto_region 21 with fail
            go_quiet (first | (with_reducible refine Calls.quiet_of_same (U1.out _)) | (with_reducible refine Calls.quiet_of_same (U2.out _)))
            have S6 := Lib.hid (S5.out.behind (below_drew w5 nq))
            clear S5 U1 U2 d0 d2 hb
            generalize w5.drewN nq = w6 at *
            go_wp2_with fail
            go_roundw
            case rel => exact ⟨i + 1, CV.out, by go_num, by omega, Lib.hid S6.out.st⟩
            case measure => simp [intOf] <;> omega
    · obtain rfl : n = i := by omega
      have hltz : ¬ (n : Int) < n := by omega
      have CN : cntK L n + 1 = n := by
        have h1 := hOK.out.count
        rw [HN.out] at h1
        exact h1
      obtain ⟨ct, hct⟩ : ∃ ct, cntK L n = ct := ⟨_, rfl⟩
      rw [hct] at CN ⊢
      have z1 : ((ct : Int) == (n : Int) - 1) = true := by rw [beq_iff_eq]; omega
      have z2 : ((n : Int) == (n : Int)) = true := by simp
      clear CN hct
      obtain ⟨r0, r1, r2⟩ := hOK.out.root_facts
      have LE := Lib.hid (same_flip (tlen_any S3.out.tree))
      rw [HN.out] at LE
      have DE := Lib.hid (S3.out.deep (by rw [HN.out]; omega) in64_0 r2 0)
      have PE := Lib.hid (S3.out.par in64_0 r1 0)
      have AE := Lib.hid (lawake6_any w3)
      have BL := Lib.hid S3.out.low
      clear S3 r0 r1 r2
      go_wp2_with fail
      refine LE.out.mono ?_
      rintro e w' ⟨rfl, hw⟩
      have hw2 : w' = w3 := hw
      rw [hw2]
      clear hw2 hw w'
      go_wp2_with fail
      refine DE.out.mono ?_
      rintro e w' ⟨rfl, hw⟩
      have hw2 : w' = w3 := hw
      rw [hw2]
      clear hw2 hw w'
      go_wp2_with fail
      refine PE.out.mono ?_
      rintro e w' ⟨rfl, hw⟩
      have hw2 : w' = w3 := hw
      rw [hw2]
      clear hw2 hw w'
      go_wp2_with fail
      refine AE.out.mono ?_
      rintro e w9 ⟨rfl, hb⟩
      have B9 := Lib.hid (BL.out.trans (hb.mono BL.out.size))
      clear hb
      go_wp2_with fail
      go_ret
      exact ⟨rfl, B9.out⟩
end Go.Proofs.YtbhdpfacfgldiaaGreatDoor
