import Derived.Test.YtncaichachipkaaZQ
/- quoinlaw10.Runs: Runs of numbers. -/
namespace Go.Proofs.Ytncaichachipkaa
open Go Go.RowKit
set_option linter.unusedVariables false
set_option linter.unusedSimpArgs false
set_option maxRecDepth 20000
set_option maxHeartbeats 8000000

def pcsL : List ByteArray := [⟨#[97]⟩, ⟨#[98]⟩, ⟨#[32]⟩, ⟨#[32, 32]⟩, ⟨#[10]⟩, ⟨#[99]⟩, ⟨#[97, 98]⟩, ⟨#[]⟩, ⟨#[]⟩, ⟨#[97]⟩, ⟨#[9]⟩, ⟨#[97, 97, 32]⟩]
def lnsL : List Int := [1280, 1280, 640, 1281, 0, 2000]
def pieceOf (n : Int) (k : Nat) : ByteArray := pcsL.getD (n / 2 ^ (16 + 4 * k) % 16 % 12).toNat ⟨#[]⟩
def textOf (n : Int) : Nat → ByteArray
  | 0 => ⟨#[]⟩
  | k + 1 => textOf n k ++ pieceOf n k
def runOf (i : Nat) (n : Int) : Rn := ⟨i, textOf n 12, n % 256 % 3, lnsL.getD (n / 256 % 256 % 6).toNat 0⟩
def runsTo (l : List Int) (k : Nat) : List Rn := (List.range k).map fun i => runOf i (l.getD i 0)
def runsL (l : List Int) : List Rn := runsTo l (min l.length 12)
theorem runsTo_length (l : List Int) (k : Nat) : (runsTo l k).length = k := by simp [runsTo]
theorem runsTo_succ (l : List Int) (k : Nat) (h : k < l.length) : runsTo l (k + 1) = runsTo l k ++ [runOf k l[k]] := by
  simp [runsTo, List.range_succ, List.getD, List.getElem?_eq_getElem h]
theorem pieceOf_size (n : Int) (k : Nat) : (pieceOf n k).size ≤ 3 := by
  have h : ∀ s ∈ pcsL, s.size ≤ 3 := by decide
  unfold pieceOf
  generalize (n / 2 ^ (16 + 4 * k) % 16 % 12).toNat = j
  rw [List.getD]
  cases hj : pcsL[j]? with
  | none => decide
  | some s => exact h s (List.mem_of_getElem? hj)
theorem textOf_size (n : Int) : ∀ k, (textOf n k).size ≤ 3 * k
  | 0 => Nat.le_refl _
  | k + 1 => by
    have h1 := textOf_size n k
    have h2 := pieceOf_size n k
    simp only [textOf, ByteArray.size_append]
    omega
theorem sizeAll_append (a b : List Rn) : sizeAll (a ++ b) = sizeAll a + sizeAll b := by simp [sizeAll, List.sum_append]
theorem runsTo_size (l : List Int) : ∀ k, sizeAll (runsTo l k) ≤ 36 * k
  | 0 => by simp [runsTo, sizeAll]
  | k + 1 => by
    have h := runsTo_size l k
    have e : runsTo l (k + 1) = runsTo l k ++ [runOf k (l.getD k 0)] := by simp [runsTo, List.range_succ]
    have h2 := textOf_size (l.getD k 0) 12
    rw [e, sizeAll_append]
    simp only [sizeAll, List.map_cons, List.map_nil, List.sum_cons, List.sum_nil, runOf]
    simp only [sizeAll] at h
    omega
theorem runsL_size (l : List Int) : (runsL l).length ≤ 12 ∧ sizeAll (runsL l) ≤ 432 := by
  have := runsTo_size l (min l.length 12)
  unfold runsL
  rw [runsTo_length]
  omega
theorem mod_nat (x m : Int) (hm : 0 < m) : ∃ k : Nat, x % m = (k : Int) ∧ (k : Int) < m := by
  have h1 := Int.emod_nonneg x (Int.ne_of_gt hm)
  have h2 := Int.emod_lt_of_pos x hm
  exact ⟨(x % m).toNat, by omega, by omega⟩
theorem rn_info : (Try.prog.info? 40).map (fun i => (i.zero, i.size, i.bytes)) = some (some (.agg #[.int .i64 0, .string ByteArray.empty, .int .i64 0, .int .i64 0]), 4, 40) := by kernel_rfl
structure RSt (W w : World) (B : Option Addr) (k d : Nat) (xs : List Rn) (g : Nat) (cs : List Value) : Prop where
  own : w.ownsRow W.heap.size 40 4 (.slice B k d) k (rCells xs)
  blk : Whole w g 40 cs
  low : Below W.heap.size W w
  off : ∀ b, (Value.slice B k d).ownBlock = some b → b ≠ g
  far : W.heap.size ≤ g
section
variable {W w w' : World} {B : Option Addr} {k d g : Nat} {xs : List Rn} {cs : List Value}
theorem RSt.behind (h : RSt W w B k d xs g cs) (hb : Below w.heap.size w w') : RSt W w' B k d xs g cs :=
  ⟨own_below h.own hb (Nat.le_refl _), h.blk.under hb h.blk.size, h.low.trans (hb.mono h.low.size), h.off, h.far⟩
theorem RSt.put (h : RSt W w B k d xs g cs) (i : Nat) (v : Value) : RSt W (w.setCell ⟨g, i, none⟩ v) B k d xs g (cs.set i v) :=
  have ho : Only [g] w (w.setCell ⟨g, i, none⟩ v) := (Only.refl [g] w).setCell _ (.inl (by simp)) _
  ⟨ho.owns h.own fun b hb => by simpa using h.off b hb, h.blk.put i v, h.low.trans (ho.below (by simpa using h.far) h.low.size), h.off, h.far⟩
end
theorem runs_any (l : List Int) (A : Option Addr) (c : Nat) (W : World) (hR : Row W W.heap.size A (i64s l)) (hm : l.length ≤ 9223372036854775807) :
    Calls Try.prog 11 #[.slice A l.length c] W fun e w' => ∃ (A' : Option Addr) (c' : Nat), e = .returned (.slice A' (runsL l).length c') ∧ w'.ownsRow W.heap.size 40 4 (.slice A' (runsL l).length c') (runsL l).length (rCells (runsL l)) ∧ Below W.heap.size W w' := by
  have HR := Lib.hid hR
  have a255 : ∀ x : Int, bits .and .i64 x 255 = x % 256 := fun x => and_mask_i64 x 8 (by decide)
  have a15 : ∀ x : Int, bits .and .i64 x 15 = x % 16 := fun x => and_mask_i64 x 4 (by decide)
  clear hR
  go_enter Try.func11, Try.ntmps11
  go_wp2
  go_loopw [3, 4] (fun o i wr => ∃ (k : Nat) (B : Option Addr) (d : Nat), k ≤ l.length ∧ k ≤ 12 ∧ i = .int .i64 k ∧ o = .slice B k d ∧ wr.ownsRow W.heap.size 40 4 (.slice B k d) k (rCells (runsTo l k)) ∧ Below W.heap.size W wr) (fun _ i _ => 12 - (intOf i).toNat)
  case atStart => exact ⟨0, none, 0, Nat.zero_le _, by omega, rfl, rfl, World.ownsRow_nil _ _ _ _, Below.refl _ _⟩
  case round =>
    obtain ⟨k, B, d, hk, hk12, rfl, rfl, hO, hB⟩ := hrel
    have HO := Lib.hid hO
    have HB := Lib.hid hB
    have zB := hB.size
    clear hO hB
    by_cases hlt : k < l.length ∧ k < 12
    · obtain ⟨hlt, hlt2⟩ := hlt
      have h1 : (k : Int) < l.length := by omega
      have h2 : (k : Int) < 12 := by omega
      obtain ⟨ad, hA, hab, hc⟩ := (HR.out.below HB.out).int hlt
      subst hA
      have HS := Lib.hid (runsTo_succ l k hlt)
      generalize l[k] = n at *
      obtain ⟨x6, hx6, hy6⟩ := mod_nat (n / 256 % 256) 6 (by decide)
      have t3 : (n % 256).tmod 3 = n % 256 % 3 := Int.tmod_eq_emod_of_nonneg (by omega)
      have t6 : (n / 256 % 256).tmod 6 = (x6 : Int) := by rw [Int.tmod_eq_emod_of_nonneg (by omega)]; exact hx6
      have hln : lnsL.getD (n / 256 % 256 % 6).toNat 0 = lnsL.getD x6 0 := by rw [hx6]; rfl
      have hx6' : x6 < 6 := by omega
      have hc6 : ∀ w : World, (w.alloc (.cells #[.int .i64 1280, .int .i64 1280, .int .i64 640, .int .i64 1281, .int .i64 0, .int .i64 2000] 2)).cell? ⟨w.heap.size, x6, none⟩ = some (.int .i64 (lnsL.getD x6 0)) := fun w => by
        rw [(Whole.mk w 2 #[.int .i64 1280, .int .i64 1280, .int .i64 640, .int .i64 1281, .int .i64 0, .int .i64 2000]).cell x6]
        match x6, hx6' with
        | 0, _ => rfl
        | 1, _ => rfl
        | 2, _ => rfl
        | 3, _ => rfl
        | 4, _ => rfl
        | 5, _ => rfl
      have c6 := hc6 wr
      clear hc6 hx6
      have hln := Lib.hid hln
      have hli : Hid (lnsL.getD (n / 256 % 256 % 6).toNat 0 = lnsL.getD x6 0) := hln
      clear hln
      generalize lnsL.getD x6 0 = li at *
      go_wp2
      have S1 : Hid (RSt W ((wr.alloc (.cells #[.int .i64 1280, .int .i64 1280, .int .i64 640, .int .i64 1281, .int .i64 0, .int .i64 2000] 2)).alloc (.cells #[.int .i64 k, .string ⟨#[]⟩, .int .i64 (n % 256 % 3), .int .i64 li] 40)) B k d (runsTo l k) (wr.heap.size + 1) [.int .i64 k, .string (textOf n 0), .int .i64 (n % 256 % 3), .int .i64 li]) :=
        Lib.hid ⟨(HO.out.alloc _).alloc _, by
          have := Whole.mk (wr.alloc (.cells #[.int .i64 1280, .int .i64 1280, .int .i64 640, .int .i64 1281, .int .i64 0, .int .i64 2000] 2)) 40 #[.int .i64 k, .string ⟨#[]⟩, .int .i64 (n % 256 % 3), .int .i64 li]
          rw [show textOf n 0 = ⟨#[]⟩ from rfl]; simpa using this, (HB.out.alloc zB _).alloc (by simp; omega) _, fun b hb => by have := (HO.out.lt b hb).2; omega, by omega⟩
      generalize (wr.alloc (.cells #[.int .i64 1280, .int .i64 1280, .int .i64 640, .int .i64 1281, .int .i64 0, .int .i64 2000] 2)).alloc (.cells #[.int .i64 k, .string ⟨#[]⟩, .int .i64 (n % 256 % 3), .int .i64 li] 40) = w1 at *
      generalize wr.heap.size + 1 = g at *
      clear c6 hc HO HB zB
      go_loopw [7] (fun j wr => ∃ q : Nat, q ≤ 12 ∧ j = .int .i64 q ∧ RSt W wr B k d (runsTo l k) g [.int .i64 k, .string (textOf n q), .int .i64 (n % 256 % 3), .int .i64 li]) (fun j _ => 12 - (intOf j).toNat)
      case atStart => exact ⟨0, by omega, rfl, S1.out⟩
      case round =>
        clear S1
        obtain ⟨q, hq, rfl, hS⟩ := hrel
        have HS1 := Lib.hid hS
        clear hS
        by_cases hql : q < 12
        · have hqi : (q : Int) < 12 := by omega
          have K0 : ∀ s : Later wr.heap.size wr, s.w.cell? ⟨g, 1, none⟩ = some (.string (textOf n q)) := fun s => (HS1.out.blk.under s.h HS1.out.blk.size).cell 1
          have htz := textOf_size n q
          have HTX : Hid (textOf n (q + 1) = textOf n q ++ pieceOf n q) := Lib.hid rfl
          obtain ⟨xp, hxp, hyp⟩ := mod_nat (n / 2 ^ (16 + 4 * q) % 16) 12 (by decide)
          have tp : (n / 2 ^ (16 + 4 * q) % 16).tmod 12 = (xp : Int) := by rw [Int.tmod_eq_emod_of_nonneg (by omega)]; exact hxp
          have hxp' : xp < 12 := by omega
          have hpz := pieceOf_size n q
          have hpc : ([.string ⟨#[97]⟩, .string ⟨#[98]⟩, .string ⟨#[32]⟩, .string ⟨#[32, 32]⟩, .string ⟨#[10]⟩, .string ⟨#[99]⟩, .string ⟨#[97, 98]⟩, .string ⟨#[]⟩, .string ⟨#[]⟩, .string ⟨#[97]⟩, .string ⟨#[9]⟩, .string ⟨#[97, 97, 32]⟩] : List Value)[xp]? = some (.string (pieceOf n q)) := by
            unfold pieceOf
            rw [hxp]
            match xp, hxp' with
            | 0, _ => rfl
            | 1, _ => rfl
            | 2, _ => rfl
            | 3, _ => rfl
            | 4, _ => rfl
            | 5, _ => rfl
            | 6, _ => rfl
            | 7, _ => rfl
            | 8, _ => rfl
            | 9, _ => rfl
            | 10, _ => rfl
            | 11, _ => rfl
          have HPC := Lib.hid hpc
          clear hpc hxp
          generalize textOf n q = t at *
          generalize pieceOf n q = pc at *
          go_upto_region 10 with fail
          refine region_lane [] (List.range 15) [15] (by kernel_rfl) (by kernel_rfl) (fun _ _ _ _ _ h => h) ?_
          simp only [pick, List.map_nil]
          refine wpQuiet_nil ⟨rfl, ?_⟩
          rw [show List.range 15 = [0, 1, 2, 3, 4, 5, 6, 7, 8, 9, 10, 11, 12, 13, 14] from rfl]
          simp only [List.map_cons, List.map_nil, List.getD_cons_zero, List.getD_cons_succ, List.drop_succ_cons, List.drop_zero]
          refine laneO_run 2 (by kernel_rfl) ?_
          simp only [List.take_succ_cons, List.take_zero, List.drop_succ_cons, List.drop_zero]
          repeat (go_big_quiet_step (fail))
          refine wpQuiet_nil ?_
          refine laneO_told (madeT 12 9 [.string ⟨#[97]⟩, .string ⟨#[98]⟩, .string ⟨#[32]⟩, .string ⟨#[32, 32]⟩, .string ⟨#[10]⟩, .string ⟨#[99]⟩, .string ⟨#[97, 98]⟩, .string ⟨#[]⟩, .string ⟨#[]⟩, .string ⟨#[97]⟩, .string ⟨#[9]⟩, .string ⟨#[97, 97, 32]⟩]) (madeT_steady _ _ _) (by kernel_rfl) rfl (fun w hw => .inl ⟨by rfl, ?_⟩) ?_
          · unfold gives
            simp [go_sem]
            exact madeT_new 12 9 #[.string ⟨#[97]⟩, .string ⟨#[98]⟩, .string ⟨#[32]⟩, .string ⟨#[32, 32]⟩, .string ⟨#[10]⟩, .string ⟨#[99]⟩, .string ⟨#[97, 98]⟩, .string ⟨#[]⟩, .string ⟨#[]⟩, .string ⟨#[97]⟩, .string ⟨#[9]⟩, .string ⟨#[97, 97, 32]⟩] w
          refine laneO_run 8 (by kernel_rfl) ?_
          simp only [List.take_succ_cons, List.take_zero, List.drop_succ_cons, List.drop_zero]
          repeat (go_big_quiet_step (fail))
          refine wpQuiet_nil ?_
          refine laneO_item (s := 40) (i := 48) (n := 12) (k := xp) rfl rfl rfl rfl rfl rfl hxp' Try.underlying56 (by kernel_rfl) ?_
          refine laneO_itemLoad (s := 49) (v := .string pc) rfl rfl (of_decide_eq_true (by rfl)) rfl rfl rfl HPC.out (fun w g h => ?_) ?_
          · simp [loadVar, isAgg, run_underlying Try.underlying9, h, go_sem]
          simp only [Act.put, List.setIfInBounds_toArray, List.set_cons_zero, List.set_cons_succ]
          refine laneO_run 2 (by kernel_rfl) ?_
          simp only [List.take_succ_cons, List.take_zero, List.drop_succ_cons, List.drop_zero]
          repeat (go_big_quiet_step (fail))
          refine wpQuiet_nil ?_
          refine laneO_end (by simp) rfl rfl rfl fun w2 hb0 => ?_
          rintro x - y -
          simp only [Act.put, List.setIfInBounds_toArray, List.set_cons_zero, List.set_cons_succ, fillAll]
          have S2 := Lib.hid (HS1.out.behind hb0)
          clear hb0 K0 HS1
          have c1 := S2.out.blk.cell 1
          have f1 := S2.out.blk.free 1
          have S3 := Lib.hid (S2.out.put 1 (.string (t ++ pc)))
          clear S2
          go_wp2
          go_roundw
          case rel => exact ⟨q + 1, by omega, by go_num, by rw [HTX.out]; exact S3.out⟩
          case measure => simp [intOf]; omega
        · obtain rfl : q = 12 := by omega
          have hq12 : ¬ ((12 : Nat) : Int) < 12 := by omega
          have RO : Hid (runOf k n = ⟨k, textOf n 12, n % 256 % 3, li⟩) := Lib.hid (by unfold runOf; rw [hli.out])
          obtain ⟨c0, c1, c2, c3⟩ := HS1.out.blk.four
          have z1 := HS1.out.low.size
          go_wp2_with (at_builtin; refine wpList_new rfl (.tmp 53) (.tmp 55) _ rfl W.heap.size 40 4 40 (.agg #[.int .i64 0, .string ByteArray.empty, .int .i64 0, .int .i64 0]) Try.underlying36 rn_info rfl (by decide) _ _ _ _ rfl HS1.out.own rfl ⟨by omega, by unfold maxLen; omega, z1⟩ rfl (by simp [Value.oneCell']) ?_; intro A3 c3' w9 hown3 hb3; have HP9 := Lib.hid hown3; have HB9 := Lib.hid (HS1.out.low.trans hb3); clear hown3 hb3)
          go_roundw
          case rel => exact ⟨k + 1, A3, c3', by omega, by omega, by go_num, rfl, by rw [HS.out, rCells_append, RO.out]; exact HP9.out, HB9.out⟩
          case measure => simp [intOf]; omega
    · have hkm : k = min l.length 12 := by omega
      have HKM := Lib.hid (show runsTo l k = runsL l by unfold runsL; rw [← hkm])
      have HLN := Lib.hid (show (runsL l).length = k by rw [← HKM.out, runsTo_length])
      rw [HKM.out] at HO
      by_cases hlt1 : k < l.length
      · have h1 : (k : Int) < l.length := by omega
        have h2 : ¬ (k : Int) < 12 := by omega
        clear hkm
        go_wp2
        go_ret
        exact ⟨B, d, by rw [HLN.out]; rfl, by rw [HLN.out]; exact HO.out, HB.out⟩
      · have h1 : ¬ (k : Int) < l.length := by omega
        clear hkm
        go_wp2
        go_ret
        exact ⟨B, d, by rw [HLN.out]; rfl, by rw [HLN.out]; exact HO.out, HB.out⟩
end Go.Proofs.Ytncaichachipkaa
