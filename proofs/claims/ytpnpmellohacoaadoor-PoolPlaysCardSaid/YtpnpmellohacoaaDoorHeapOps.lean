import Derived.Test.YtpnpmellohacoaaDoorHeapUp
/- heap.Push and heap.Pop over pool's numbers. -/
namespace Go.Proofs.YtpnpmellohacoaaDoor
open Go Go.RowKit
set_option linter.unusedVariables false
set_option linter.unusedSimpArgs false

theorem len_at {I : Int} (A : Option Addr) (n c : Nat) (w : World) (hn : n ≤ 9223372036854775807) (hI : I = n) : Calls Tryd.prog 50 #[.slice A n c] w fun e w' => e = .returned (.int .i64 I) ∧ w = w' := by
  subst hI; exact len_any A n c w hn
theorem up_at {I : Int} (g b n c j : Nat) (M PV : Value) (zs : List Int) (w : World) (h : Hid (HpAt w g M PV (.slice (some ⟨b, 0, none⟩) n c) zs)) (hz : Hid (zs.length = n)) (hn : n ≤ 1000000) (hI : I = j) (hj : j < n) (hu : Hid (HUp zs j)) :
    Calls Tryd.prog 22 #[.iface 55 (.pointer (some ⟨g, 2, none⟩)), .int .i64 I] w (UpPost g b n c M PV zs w) := by
  subst hI; exact up_any g b n c j M PV zs w h.out hz.out hn hj hu.out
def PushPost (g : Nat) (M PV FV : Value) (zs : List Int) (x : Int) (w : World) (e : Ending) (w' : World) : Prop :=
  e = .returned (.tuple #[]) ∧ ∃ FV' zs', HpAt w' g M PV FV' zs' ∧ zs'.Perm (x :: zs) ∧ Heap zs' ∧ Only (g :: FV.ownBlock.toList) w w' ∧ (∀ k, FV'.ownBlock = some k → FV.ownBlock = some k ∨ w.heap.size ≤ k)
theorem heapPush_any (g : Nat) (M PV FV : Value) (zs : List Int) (x : Int) (w : World) (h : HpAt w g M PV FV zs) (hh : Heap zs) (hn : zs.length ≤ 900000) :
    Calls Tryd.prog 19 #[.iface 55 (.pointer (some ⟨g, 2, none⟩)), .iface 3 (.int .i64 x)] w (PushPost g M PV FV zs x w) := by
  have hgs := h.whole.size
  have nP := nilPush
  have nL := nilLen
  have mP := methPush
  have HH := Lib.hid hh
  have HP := Lib.hid (push_any g M PV FV zs x w h (by omega))
  clear h hh
  go_enter Tryd.func19, Tryd.ntmps19
  go_wp2_with fail
  refine HP.out.mono ?_
  rintro e w1 ⟨rfl, FV1, h1, ho1, hk1⟩
  obtain ⟨b, c, rfl, hc1, hc2, hb⟩ := owns_some h1.row (by simp)
  have c2 : w1.cell? ⟨g, 2, none⟩ = some (.slice (some ⟨b, 0, none⟩) (zs ++ [x]).length c) := h1.whole.cell 2
  rw [List.length_append, List.length_singleton] at c2 h1 hk1 hc1
  have mL := methLen ⟨g, 2, none⟩ _ w1 c2
  have H1 := Lib.hid h1
  have HO := Lib.hid ho1
  have HK := Lib.hid hk1
  have HL : Hid ((zs ++ [x]).length = zs.length + 1) := Lib.hid (by simp)
  have HS := Lib.hid ho1.size
  clear h1 ho1 hk1 HP mP hc2
  go_wp2_with fail
  refine (len_at (some ⟨b, 0, none⟩) (zs.length + 1) c w1 (by omega) (by first | rfl | (push_cast; rfl))).mono ?_
  rintro e w' ⟨rfl, rfl⟩
  clear mL c2
  go_wp2_with fail
  refine (up_at g b (zs.length + 1) c zs.length M PV (zs ++ [x]) w1 H1 HL (by omega) (by omega) (by omega) (Lib.hid (hup_start HH.out x))).mono ?_
  rintro e w2 ⟨rfl, zs', h2, hp2, hh2, ho2⟩
  have R : Hid (PushPost g M PV FV zs x w (.returned (.tuple #[])) w2) := Lib.hid ⟨rfl, _, zs', h2, hp2.trans (List.perm_append_singleton x zs), hh2, HO.out.trans ho2 (by
    intro k hk
    obtain rfl : k = b := by simpa using hk
    exact (HK.out k rfl).imp (fun e => by simp [e]) id), HK.out⟩
  clear h2 hp2 hh2 ho2
  go_wp2
  exact bodyPost_end (v := .tuple #[]) (results_none (by kernel_rfl) _ _ _) rfl R.out
def PopPost (g b n c : Nat) (M PV : Value) (zs : List Int) (w : World) (e : Ending) (w' : World) : Prop :=
  e = .returned (.iface 3 (.int .i64 (at0 zs 0))) ∧ ∃ zs', HpAt w' g M PV (.slice (some ⟨b, 0, none⟩) n c) zs' ∧ Heap zs' ∧ (at0 zs 0 :: zs').Perm zs ∧ Only [g, b] w w'
theorem down_at {I : Int} (g b n c : Nat) (M PV : Value) (zs : List Int) (w : World) (h : Hid (HpAt w g M PV (.slice (some ⟨b, 0, none⟩) (n + 1) c) zs)) (hz : Hid (zs.length = n + 1)) (hn : n ≤ 1000000) (hI : I = n) (hu : Hid (HDown zs n 0)) :
    Calls Tryd.prog 27 #[.iface 55 (.pointer (some ⟨g, 2, none⟩)), .int .i64 0, .int .i64 I] w (DownPost g b n c M PV zs w) := by
  subst hI; exact down_any g b n c M PV zs w h.out hz.out hn hu.out
theorem heapPop_any (g b n c : Nat) (M PV : Value) (zs : List Int) (w : World) (h : HpAt w g M PV (.slice (some ⟨b, 0, none⟩) (n + 1) c) zs) (hz : zs.length = n + 1) (hn : n ≤ 900000) (hh : Heap zs) :
    Calls Tryd.prog 21 #[.iface 55 (.pointer (some ⟨g, 2, none⟩))] w (PopPost g b n c M PV zs w) := by
  have hgs := h.whole.size
  have hgb : g ≠ b := by have := h.ne; simp [Value.ownBlock] at this; omega
  have nP := nilPop
  have nL := nilLen
  have nS := nilSwap
  have c2 : w.cell? ⟨g, 2, none⟩ = some (.slice (some ⟨b, 0, none⟩) (n + 1) c) := h.whole.cell 2
  have mL := methLen ⟨g, 2, none⟩ _ w c2
  have mS := methSwap ⟨g, 2, none⟩ _ w c2
  have hrow := h.row
  rw [hz] at hrow
  have HR := Lib.hid hrow
  have H := Lib.hid h
  have HH := Lib.hid hh
  have HZ := Lib.hid hz
  clear h hh hz hrow c2
  go_enter Tryd.func21, Tryd.ntmps21
  go_wp2_with fail
  refine (len_at (some ⟨b, 0, none⟩) (n + 1) c w (by omega) (by first | rfl | (push_cast; rfl))).mono ?_
  rintro e w' ⟨rfl, rfl⟩
  clear mL
  go_wp2_with fail
  refine (swap_at b (n + 1) c 0 n zs w HR (by omega) (by omega) (by omega) (by omega) (by omega)).mono ?_
  rintro e w1 ⟨rfl, hr1, ho1⟩
  have hl1 : (sw zs 0 n).length = n + 1 := by rw [sw_length]; exact HZ.out
  have H1 : Hid (HpAt w1 g M PV (.slice (some ⟨b, 0, none⟩) (n + 1) c) (sw zs 0 n)) := Lib.hid ⟨ho1.whole H.out.whole (by simpa using hgb), by rw [hl1]; exact hr1⟩
  have HL1 := Lib.hid hl1
  have HO1 := Lib.hid ho1
  have HD : Hid (HDown (sw zs 0 n) n 0) := Lib.hid (by have := hdown_start HH.out (by rw [HZ.out]; omega); rw [HZ.out] at this; exact this)
  have HA1 : Hid (at0 (sw zs 0 n) n = at0 zs 0) := Lib.hid (by rw [sw_at _ _ _ _ (by rw [HZ.out]; omega) (by rw [HZ.out]; omega), if_pos rfl])
  have HP1 := Lib.hid (sw_perm zs 0 n (by rw [HZ.out]; omega) (by rw [HZ.out]; omega))
  clear hl1 hr1 ho1 mS
  go_wp2_with fail
  refine (down_at g b n c M PV (sw zs 0 n) w1 H1 HL1 (by omega) (by omega) HD).mono ?_
  rintro e w2 ⟨⟨r, rfl⟩, zs', h2, hp2, hh2, ha2, ho2⟩
  have HO2 := Lib.hid (HO1.out.trans ho2 (by simp))
  have hl2 : zs'.length = n + 1 := by rw [hp2.length_eq]; exact HL1.out
  have PP := Lib.hid (pop_any g b n c M PV zs' w2 h2 hl2 (by omega))
  have HA2 := Lib.hid (ha2.trans HA1.out)
  have HP2 := Lib.hid (hp2.trans HP1.out)
  have HH2 := Lib.hid hh2
  clear h2 hp2 hh2 ha2 ho2 hl2
  have mP := methPop
  go_wp2_with fail
  refine PP.out.mono ?_
  rintro e w3 ⟨rfl, h3, ho3⟩
  have R : Hid (PopPost g b n c M PV zs w (.returned (.iface 3 (.int .i64 (at0 zs' n)))) w3) := Lib.hid ⟨by rw [HA2.out], zs'.take n, h3, heap_take HH2.out, by
      have := pop_perm HP2.out (m := at0 zs 0) (by rw [HZ.out]; omega) (by rw [HZ.out]; exact HA2.out)
      rw [HZ.out] at this
      exact this, (HO2.out.mono (T := [g, b]) (by simp)).trans ho3 (by simp)⟩
  clear h3 ho3 mP PP
  go_wp2
  go_ret
  exact R.out
end Go.Proofs.YtpnpmellohacoaaDoor
