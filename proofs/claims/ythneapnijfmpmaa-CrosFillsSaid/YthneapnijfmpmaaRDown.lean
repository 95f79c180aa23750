import Derived.Test.YthneapnijfmpmaaTDiv
import Derived.Test.YthneapnijfmpmaaRet
/- quoinref1.down: out of RefPx. -/
namespace Go.Proofs.Ythneapnijfmpmaa
open Go Go.RowKit
set_option linter.unusedVariables false
set_option linter.unusedSimpArgs false
set_option maxRecDepth 20000
set_option maxHeartbeats 4000000

theorem down_any (n d : Int) (w : World) (h0 : 1 ≤ d) (h1 : d ≤ 4611686018427387904) (hn : -6917529027641081856 ≤ n) (hn' : n ≤ 6917529027641081856) :
    Calls Try.prog 30 #[.int .i64 n, .int .i64 d] w fun e w' => e = .returned (.int .i64 (n / d)) ∧ w = w' := by
  have hd := tdiv_floor n d (by omega)
  have hb := tdiv_bd n d (by omega) hn hn'
  have hq : -9223372036854775807 ≤ n.tdiv d ∧ n.tdiv d ≤ 9223372036854775807 := by
    by_cases hs : n.tmod d < 0
    · have := hd.1 hs; omega
    · have := hd.2 (by omega); omega
  obtain ⟨hq1, hq2⟩ := hq
  by_cases hs : n.tmod d < 0
  · have h := Lib.hid (hd.1 hs)
    clear hd hb
    go_enter Try.func30, Try.ntmps30
    go_wp2
    go_ret
    exact ⟨ret_int h.out, rfl⟩
  · have h := Lib.hid (hd.2 (by omega))
    clear hd hb
    go_enter Try.func30, Try.ntmps30
    go_wp2
    go_ret
    exact ⟨ret_int h.out, rfl⟩
end Go.Proofs.Ythneapnijfmpmaa
