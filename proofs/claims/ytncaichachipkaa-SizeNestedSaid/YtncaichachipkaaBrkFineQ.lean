import Derived.Test.YtncaichachipkaaTotalQ
import Derived.Test.YtncaichachipkaaZQ
/- Glyphs that lead not too far: their sums. -/
namespace Go.Proofs.Ytncaichachipkaa
open Go Go.RowKit
set_option linter.unusedVariables false
set_option linter.unusedSimpArgs false
set_option maxRecDepth 20000
set_option maxHeartbeats 4000000

def FineG (g : List Gl) : Prop := g.length ≤ 4194304 ∧ ∀ x ∈ g, -1099511627776 ≤ x.adv ∧ x.adv ≤ 1099511627776
def BdS (s : Int) (k : Nat) : Prop := -(1099511627776 * (k : Int)) ≤ s ∧ s ≤ 1099511627776 * (k : Int)
theorem BdS.tot {s : Int} {k : Nat} (h : BdS s k) (hk : k ≤ 4194304) : Tot s := by obtain ⟨h1, h2⟩ := h; unfold Tot; omega
theorem FineG.at_ {g : List Gl} (h : FineG g) (k : Nat) (hk : k < g.length) : I64 g[k].adv := by
  have := h.2 _ (List.getElem_mem hk); unfold I64; omega
theorem FineG.bd {g : List Gl} (h : FineG g) {s : Int} (k : Nat) (hk : k < g.length) (hb : BdS s k) : BdS (s + g[k].adv) (k + 1) := by
  have := h.2 _ (List.getElem_mem hk)
  obtain ⟨h1, h2⟩ := hb
  unfold BdS; omega
end Go.Proofs.Ytncaichachipkaa
