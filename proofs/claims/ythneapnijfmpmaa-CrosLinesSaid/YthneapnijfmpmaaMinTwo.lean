import Derived.Test.YthneapnijfmpmaaLane
/- min and max of two. No program is named here. -/
namespace Go.Proofs.Ythneapnijfmpmaa
open Go Go.RowKit
theorem run_max_two {P : Program} (w : World) (ts : Array TypeId) (t : TypeId) (k : IntKind) (x y : Int) : (Builtin.max_ ts t #[.int k x, .int k y]).run P w = .ok (.int k (max x y)) w := by
  have e : (if y > x then y else x) = max x y := by rw [Int.max_def]; split <;> (try split) <;> omega
  simp [Builtin.max_, Builtin.max2, e]
theorem run_min_two {P : Program} (w : World) (ts : Array TypeId) (t : TypeId) (k : IntKind) (x y : Int) : (Builtin.min_ ts t #[.int k x, .int k y]).run P w = .ok (.int k (min x y)) w := by
  have e : (if y < x then y else x) = min x y := by rw [Int.min_def]; split <;> (try split) <;> omega
  simp [Builtin.min_, Builtin.min2, e]
end Go.Proofs.Ythneapnijfmpmaa
