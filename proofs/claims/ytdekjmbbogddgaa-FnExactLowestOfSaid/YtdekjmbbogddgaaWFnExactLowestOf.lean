/- FnExactLowestOf for every argument. -/
import Derived.Test.YtdekjmbbogddgaaLFnExactLowestOf
import Derived.Test.YtdekjmbbogddgaaScalars
namespace Go.Proofs.Ytdekjmbbogddgaa
open Go.RowKit
theorem wFnExactLowestOf (a0 : ByteArray) (w : World) (hs0 : a0.size ≤ maxLen) :
    Calls Try.prog 8 #[.string a0] w fun e w' => e = .returned (.bool true) ∧ Below w.heap.size w w' := by
  by_cases hz : 1048576 < a0.size
  · exact wFnExactLowestOf_big a0 w hz
  · have hz0 : ¬ 1048576 < a0.size := by omega
    exact wFnExactLowestOf_main a0 (pathB a0) (lowV a0) (Lib.hid fun w => specLow_ret a0 w hs0) (Lib.hid fun w => lowestOf_ret a0 w hs0) w hz0
end Go.Proofs.Ytdekjmbbogddgaa
