/- FnExactHighestOf for every argument. -/
import Derived.Test.YtdekjmbbogddgaaLFnExactHighestOf
import Derived.Test.YtdekjmbbogddgaaHighs
namespace Go.Proofs.Ytdekjmbbogddgaa
open Go.RowKit
theorem wFnExactHighestOf (a0 : ByteArray) (w : World) (hs0 : a0.size ≤ maxLen) :
    Calls Try.prog 9 #[.string a0] w fun e w' => e = .returned (.bool true) ∧ Below w.heap.size w w' := by
  by_cases hz : 1048576 < a0.size
  · exact wFnExactHighestOf_big a0 w hz
  · have hz0 : ¬ 1048576 < a0.size := by omega
    exact wFnExactHighestOf_main a0 (pathB a0) (highV a0) (Lib.hid fun w => specHigh_ret a0 w hs0) (Lib.hid fun w => highestOf_ret a0 w hs0) w hz0
end Go.Proofs.Ytdekjmbbogddgaa
