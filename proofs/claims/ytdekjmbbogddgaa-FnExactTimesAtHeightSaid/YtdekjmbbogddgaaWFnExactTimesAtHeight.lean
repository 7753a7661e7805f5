/- FnExactTimesAtHeight for every argument. -/
import Derived.Test.YtdekjmbbogddgaaLFnExactTimesAtHeight
import Derived.Test.YtdekjmbbogddgaaTimes
namespace Go.Proofs.Ytdekjmbbogddgaa
open Go.RowKit
theorem wFnExactTimesAtHeight (a0 : ByteArray) (a1 : Int) (w : World) (hs0 : a0.size ≤ maxLen) (hs1 : (Lit.int .i64 a1).wf = true) :
    Calls Try.prog 10 #[.string a0, .int .i64 a1] w fun e w' => e = .returned (.bool true) ∧ Below w.heap.size w w' := by
  by_cases hz : 1048576 < a0.size
  · exact wFnExactTimesAtHeight_big a0 a1 w hz
  · have hz0 : ¬ 1048576 < a0.size := by omega
    exact wFnExactTimesAtHeight_main a0 a1 (pathB a0) (timesV a0 a1) (Lib.hid fun w => specTimes_ret a0 a1 w hs0) (Lib.hid fun w => times_ret a0 a1 w hs0) w hz0
end Go.Proofs.Ytdekjmbbogddgaa
