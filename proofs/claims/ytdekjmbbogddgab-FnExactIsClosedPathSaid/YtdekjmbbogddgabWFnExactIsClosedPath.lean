/- FnExactIsClosedPath for every argument. -/
import Derived.Test.YtdekjmbbogddgabLFnExactIsClosedPath
import Derived.Test.YtdekjmbbogddgabClosed
namespace Go.Proofs.Ytdekjmbbogddgab
open Go.RowKit
set_option linter.unusedVariables false
theorem wFnExactIsClosedPath (a0 : ByteArray) (w : World) (hs0 : a0.size ≤ maxLen) :
    Calls Try.prog 3 #[.string a0] w fun e w' => e = .returned (.bool true) ∧ Below w.heap.size w w' := by
  by_cases hz : 1048576 < a0.size
  · exact wFnExactIsClosedPath_big a0 w hz
  · have hz0 : ¬ 1048576 < a0.size := by omega
    exact wFnExactIsClosedPath_main a0 (pathB a0) (closedV a0) (Lib.hid fun w => specClosed_ret a0 w hs0) (Lib.hid fun w => isClosed_ret a0 w hs0) w hz0
end Go.Proofs.Ytdekjmbbogddgab
