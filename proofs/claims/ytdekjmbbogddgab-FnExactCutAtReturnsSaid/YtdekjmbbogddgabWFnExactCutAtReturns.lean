/- FnExactCutAtReturns for every argument. -/
import Derived.Test.YtdekjmbbogddgabLFnExactCutAtReturns
import Derived.Test.YtdekjmbbogddgabCutRetS
namespace Go.Proofs.Ytdekjmbbogddgab
open Go.RowKit
set_option linter.unusedVariables false
theorem wFnExactCutAtReturns (a0 : ByteArray) (w : World) (hs0 : a0.size ≤ maxLen) :
    Calls Try.prog 7 #[.string a0] w fun e w' => e = .returned (.bool true) ∧ Below w.heap.size w w' := by
  by_cases hz : 1048576 < a0.size
  · exact wFnExactCutAtReturns_big a0 w hz
  · have hz0 : ¬ 1048576 < a0.size := by omega
    exact wFnExactCutAtReturns_main a0 (closedV a0) (cutV a0) (cutV_len a0 hz0) (Lib.hid fun w => specCutRet_ret a0 w hs0) (Lib.hid fun w => cutRet_ret a0 w hs0) w hz0
end Go.Proofs.Ytdekjmbbogddgab
