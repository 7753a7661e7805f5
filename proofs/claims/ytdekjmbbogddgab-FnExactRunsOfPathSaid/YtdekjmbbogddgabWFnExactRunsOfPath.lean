/- FnExactRunsOfPath for every argument. -/
import Derived.Test.YtdekjmbbogddgabLFnExactRunsOfPath
import Derived.Test.YtdekjmbbogddgabRunsS
namespace Go.Proofs.Ytdekjmbbogddgab
open Go.RowKit
set_option linter.unusedVariables false
theorem wFnExactRunsOfPath (a0 : ByteArray) (w : World) (hs0 : a0.size ≤ maxLen) :
    Calls Try.prog 12 #[.string a0] w fun e w' => e = .returned (.bool true) ∧ Below w.heap.size w w' := by
  by_cases hz : 1048576 < a0.size
  · exact wFnExactRunsOfPath_big a0 w hz
  · have hz0 : ¬ 1048576 < a0.size := by omega
    exact wFnExactRunsOfPath_main a0 (pathB a0) (runsLV a0) (runsLV_len a0 hz0) (Lib.hid fun w => specRuns_ret a0 w hs0) (Lib.hid fun w => runs_ret a0 w hs0) w hz0
end Go.Proofs.Ytdekjmbbogddgab
