/- FnExactRankOfPath for every argument. -/
import Derived.Test.YtdekjmbbogddgabLFnExactRankOfPath
import Derived.Test.YtdekjmbbogddgabRankOfS
namespace Go.Proofs.Ytdekjmbbogddgab
open Go.RowKit
set_option linter.unusedVariables false
theorem wFnExactRankOfPath (a0 : ByteArray) (w : World) (hs0 : a0.size ≤ maxLen) :
    Calls Try.prog 9 #[.string a0] w fun e w' => e = .returned (.bool true) ∧ Below w.heap.size w w' := by
  by_cases hz : 1048576 < a0.size
  · exact wFnExactRankOfPath_big a0 w hz
  · have hz0 : ¬ 1048576 < a0.size := by omega
    exact wFnExactRankOfPath_main a0 (pathB a0) (rkV a0) (Lib.hid fun w => specRankOf_ret a0 w hs0) (Lib.hid fun w => rankOf_ret a0 w hs0) w hz0
end Go.Proofs.Ytdekjmbbogddgab
