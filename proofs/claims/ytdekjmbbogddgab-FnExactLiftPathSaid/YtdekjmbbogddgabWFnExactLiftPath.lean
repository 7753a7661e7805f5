/- FnExactLiftPath for every argument. -/
import Derived.Test.YtdekjmbbogddgabLFnExactLiftPath
import Derived.Test.YtdekjmbbogddgabJoin
namespace Go.Proofs.Ytdekjmbbogddgab
open Go.RowKit
set_option linter.unusedVariables false
theorem wFnExactLiftPath (a0 : ByteArray) (w : World) (hs0 : a0.size ≤ maxLen) :
    Calls Try.prog 8 #[.string a0] w fun e w' => e = .returned (.bool true) ∧ Below w.heap.size w w' := by
  by_cases hz : 1048576 < a0.size
  · exact wFnExactLiftPath_big a0 w hz
  · have hz0 : ¬ 1048576 < a0.size := by omega
    exact wFnExactLiftPath_main a0 (liftOk a0) (liftV a0) (Lib.hid fun w => specLift_ret a0 w hs0) (Lib.hid fun w => lift_ret a0 w hs0) w hz0
end Go.Proofs.Ytdekjmbbogddgab
