/- FnExactColumnVotes for every argument. -/
import Derived.Test.YtnlcainfkchieaaDoorLFnExactColumnVotes
import Derived.Test.YtnlcainfkchieaaDoorVoColI
namespace Go.Proofs.YtnlcainfkchieaaDoor
open Go.RowKit
set_option linter.unusedVariables false
theorem wFnExactColumnVotes (a0 : ByteArray) (w : World) (hs0 : a0.size ≤ maxLen) :
    Calls Tryd.prog 12 #[.string a0] w fun e w' => e = .returned (.bool true) ∧ Below w.heap.size w w' := by
  by_cases hz : 1048576 < a0.size
  · exact wFnExactColumnVotes_big a0 w hz
  · have hz0 : ¬ 1048576 < a0.size := by omega
    exact wFnExactColumnVotes_main a0 (colB a0) (cvV a0) (Lib.hid fun w => specColumn_ret a0 w hs0) (Lib.hid fun w => column_ret a0 w hs0) w hz0
end Go.Proofs.YtnlcainfkchieaaDoor
