/- FnExactIsOrdered for every argument. -/
import Derived.Test.YtnlcainfkchieaaDoorLFnExactIsOrdered
import Derived.Test.YtnlcainfkchieaaDoorVoD4
namespace Go.Proofs.YtnlcainfkchieaaDoor
open Go.RowKit
set_option linter.unusedVariables false
theorem wFnExactIsOrdered (a0 : ByteArray) (w : World) (hs0 : a0.size ≤ maxLen) :
    Calls Tryd.prog 7 #[.string a0] w fun e w' => e = .returned (.bool true) ∧ Below w.heap.size w w' := by
  by_cases hz : 1048576 < a0.size
  · exact wFnExactIsOrdered_big a0 w hz
  · have hz0 : ¬ 1048576 < a0.size := by omega
    exact wFnExactIsOrdered_main a0 (votB a0) (oB a0) (Lib.hid fun w => specIsOrdered_ret a0 w hs0) (Lib.hid fun w => isOrdered_ret a0 w hs0) w hz0
end Go.Proofs.YtnlcainfkchieaaDoor
