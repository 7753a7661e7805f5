/- FnExactWinnersOf for every argument. -/
import Derived.Test.YtnlcainfkchieaaDoorLFnExactWinnersOf
import Derived.Test.YtnlcainfkchieaaDoorVoI3
namespace Go.Proofs.YtnlcainfkchieaaDoor
open Go.RowKit
set_option linter.unusedVariables false
theorem wFnExactWinnersOf (a0 : ByteArray) (w : World) (hs0 : a0.size ≤ maxLen) :
    Calls Tryd.prog 5 #[.string a0] w fun e w' => e = .returned (.bool true) ∧ Below w.heap.size w w' := by
  by_cases hz : 1048576 < a0.size
  · exact wFnExactWinnersOf_big a0 w hz
  · have hz0 : ¬ 1048576 < a0.size := by omega
    exact wFnExactWinnersOf_main a0 (votB a0) (winV9 a0) (Lib.hid fun w => specWinnersOf_ret a0 w hs0) (Lib.hid fun w => winnersOf_ret a0 w hs0) w hz0
end Go.Proofs.YtnlcainfkchieaaDoor
