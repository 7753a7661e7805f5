/- FnExactFirstOvertaken for every argument. -/
import Derived.Test.YtnlcainfkchieaaDoorLFnExactFirstOvertaken
import Derived.Test.YtnlcainfkchieaaDoorVoD4
namespace Go.Proofs.YtnlcainfkchieaaDoor
open Go.RowKit
set_option linter.unusedVariables false
theorem wFnExactFirstOvertaken (a0 : ByteArray) (w : World) (hs0 : a0.size ≤ maxLen) :
    Calls Tryd.prog 8 #[.string a0] w fun e w' => e = .returned (.bool true) ∧ Below w.heap.size w w' := by
  by_cases hz : 1048576 < a0.size
  · exact wFnExactFirstOvertaken_big a0 w hz
  · have hz0 : ¬ 1048576 < a0.size := by omega
    exact wFnExactFirstOvertaken_main a0 (foOk a0) (foV a0) (Lib.hid fun w => specFirstOver_ret a0 w hs0) (Lib.hid fun w => firstOver_ret a0 w hs0) w hz0
end Go.Proofs.YtnlcainfkchieaaDoor
