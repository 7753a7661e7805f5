/- FnExactReverseVotes for every argument. -/
import Derived.Test.YtnlcainfkchieaaDoorLFnExactReverseVotes
import Derived.Test.YtnlcainfkchieaaDoorVoRev
namespace Go.Proofs.YtnlcainfkchieaaDoor
open Go.RowKit
set_option linter.unusedVariables false
theorem wFnExactReverseVotes (a0 : ByteArray) (w : World) (hs0 : a0.size ≤ maxLen) :
    Calls Tryd.prog 13 #[.string a0] w fun e w' => e = .returned (.bool true) ∧ Below w.heap.size w w' := by
  by_cases hz : 1048576 < a0.size
  · exact wFnExactReverseVotes_big a0 w hz
  · have hz0 : ¬ 1048576 < a0.size := by omega
    exact wFnExactReverseVotes_main a0 (votB a0) (revV a0) (Lib.hid fun w => specReverse_ret a0 w hs0) (Lib.hid fun w => reverseV_ret a0 w hs0) w hz0
end Go.Proofs.YtnlcainfkchieaaDoor
