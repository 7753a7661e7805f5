/- FnExactLeadersAlong for every argument. -/
import Derived.Test.YtnlcainfkchieaaDoorLFnExactLeadersAlong
import Derived.Test.YtnlcainfkchieaaDoorVoI3
namespace Go.Proofs.YtnlcainfkchieaaDoor
open Go.RowKit
set_option linter.unusedVariables false
theorem wFnExactLeadersAlong (a0 : ByteArray) (w : World) (hs0 : a0.size ≤ maxLen) :
    Calls Tryd.prog 6 #[.string a0] w fun e w' => e = .returned (.bool true) ∧ Below w.heap.size w w' := by
  by_cases hz : 1048576 < a0.size
  · exact wFnExactLeadersAlong_big a0 w hz
  · have hz0 : ¬ 1048576 < a0.size := by omega
    exact wFnExactLeadersAlong_main a0 (votB a0) (leaV9 a0) ((Nat.le_trans (leaV9_len a0) (by omega))) (Lib.hid fun w => specLeaders_ret a0 w hs0) (Lib.hid fun w => leaders_ret a0 w hs0) w hz0
end Go.Proofs.YtnlcainfkchieaaDoor
