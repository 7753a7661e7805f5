/- FnExactTableOfVotes for every argument. -/
import Derived.Test.YtnlcainfkchieaaDoorLFnExactTableOfVotes
import Derived.Test.YtnlcainfkchieaaDoorVoTabI
namespace Go.Proofs.YtnlcainfkchieaaDoor
open Go.RowKit
set_option linter.unusedVariables false
theorem wFnExactTableOfVotes (a0 : ByteArray) (w : World) (hs0 : a0.size ≤ maxLen) :
    Calls Tryd.prog 10 #[.string a0] w fun e w' => e = .returned (.bool true) ∧ Below w.heap.size w w' := by
  by_cases hz : 1048576 < a0.size
  · exact wFnExactTableOfVotes_big a0 w hz
  · exact wFnExactTableOfVotes_main a0 (oB a0) (taV a0) ((Nat.le_trans (taV_len a0) (by omega))) ((Nat.le_trans (taV_flat a0) (by omega))) (Lib.hid fun w => specTable_ret a0 w hs0) (Lib.hid fun w => table_ret a0 w hs0) w hz
end Go.Proofs.YtnlcainfkchieaaDoor
