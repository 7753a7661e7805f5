/- FnExactAreaIndex for every argument. -/
import Derived.Test.YtnlmjeakdjmohaaLFnExactAreaIndex
import Derived.Test.YtnlmjeakdjmohaaAiS
namespace Go.Proofs.Ytnlmjeakdjmohaa
open Go.RowKit
set_option linter.unusedVariables false
theorem wFnExactAreaIndex (a0 : ByteArray) (w : World) (hs0 : a0.size ≤ maxLen) :
    Calls Try.prog 20 #[.string a0] w fun e w' => e = .returned (.bool true) ∧ Below w.heap.size w w' := by
  by_cases hz : 1048576 < a0.size
  · exact wFnExactAreaIndex_big a0 w hz
  · have hz0 : ¬ 1048576 < a0.size := by omega
    exact wFnExactAreaIndex_main a0 (aiOk a0) (aiV a0) (Lib.hid fun w => specAreaIndex_ret a0 w hs0) (Lib.hid fun w => areaIndexI_ret a0 w hs0) w hz0
end Go.Proofs.Ytnlmjeakdjmohaa
