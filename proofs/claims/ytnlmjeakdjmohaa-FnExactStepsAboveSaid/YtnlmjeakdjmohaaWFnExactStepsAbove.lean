/- FnExactStepsAbove for every argument. -/
import Derived.Test.YtnlmjeakdjmohaaLFnExactStepsAbove
import Derived.Test.YtnlmjeakdjmohaaRecI
namespace Go.Proofs.Ytnlmjeakdjmohaa
open Go.RowKit
set_option linter.unusedVariables false
theorem wFnExactStepsAbove (a0 : ByteArray) (w : World) (hs0 : a0.size ≤ maxLen) :
    Calls Try.prog 15 #[.string a0] w fun e w' => e = .returned (.bool true) ∧ Below w.heap.size w w' := by
  by_cases hz : 1048576 < a0.size
  · exact wFnExactStepsAbove_big a0 w hz
  · have hz0 : ¬ 1048576 < a0.size := by omega
    exact wFnExactStepsAbove_main a0 (pathB a0) (abvV a0) (Lib.hid fun w => specStepsAbove_ret a0 w hs0) (Lib.hid fun w => stepsAbove_ret a0 w hs0) w hz0
end Go.Proofs.Ytnlmjeakdjmohaa
