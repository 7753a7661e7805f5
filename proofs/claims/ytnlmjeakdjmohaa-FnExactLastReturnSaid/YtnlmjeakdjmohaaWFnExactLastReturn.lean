/- FnExactLastReturn for every argument. -/
import Derived.Test.YtnlmjeakdjmohaaLFnExactLastReturn
import Derived.Test.YtnlmjeakdjmohaaLrM
namespace Go.Proofs.Ytnlmjeakdjmohaa
open Go.RowKit
set_option linter.unusedVariables false
theorem wFnExactLastReturn (a0 : ByteArray) (w : World) (hs0 : a0.size ≤ maxLen) :
    Calls Try.prog 17 #[.string a0] w fun e w' => e = .returned (.bool true) ∧ Below w.heap.size w w' := by
  by_cases hz : 1048576 < a0.size
  · exact wFnExactLastReturn_big a0 w hz
  · have hz0 : ¬ 1048576 < a0.size := by omega
    exact wFnExactLastReturn_main a0 (pathB a0) (laV a0 0) (Lib.hid fun w => specLastReturn_ret a0 w hs0) (Lib.hid fun w => lastReturnI_ret a0 w hs0) w hz0
end Go.Proofs.Ytnlmjeakdjmohaa
