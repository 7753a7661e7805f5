/- FnExactTreeOfPath for every argument. -/
import Derived.Test.YtgajknnfmnnfeaaLFnExactTreeOfPath
import Derived.Test.YtgajknnfmnnfeaaTopP
import Derived.Test.YtgajknnfmnnfeaaTopS
namespace Go.Proofs.Ytgajknnfmnnfeaa
open Go.RowKit
set_option linter.unusedVariables false
theorem wFnExactTreeOfPath (a0 : ByteArray) (w : World) (hs0 : a0.size ≤ maxLen) :
    Calls Try.prog 13 #[.string a0] w fun e w' => e = .returned (.bool true) ∧ Below w.heap.size w w' := by
  by_cases hz : 1048576 < a0.size
  · exact wFnExactTreeOfPath_big a0 w hz
  · have hz0 : ¬ 1048576 < a0.size := by omega
    exact wFnExactTreeOfPath_main a0 (topOk a0) (topV a0) (topV_len a0) (Lib.hid fun w => specTreeOfPath_ret a0 w hs0) (Lib.hid fun w => treeOfPath_ret a0 w hs0) w hz0
end Go.Proofs.Ytgajknnfmnnfeaa
