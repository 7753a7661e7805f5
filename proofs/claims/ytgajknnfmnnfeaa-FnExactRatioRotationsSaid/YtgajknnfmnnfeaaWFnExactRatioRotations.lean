/- FnExactRatioRotations for every argument. -/
import Derived.Test.YtgajknnfmnnfeaaLFnExactRatioRotations
import Derived.Test.YtgajknnfmnnfeaaRatioI
import Derived.Test.YtgajknnfmnnfeaaRatioS
namespace Go.Proofs.Ytgajknnfmnnfeaa
open Go.RowKit
set_option linter.unusedVariables false
theorem wFnExactRatioRotations (a0 : ByteArray) (a1 : Int) (w : World) (hs0 : a0.size ≤ maxLen) (hs1 : (Lit.int .i64 a1).wf = true) :
    Calls Try.prog 18 #[.string a0, .int .i64 a1] w fun e w' => e = .returned (.bool true) ∧ Below w.heap.size w w' := by
  by_cases hz : 1048576 < a0.size
  · exact wFnExactRatioRotations_big a0 a1 w hz
  · have hz0 : ¬ 1048576 < a0.size := by omega
    exact wFnExactRatioRotations_main a0 a1 (raOk a0 a1) (raV a0 a1) (raV_len a0 a1) (Lib.hid fun w => specRatio_ret a0 a1 w hs0) (Lib.hid fun w => ratioRot_ret a0 a1 w hs0) w hz0
end Go.Proofs.Ytgajknnfmnnfeaa
