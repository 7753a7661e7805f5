/- FnExactPeaksOf for every argument. -/
import Derived.Test.YtdekjmbbogddgaaLFnExactPeaksOf
import Derived.Test.YtdekjmbbogddgaaPeaks
namespace Go.Proofs.Ytdekjmbbogddgaa
open Go.RowKit
set_option linter.unusedVariables false
theorem wFnExactPeaksOf (a0 : ByteArray) (w : World) (hs0 : a0.size ≤ maxLen) :
    Calls Try.prog 11 #[.string a0] w fun e w' => e = .returned (.bool true) ∧ Below w.heap.size w w' := by
  by_cases hz : 1048576 < a0.size
  · exact wFnExactPeaksOf_big a0 w hz
  · have hz0 : ¬ 1048576 < a0.size := by omega
    exact wFnExactPeaksOf_main a0 (pathB a0) (peaksV a0) (peaksV_len a0 hz0) (Lib.hid fun w => specPeaks_ret a0 w hs0) (Lib.hid fun w => peaks_ret a0 w hs0) w hz0
end Go.Proofs.Ytdekjmbbogddgaa
