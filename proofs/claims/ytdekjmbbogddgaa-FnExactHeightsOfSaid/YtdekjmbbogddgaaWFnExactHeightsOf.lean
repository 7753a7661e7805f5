/- FnExactHeightsOf for every argument. -/
import Derived.Test.YtdekjmbbogddgaaLFnExactHeightsOf
import Derived.Test.YtdekjmbbogddgaaHeightsR
namespace Go.Proofs.Ytdekjmbbogddgaa
open Go.RowKit
theorem wFnExactHeightsOf (a0 : ByteArray) (w : World) (hs0 : a0.size ≤ maxLen) :
    Calls Try.prog 6 #[.string a0] w fun e w' => e = .returned (.bool true) ∧ Below w.heap.size w w' := by
  by_cases hz : 1048576 < a0.size
  · exact wFnExactHeightsOf_big a0 w hz
  · have hz0 : ¬ 1048576 < a0.size := by omega
    exact wFnExactHeightsOf_main a0 (pathB a0) (htsV a0) (htsV_len a0 hz0) (Lib.hid fun w => specHeights_ret a0 w hs0) (Lib.hid fun w => heights_ret a0 w hs0) w hz0
end Go.Proofs.Ytdekjmbbogddgaa
