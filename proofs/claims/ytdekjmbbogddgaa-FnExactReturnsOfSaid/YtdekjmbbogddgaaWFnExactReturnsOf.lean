/- FnExactReturnsOf for every argument. -/
import Derived.Test.YtdekjmbbogddgaaLFnExactReturnsOf
import Derived.Test.YtdekjmbbogddgaaReturns
namespace Go.Proofs.Ytdekjmbbogddgaa
open Go.RowKit
set_option linter.unusedVariables false
theorem wFnExactReturnsOf (a0 : ByteArray) (w : World) (hs0 : a0.size ≤ maxLen) :
    Calls Try.prog 12 #[.string a0] w fun e w' => e = .returned (.bool true) ∧ Below w.heap.size w w' := by
  by_cases hz : 1048576 < a0.size
  · exact wFnExactReturnsOf_big a0 w hz
  · have hz0 : ¬ 1048576 < a0.size := by omega
    exact wFnExactReturnsOf_main a0 (pathB a0) (retsV a0) (retsV_len a0 hz0) (Lib.hid fun w => specReturns_ret a0 w hs0) (Lib.hid fun w => returns_ret a0 w hs0) w hz0
end Go.Proofs.Ytdekjmbbogddgaa
