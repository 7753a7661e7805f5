/- FnExactIsGood for every argument. -/
import Derived.Test.YtdekjmbbogddgaaLFnExactIsGood
import Derived.Test.YtdekjmbbogddgaaGood
namespace Go.Proofs.Ytdekjmbbogddgaa
open Go.RowKit
theorem wFnExactIsGood (a0 : ByteArray) (w : World) (hs0 : a0.size ≤ maxLen) :
    Calls Try.prog 14 #[.string a0] w fun e w' => e = .returned (.bool true) ∧ Below w.heap.size w w' := by
  by_cases hz : 1048576 < a0.size
  · exact wFnExactIsGood_big a0 w hz
  · have hz0 : ¬ 1048576 < a0.size := by omega
    exact wFnExactIsGood_main a0 (pathB a0) (goodV a0) (Lib.hid fun w => specGood_ret a0 w hs0) (Lib.hid fun w => isGood_ret a0 w hs0) w hz0
end Go.Proofs.Ytdekjmbbogddgaa
