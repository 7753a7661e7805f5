/- FnExactEndHeight for every argument. -/
import Derived.Test.YtdekjmbbogddgaaLFnExactEndHeight
import Derived.Test.YtdekjmbbogddgaaScalars
namespace Go.Proofs.Ytdekjmbbogddgaa
open Go.RowKit
theorem wFnExactEndHeight (a0 : ByteArray) (w : World) (hs0 : a0.size ≤ maxLen) :
    Calls Try.prog 7 #[.string a0] w fun e w' => e = .returned (.bool true) ∧ Below w.heap.size w w' := by
  by_cases hz : 1048576 < a0.size
  · exact wFnExactEndHeight_big a0 w hz
  · have hz0 : ¬ 1048576 < a0.size := by omega
    exact wFnExactEndHeight_main a0 (pathB a0) (endV a0) (Lib.hid fun w => specEnd_ret a0 w hs0) (Lib.hid fun w => endHeight_ret a0 w hs0) w hz0
end Go.Proofs.Ytdekjmbbogddgaa
