/- FnExactAreaOfPath for every argument. -/
import Derived.Test.YtdekjmbbogddgaaLFnExactAreaOfPath
import Derived.Test.YtdekjmbbogddgaaArea
namespace Go.Proofs.Ytdekjmbbogddgaa
open Go.RowKit
theorem wFnExactAreaOfPath (a0 : ByteArray) (w : World) (hs0 : a0.size ≤ maxLen) :
    Calls Try.prog 13 #[.string a0] w fun e w' => e = .returned (.bool true) ∧ Below w.heap.size w w' := by
  by_cases hz : 1048576 < a0.size
  · exact wFnExactAreaOfPath_big a0 w hz
  · have hz0 : ¬ 1048576 < a0.size := by omega
    exact wFnExactAreaOfPath_main a0 (pathB a0) (areaV a0) (Lib.hid fun w => specArea_ret a0 w hs0) (Lib.hid fun w => area_ret a0 w hs0) w hz0
end Go.Proofs.Ytdekjmbbogddgaa
