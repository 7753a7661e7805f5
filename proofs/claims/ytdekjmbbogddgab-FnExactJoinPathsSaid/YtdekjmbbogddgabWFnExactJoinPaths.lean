/- FnExactJoinPaths for every argument. -/
import Derived.Test.YtdekjmbbogddgabLFnExactJoinPaths
import Derived.Test.YtdekjmbbogddgabJoin
namespace Go.Proofs.Ytdekjmbbogddgab
open Go.RowKit
set_option linter.unusedVariables false
theorem wFnExactJoinPaths (a0 : ByteArray) (a1 : ByteArray) (w : World) (hs0 : a0.size ≤ maxLen) (hs1 : a1.size ≤ maxLen) :
    Calls Try.prog 6 #[.string a0, .string a1] w fun e w' => e = .returned (.bool true) ∧ Below w.heap.size w w' := by
  by_cases hz : 1048576 < a0.size ∨ 1048576 < a1.size
  · exact wFnExactJoinPaths_big a0 a1 w hz
  · have hz0 : ¬ 1048576 < a0.size := by omega
    have hz1 : ¬ 1048576 < a1.size := by omega
    exact wFnExactJoinPaths_main a0 a1 (joinOk a0 a1) (joinV a0 a1) (Lib.hid fun w => specJoin_ret a0 a1 w hs0 hs1) (Lib.hid fun w => join_ret a0 a1 w hs0 hs1) w hz0 hz1
end Go.Proofs.Ytdekjmbbogddgab
