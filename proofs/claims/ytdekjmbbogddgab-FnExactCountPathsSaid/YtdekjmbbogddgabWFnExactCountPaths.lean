/- FnExactCountPaths for every argument. -/
import Derived.Test.YtdekjmbbogddgabLFnExactCountPaths
import Derived.Test.YtdekjmbbogddgabChoose
namespace Go.Proofs.Ytdekjmbbogddgab
open Go.RowKit
set_option linter.unusedVariables false
theorem wFnExactCountPaths (a0 : Int) (a1 : Int) (w : World) (hs0 : (Lit.int .i64 a0).wf = true) (hs1 : (Lit.int .i64 a1).wf = true) :
    Calls Try.prog 11 #[.int .i64 a0, .int .i64 a1] w fun e w' => e = .returned (.bool true) ∧ Below w.heap.size w w' := by
  exact wFnExactCountPaths_main a0 a1 (cntOk a0 a1) (cntV a0 a1) (Lib.hid fun w => specCount_ret a0 a1 w) (Lib.hid fun w => countW_ret a0 a1 w) w 
end Go.Proofs.Ytdekjmbbogddgab
