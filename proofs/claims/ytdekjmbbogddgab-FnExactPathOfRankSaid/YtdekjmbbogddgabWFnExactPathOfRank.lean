/- FnExactPathOfRank for every argument. -/
import Derived.Test.YtdekjmbbogddgabLFnExactPathOfRank
import Derived.Test.YtdekjmbbogddgabPathRank
namespace Go.Proofs.Ytdekjmbbogddgab
open Go.RowKit
set_option linter.unusedVariables false
theorem wFnExactPathOfRank (a0 : Int) (a1 : Int) (a2 : Int) (w : World) (hs0 : (Lit.int .i64 a0).wf = true) (hs1 : (Lit.int .i64 a1).wf = true) (hs2 : (Lit.int .i64 a2).wf = true) :
    Calls Try.prog 10 #[.int .i64 a0, .int .i64 a1, .int .i64 a2] w fun e w' => e = .returned (.bool true) ∧ Below w.heap.size w w' := by
  exact wFnExactPathOfRank_main a0 a1 a2 (rankOk a0 a1 a2) (porS a0 a1 a2) (Lib.hid fun w => specPathOfRank_ret a0 a1 a2 w) (Lib.hid fun w => pathOfRank_ret a0 a1 a2 w) w 
end Go.Proofs.Ytdekjmbbogddgab
