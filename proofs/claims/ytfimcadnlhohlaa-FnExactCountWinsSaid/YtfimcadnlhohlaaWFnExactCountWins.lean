/- FnExactCountWins for every argument. -/
import Derived.Test.YtfimcadnlhohlaaLFnExactCountWins
import Derived.Test.YtfimcadnlhohlaaCwI
import Derived.Test.YtfimcadnlhohlaaCwS
namespace Go.Proofs.Ytfimcadnlhohlaa
open Go.RowKit
set_option linter.unusedVariables false
theorem wFnExactCountWins (a0 : Int) (a1 : Int) (a2 : Int) (w : World) (hs0 : (Lit.int .i64 a0).wf = true) (hs1 : (Lit.int .i64 a1).wf = true) (hs2 : (Lit.int .i64 a2).wf = true) :
    Calls Try.prog 16 #[.int .i64 a0, .int .i64 a1, .int .i64 a2] w fun e w' => e = .returned (.bool true) ∧ Below w.heap.size w w' := by
  exact wFnExactCountWins_main a0 a1 a2 (cwOk a0 a1 a2) (cwV a0 a1 a2) (Lib.hid fun w => specCountWins_ret a0 a1 a2 w) (Lib.hid fun w => countWinsI_ret a0 a1 a2 w) w 
end Go.Proofs.Ytfimcadnlhohlaa
