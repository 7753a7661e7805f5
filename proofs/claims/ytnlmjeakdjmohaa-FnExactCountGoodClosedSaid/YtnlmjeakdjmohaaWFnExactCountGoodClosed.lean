/- FnExactCountGoodClosed for every argument. -/
import Derived.Test.YtnlmjeakdjmohaaLFnExactCountGoodClosed
import Derived.Test.YtnlmjeakdjmohaaNbS
namespace Go.Proofs.Ytnlmjeakdjmohaa
open Go.RowKit
set_option linter.unusedVariables false
theorem wFnExactCountGoodClosed (a0 : Int) (w : World) (hs0 : (Lit.int .i64 a0).wf = true) :
    Calls Try.prog 10 #[.int .i64 a0] w fun e w' => e = .returned (.bool true) ∧ Below w.heap.size w w' := by
  exact wFnExactCountGoodClosed_main a0 (prB a0) (prZ gcF a0) (Lib.hid fun w => specGoodClosed_ret a0 w) (Lib.hid fun w => goodClosedI_ret a0 w) w 
end Go.Proofs.Ytnlmjeakdjmohaa
