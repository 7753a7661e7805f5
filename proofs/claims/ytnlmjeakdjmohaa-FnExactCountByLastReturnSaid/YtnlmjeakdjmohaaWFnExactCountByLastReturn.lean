/- FnExactCountByLastReturn for every argument. -/
import Derived.Test.YtnlmjeakdjmohaaLFnExactCountByLastReturn
import Derived.Test.YtnlmjeakdjmohaaAbB
namespace Go.Proofs.Ytnlmjeakdjmohaa
open Go.RowKit
set_option linter.unusedVariables false
theorem wFnExactCountByLastReturn (a0 : Int) (w : World) (hs0 : (Lit.int .i64 a0).wf = true) :
    Calls Try.prog 18 #[.int .i64 a0] w fun e w' => e = .returned (.bool true) ∧ Below w.heap.size w w' := by
  exact wFnExactCountByLastReturn_main a0 (prB a0) (prL abF a0) (prL_len abF a0) (Lib.hid fun w => specByLast_ret a0 w) (Lib.hid fun w => byLastI_ret a0 w) w 
end Go.Proofs.Ytnlmjeakdjmohaa
