/- FnExactCountNeverBack for every argument. -/
import Derived.Test.YtnlmjeakdjmohaaLFnExactCountNeverBack
import Derived.Test.YtnlmjeakdjmohaaNbS
namespace Go.Proofs.Ytnlmjeakdjmohaa
open Go.RowKit
set_option linter.unusedVariables false
theorem wFnExactCountNeverBack (a0 : Int) (w : World) (hs0 : (Lit.int .i64 a0).wf = true) :
    Calls Try.prog 19 #[.int .i64 a0] w fun e w' => e = .returned (.bool true) ∧ Below w.heap.size w w' := by
  exact wFnExactCountNeverBack_main a0 (prB a0) (prZ nbF a0) (Lib.hid fun w => specNeverBack_ret a0 w) (Lib.hid fun w => neverBackI_ret a0 w) w 
end Go.Proofs.Ytnlmjeakdjmohaa
