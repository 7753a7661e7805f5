/- FnExactCountByFirstRun for every argument. -/
import Derived.Test.YtnlmjeakdjmohaaLFnExactCountByFirstRun
import Derived.Test.YtnlmjeakdjmohaaRtB
namespace Go.Proofs.Ytnlmjeakdjmohaa
open Go.RowKit
set_option linter.unusedVariables false
theorem wFnExactCountByFirstRun (a0 : Int) (w : World) (hs0 : (Lit.int .i64 a0).wf = true) :
    Calls Try.prog 9 #[.int .i64 a0] w fun e w' => e = .returned (.bool true) ∧ Below w.heap.size w w' := by
  exact wFnExactCountByFirstRun_main a0 (prB a0) (prL rtF a0) (prL_len rtF a0) (Lib.hid fun w => specByFirstRun_ret a0 w) (Lib.hid fun w => byFirstRunI_ret a0 w) w 
end Go.Proofs.Ytnlmjeakdjmohaa
