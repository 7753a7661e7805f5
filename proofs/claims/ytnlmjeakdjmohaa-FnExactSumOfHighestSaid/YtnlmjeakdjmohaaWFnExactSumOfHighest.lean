/- FnExactSumOfHighest for every argument. -/
import Derived.Test.YtnlmjeakdjmohaaLFnExactSumOfHighest
import Derived.Test.YtnlmjeakdjmohaaHgI
import Derived.Test.YtnlmjeakdjmohaaHgS
namespace Go.Proofs.Ytnlmjeakdjmohaa
open Go.RowKit
set_option linter.unusedVariables false
theorem wFnExactSumOfHighest (a0 : Int) (w : World) (hs0 : (Lit.int .i64 a0).wf = true) :
    Calls Try.prog 12 #[.int .i64 a0] w fun e w' => e = .returned (.bool true) ∧ Below w.heap.size w w' := by
  exact wFnExactSumOfHighest_main a0 (prB a0) (prZ hiF a0) (Lib.hid fun w => specSumHigh_ret a0 w) (Lib.hid fun w => sumHighI_ret a0 w) w 
end Go.Proofs.Ytnlmjeakdjmohaa
