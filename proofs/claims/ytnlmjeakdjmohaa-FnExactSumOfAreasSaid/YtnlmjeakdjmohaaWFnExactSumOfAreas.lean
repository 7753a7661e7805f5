/- FnExactSumOfAreas for every argument. -/
import Derived.Test.YtnlmjeakdjmohaaLFnExactSumOfAreas
import Derived.Test.YtnlmjeakdjmohaaSoI
import Derived.Test.YtnlmjeakdjmohaaAreaC
namespace Go.Proofs.Ytnlmjeakdjmohaa
open Go.RowKit
set_option linter.unusedVariables false
theorem wFnExactSumOfAreas (a0 : Int) (w : World) (hs0 : (Lit.int .i64 a0).wf = true) :
    Calls Try.prog 11 #[.int .i64 a0] w fun e w' => e = .returned (.bool true) ∧ Below w.heap.size w w' := by
  exact wFnExactSumOfAreas_main a0 (prB a0) (prZ soF a0) (Lib.hid fun w => specSumAreas_ret a0 w) (Lib.hid fun w => sumAreasI_ret a0 w) w 
end Go.Proofs.Ytnlmjeakdjmohaa
