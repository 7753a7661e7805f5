/- FnExactCountSchroder for every argument. -/
import Derived.Test.YtnmmgpmhpjjehaaLFnExactCountSchroder
import Derived.Test.YtnmmgpmhpjjehaaBothI
import Derived.Test.YtnmmgpmhpjjehaaSchS
namespace Go.Proofs.Ytnmmgpmhpjjehaa
open Go.RowKit
set_option linter.unusedVariables false
theorem wFnExactCountSchroder (a0 : Int) (w : World) (hs0 : (Lit.int .i64 a0).wf = true) :
    Calls Try.prog 17 #[.int .i64 a0] w fun e w' => e = .returned (.bool true) ∧ Below w.heap.size w w' := by
  exact wFnExactCountSchroder_main a0 (schOk a0) (schV a0) (Lib.hid fun w => specSch_ret a0 w) (Lib.hid fun w => countSchroder_ret a0 w) w 
end Go.Proofs.Ytnmmgpmhpjjehaa
