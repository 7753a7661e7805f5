/- FnExactCountNoFloor for every argument. -/
import Derived.Test.YtnmmgpmhpjjehaaLFnExactCountNoFloor
import Derived.Test.YtnmmgpmhpjjehaaKmI
namespace Go.Proofs.Ytnmmgpmhpjjehaa
open Go.RowKit
set_option linter.unusedVariables false
theorem wFnExactCountNoFloor (a0 : Int) (w : World) (hs0 : (Lit.int .i64 a0).wf = true) :
    Calls Try.prog 7 #[.int .i64 a0] w fun e w' => e = .returned (.bool true) ∧ Below w.heap.size w w' := by
  exact wFnExactCountNoFloor_main a0 (cfOk a0) (cfV a0) (Lib.hid fun w => specCountNoFloor_ret a0 w) (Lib.hid fun w => countNoFloor_ret a0 w) w 
end Go.Proofs.Ytnmmgpmhpjjehaa
