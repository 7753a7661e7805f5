/- FnExactAllMixed for every argument. -/
import Derived.Test.YtnmmgpmhpjjehaaLFnExactAllMixed
import Derived.Test.YtnmmgpmhpjjehaaAmI
namespace Go.Proofs.Ytnmmgpmhpjjehaa
open Go.RowKit
set_option linter.unusedVariables false
theorem wFnExactAllMixed (a0 : Int) (w : World) (hs0 : (Lit.int .i64 a0).wf = true) :
    Calls Try.prog 6 #[.int .i64 a0] w fun e w' => e = .returned (.bool true) ∧ Below w.heap.size w w' := by
  exact wFnExactAllMixed_main a0 (amOk a0) (amV a0) (amV_len a0) (Lib.hid fun w => specAllMixed_ret a0 w) (Lib.hid fun w => allMixed_ret a0 w) w 
end Go.Proofs.Ytnmmgpmhpjjehaa
