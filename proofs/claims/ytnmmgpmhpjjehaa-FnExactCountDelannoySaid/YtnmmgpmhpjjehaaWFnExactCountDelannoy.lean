/- FnExactCountDelannoy for every argument. -/
import Derived.Test.YtnmmgpmhpjjehaaLFnExactCountDelannoy
import Derived.Test.YtnmmgpmhpjjehaaBothI
import Derived.Test.YtnmmgpmhpjjehaaDelS
namespace Go.Proofs.Ytnmmgpmhpjjehaa
open Go.RowKit
set_option linter.unusedVariables false
theorem wFnExactCountDelannoy (a0 : Int) (a1 : Int) (w : World) (hs0 : (Lit.int .i64 a0).wf = true) (hs1 : (Lit.int .i64 a1).wf = true) :
    Calls Try.prog 16 #[.int .i64 a0, .int .i64 a1] w fun e w' => e = .returned (.bool true) ∧ Below w.heap.size w w' := by
  exact wFnExactCountDelannoy_main a0 a1 (delOk a0 a1) (delV a0 a1) (Lib.hid fun w => specDel_ret a0 a1 w) (Lib.hid fun w => countDelannoy_ret a0 a1 w) w 
end Go.Proofs.Ytnmmgpmhpjjehaa
