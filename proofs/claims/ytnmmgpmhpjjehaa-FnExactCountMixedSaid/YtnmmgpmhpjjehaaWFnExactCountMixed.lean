/- FnExactCountMixed for every argument. -/
import Derived.Test.YtnmmgpmhpjjehaaLFnExactCountMixed
import Derived.Test.YtnmmgpmhpjjehaaKmI
namespace Go.Proofs.Ytnmmgpmhpjjehaa
open Go.RowKit
set_option linter.unusedVariables false
theorem wFnExactCountMixed (a0 : Int) (a1 : Int) (w : World) (hs0 : (Lit.int .i64 a0).wf = true) (hs1 : (Lit.int .i64 a1).wf = true) :
    Calls Try.prog 5 #[.int .i64 a0, .int .i64 a1] w fun e w' => e = .returned (.bool true) ∧ Below w.heap.size w w' := by
  exact wFnExactCountMixed_main a0 a1 (cmOk a0 a1) (cmV a0 a1) (Lib.hid fun w => specCountMixed_ret a0 a1 w) (Lib.hid fun w => countMixed_ret a0 a1 w) w 
end Go.Proofs.Ytnmmgpmhpjjehaa
