/- FnExactCountAhead for every argument. -/
import Derived.Test.YtcnggafbdjhagaaLFnExactCountAhead
import Derived.Test.YtcnggafbdjhagaaBalCount
namespace Go.Proofs.Ytcnggafbdjhagaa
open Go.RowKit
set_option linter.unusedVariables false
theorem wFnExactCountAhead (a0 : Int) (a1 : Int) (a2 : Int) (w : World) (hs0 : (Lit.int .i64 a0).wf = true) (hs1 : (Lit.int .i64 a1).wf = true) (hs2 : (Lit.int .i64 a2).wf = true) :
    Calls Try.prog 8 #[.int .i64 a0, .int .i64 a1, .int .i64 a2] w fun e w' => e = .returned (.bool true) ∧ Below w.heap.size w w' := by
  exact wFnExactCountAhead_main a0 a1 a2 (allOk a0 a1 a2) (aheadV a0 a1 a2) (Lib.hid fun w => specCountAhead_ret a0 a1 a2 w) (Lib.hid fun w => countAhead_ret a0 a1 a2 w) w 
end Go.Proofs.Ytcnggafbdjhagaa
