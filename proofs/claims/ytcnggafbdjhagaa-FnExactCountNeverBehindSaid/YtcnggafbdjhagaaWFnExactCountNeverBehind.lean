/- FnExactCountNeverBehind for every argument. -/
import Derived.Test.YtcnggafbdjhagaaLFnExactCountNeverBehind
import Derived.Test.YtcnggafbdjhagaaBalCount
namespace Go.Proofs.Ytcnggafbdjhagaa
open Go.RowKit
set_option linter.unusedVariables false
theorem wFnExactCountNeverBehind (a0 : Int) (a1 : Int) (a2 : Int) (w : World) (hs0 : (Lit.int .i64 a0).wf = true) (hs1 : (Lit.int .i64 a1).wf = true) (hs2 : (Lit.int .i64 a2).wf = true) :
    Calls Try.prog 9 #[.int .i64 a0, .int .i64 a1, .int .i64 a2] w fun e w' => e = .returned (.bool true) ∧ Below w.heap.size w w' := by
  exact wFnExactCountNeverBehind_main a0 a1 a2 (allOk a0 a1 a2) (neverV a0 a1 a2) (Lib.hid fun w => specCountNever_ret a0 a1 a2 w) (Lib.hid fun w => countNever_ret a0 a1 a2 w) w 
end Go.Proofs.Ytcnggafbdjhagaa
