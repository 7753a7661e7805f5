/- FnExactCountWithTies for every argument. -/
import Derived.Test.YtcnggafbdjhagaaLFnExactCountWithTies
import Derived.Test.YtcnggafbdjhagaaCwt
namespace Go.Proofs.Ytcnggafbdjhagaa
open Go.RowKit
set_option linter.unusedVariables false
theorem wFnExactCountWithTies (a0 : Int) (a1 : Int) (w : World) (hs0 : (Lit.int .i64 a0).wf = true) (hs1 : (Lit.int .i64 a1).wf = true) :
    Calls Try.prog 16 #[.int .i64 a0, .int .i64 a1] w fun e w' => e = .returned (.bool true) ∧ Below w.heap.size w w' := by
  exact wFnExactCountWithTies_main a0 a1 (cwOk a0 a1) (cwV a0 a1) (Lib.hid fun w => specCwt_ret a0 a1 w) (Lib.hid fun w => cwt_ret a0 a1 w) w 
end Go.Proofs.Ytcnggafbdjhagaa
