/- FnExactAllAhead for every argument. -/
import Derived.Test.YtcnggafbdjhagaaLFnExactAllAhead
import Derived.Test.YtcnggafbdjhagaaAllB
namespace Go.Proofs.Ytcnggafbdjhagaa
open Go.RowKit
set_option linter.unusedVariables false
theorem wFnExactAllAhead (a0 : Int) (a1 : Int) (a2 : Int) (w : World) (hs0 : (Lit.int .i64 a0).wf = true) (hs1 : (Lit.int .i64 a1).wf = true) (hs2 : (Lit.int .i64 a2).wf = true) :
    Calls Try.prog 12 #[.int .i64 a0, .int .i64 a1, .int .i64 a2] w fun e w' => e = .returned (.bool true) ∧ Below w.heap.size w w' := by
  exact wFnExactAllAhead_main a0 a1 a2 (alOk a0 a1 a2 1) (alV a0 a1 a2 1) (alV_len a0 a1 a2 1) (Lib.hid fun w => specAllAhead_ret a0 a1 a2 w) (Lib.hid fun w => allAhead_ret a0 a1 a2 w) w 
end Go.Proofs.Ytcnggafbdjhagaa
