/- FnExactAllNeverBehind for every argument. -/
import Derived.Test.YtcnggafbdjhagaaLFnExactAllNeverBehind
import Derived.Test.YtcnggafbdjhagaaAllB
namespace Go.Proofs.Ytcnggafbdjhagaa
open Go.RowKit
set_option linter.unusedVariables false
theorem wFnExactAllNeverBehind (a0 : Int) (a1 : Int) (a2 : Int) (w : World) (hs0 : (Lit.int .i64 a0).wf = true) (hs1 : (Lit.int .i64 a1).wf = true) (hs2 : (Lit.int .i64 a2).wf = true) :
    Calls Try.prog 13 #[.int .i64 a0, .int .i64 a1, .int .i64 a2] w fun e w' => e = .returned (.bool true) ∧ Below w.heap.size w w' := by
  exact wFnExactAllNeverBehind_main a0 a1 a2 (alOk a0 a1 a2 0) (alV a0 a1 a2 0) (alV_len a0 a1 a2 0) (Lib.hid fun w => specAllNeverBehind_ret a0 a1 a2 w) (Lib.hid fun w => allNeverBehind_ret a0 a1 a2 w) w 
end Go.Proofs.Ytcnggafbdjhagaa
