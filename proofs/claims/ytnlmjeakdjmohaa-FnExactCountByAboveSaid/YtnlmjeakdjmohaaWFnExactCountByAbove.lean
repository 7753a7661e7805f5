/- FnExactCountByAbove for every argument. -/
import Derived.Test.YtnlmjeakdjmohaaLFnExactCountByAbove
import Derived.Test.YtnlmjeakdjmohaaAbB
namespace Go.Proofs.Ytnlmjeakdjmohaa
open Go.RowKit
set_option linter.unusedVariables false
theorem wFnExactCountByAbove (a0 : Int) (w : World) (hs0 : (Lit.int .i64 a0).wf = true) :
    Calls Try.prog 16 #[.int .i64 a0] w fun e w' => e = .returned (.bool true) ∧ Below w.heap.size w w' := by
  exact wFnExactCountByAbove_main a0 (prB a0) (prL abF a0) (prL_len abF a0) (Lib.hid fun w => specByAbove_ret a0 w) (Lib.hid fun w => byAboveI_ret a0 w) w 
end Go.Proofs.Ytnlmjeakdjmohaa
