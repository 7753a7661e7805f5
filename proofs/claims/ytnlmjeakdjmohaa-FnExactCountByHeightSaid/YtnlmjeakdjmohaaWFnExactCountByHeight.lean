/- FnExactCountByHeight for every argument. -/
import Derived.Test.YtnlmjeakdjmohaaLFnExactCountByHeight
import Derived.Test.YtnlmjeakdjmohaaHgI
import Derived.Test.YtnlmjeakdjmohaaHgS
namespace Go.Proofs.Ytnlmjeakdjmohaa
open Go.RowKit
set_option linter.unusedVariables false
theorem wFnExactCountByHeight (a0 : Int) (w : World) (hs0 : (Lit.int .i64 a0).wf = true) :
    Calls Try.prog 6 #[.int .i64 a0] w fun e w' => e = .returned (.bool true) ∧ Below w.heap.size w w' := by
  exact wFnExactCountByHeight_main a0 (prB a0) (prL hgF a0) (prL_len hgF a0) (Lib.hid fun w => specByHeight_ret a0 w) (Lib.hid fun w => byHeightI_ret a0 w) w 
end Go.Proofs.Ytnlmjeakdjmohaa
