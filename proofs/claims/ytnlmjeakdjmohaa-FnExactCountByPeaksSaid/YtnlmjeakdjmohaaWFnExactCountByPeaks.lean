/- FnExactCountByPeaks for every argument. -/
import Derived.Test.YtnlmjeakdjmohaaLFnExactCountByPeaks
import Derived.Test.YtnlmjeakdjmohaaPkB
namespace Go.Proofs.Ytnlmjeakdjmohaa
open Go.RowKit
set_option linter.unusedVariables false
theorem wFnExactCountByPeaks (a0 : Int) (w : World) (hs0 : (Lit.int .i64 a0).wf = true) :
    Calls Try.prog 5 #[.int .i64 a0] w fun e w' => e = .returned (.bool true) ∧ Below w.heap.size w w' := by
  exact wFnExactCountByPeaks_main a0 (prB a0) (prL pkF a0) (prL_len pkF a0) (Lib.hid fun w => specByPeaks_ret a0 w) (Lib.hid fun w => byPeaksI_ret a0 w) w 
end Go.Proofs.Ytnlmjeakdjmohaa
