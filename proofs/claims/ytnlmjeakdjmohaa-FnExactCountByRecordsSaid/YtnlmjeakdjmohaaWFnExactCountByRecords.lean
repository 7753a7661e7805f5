/- FnExactCountByRecords for every argument. -/
import Derived.Test.YtnlmjeakdjmohaaLFnExactCountByRecords
import Derived.Test.YtnlmjeakdjmohaaRrI
import Derived.Test.YtnlmjeakdjmohaaRrS
namespace Go.Proofs.Ytnlmjeakdjmohaa
open Go.RowKit
set_option linter.unusedVariables false
theorem wFnExactCountByRecords (a0 : Int) (w : World) (hs0 : (Lit.int .i64 a0).wf = true) :
    Calls Try.prog 14 #[.int .i64 a0] w fun e w' => e = .returned (.bool true) ∧ Below w.heap.size w w' := by
  exact wFnExactCountByRecords_main a0 (prB a0) (prL rrF a0) (prL_len rrF a0) (Lib.hid fun w => specByRecords_ret a0 w) (Lib.hid fun w => byRecordsI_ret a0 w) w 
end Go.Proofs.Ytnlmjeakdjmohaa
