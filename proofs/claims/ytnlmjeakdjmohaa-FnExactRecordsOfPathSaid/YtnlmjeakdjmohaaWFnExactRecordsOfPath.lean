/- FnExactRecordsOfPath for every argument. -/
import Derived.Test.YtnlmjeakdjmohaaLFnExactRecordsOfPath
import Derived.Test.YtnlmjeakdjmohaaRecI
namespace Go.Proofs.Ytnlmjeakdjmohaa
open Go.RowKit
set_option linter.unusedVariables false
theorem wFnExactRecordsOfPath (a0 : ByteArray) (w : World) (hs0 : a0.size ≤ maxLen) :
    Calls Try.prog 13 #[.string a0] w fun e w' => e = .returned (.bool true) ∧ Below w.heap.size w w' := by
  by_cases hz : 1048576 < a0.size
  · exact wFnExactRecordsOfPath_big a0 w hz
  · have hz0 : ¬ 1048576 < a0.size := by omega
    exact wFnExactRecordsOfPath_main a0 (pathB a0) (recV a0) (recV_len a0 hz0) (Lib.hid fun w => specRecords_ret a0 w hs0) (Lib.hid fun w => records_ret a0 w hs0) w hz0
end Go.Proofs.Ytnlmjeakdjmohaa
