/- FnExactIsAhead for every argument. -/
import Derived.Test.YtlgiamgjimffnaaLFnExactIsAhead
import Derived.Test.YtlgiamgjimffnaaAheadB
namespace Go.Proofs.Ytlgiamgjimffnaa
open Go.RowKit
set_option linter.unusedVariables false
theorem wFnExactIsAhead (a0 : ByteArray) (a1 : Int) (w : World) (hs0 : a0.size ≤ maxLen) (hs1 : (Lit.int .i64 a1).wf = true) :
    Calls Try.prog 3 #[.string a0, .int .i64 a1] w fun e w' => e = .returned (.bool true) ∧ Below w.heap.size w w' := by
  by_cases hz : 1048576 < a0.size
  · exact wFnExactIsAhead_big a0 a1 w hz
  · have hz0 : ¬ 1048576 < a0.size := by omega
    exact wFnExactIsAhead_main a0 a1 (balOk a0 a1) (noneB a0 a1 1) (Lib.hid fun w => specIsAhead_ret a0 a1 w hs0) (Lib.hid fun w => isAhead_ret a0 a1 w hs0) w hz0
end Go.Proofs.Ytlgiamgjimffnaa
