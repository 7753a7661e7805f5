/- FnExactIsNeverBehind for every argument. -/
import Derived.Test.YtlgiamgjimffnaaLFnExactIsNeverBehind
import Derived.Test.YtlgiamgjimffnaaAheadB
namespace Go.Proofs.Ytlgiamgjimffnaa
open Go.RowKit
set_option linter.unusedVariables false
theorem wFnExactIsNeverBehind (a0 : ByteArray) (a1 : Int) (w : World) (hs0 : a0.size ≤ maxLen) (hs1 : (Lit.int .i64 a1).wf = true) :
    Calls Try.prog 4 #[.string a0, .int .i64 a1] w fun e w' => e = .returned (.bool true) ∧ Below w.heap.size w w' := by
  by_cases hz : 1048576 < a0.size
  · exact wFnExactIsNeverBehind_big a0 a1 w hz
  · have hz0 : ¬ 1048576 < a0.size := by omega
    exact wFnExactIsNeverBehind_main a0 a1 (balOk a0 a1) (noneB a0 a1 0) (Lib.hid fun w => specIsNeverBehind_ret a0 a1 w hs0) (Lib.hid fun w => isNeverBehind_ret a0 a1 w hs0) w hz0
end Go.Proofs.Ytlgiamgjimffnaa
