/- FnExactFirstBehind for every argument. -/
import Derived.Test.YtlgiamgjimffnaaLFnExactFirstBehind
import Derived.Test.YtlgiamgjimffnaaAheadB
namespace Go.Proofs.Ytlgiamgjimffnaa
open Go.RowKit
set_option linter.unusedVariables false
theorem wFnExactFirstBehind (a0 : ByteArray) (a1 : Int) (w : World) (hs0 : a0.size ≤ maxLen) (hs1 : (Lit.int .i64 a1).wf = true) :
    Calls Try.prog 6 #[.string a0, .int .i64 a1] w fun e w' => e = .returned (.bool true) ∧ Below w.heap.size w w' := by
  by_cases hz : 1048576 < a0.size
  · exact wFnExactFirstBehind_big a0 a1 w hz
  · have hz0 : ¬ 1048576 < a0.size := by omega
    exact wFnExactFirstBehind_main a0 a1 (firstB a0 a1 0) (firstV a0 a1 0) (Lib.hid fun w => specFirstBehind_ret a0 a1 w hs0) (Lib.hid fun w => firstBehind_ret a0 a1 w hs0) w hz0
end Go.Proofs.Ytlgiamgjimffnaa
