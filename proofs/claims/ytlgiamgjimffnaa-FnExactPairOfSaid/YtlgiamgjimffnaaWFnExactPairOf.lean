/- FnExactPairOf for every argument. -/
import Derived.Test.YtlgiamgjimffnaaLFnExactPairOf
import Derived.Test.YtlgiamgjimffnaaReflI
namespace Go.Proofs.Ytlgiamgjimffnaa
open Go.RowKit
set_option linter.unusedVariables false
theorem wFnExactPairOf (a0 : ByteArray) (w : World) (hs0 : a0.size ≤ maxLen) :
    Calls Try.prog 23 #[.string a0] w fun e w' => e = .returned (.bool true) ∧ Below w.heap.size w w' := by
  by_cases hz : 1048576 < a0.size
  · exact wFnExactPairOf_big a0 w hz
  · have hz0 : ¬ 1048576 < a0.size := by omega
    exact wFnExactPairOf_main a0 (prOk a0) (prV a0) (Lib.hid fun w => specPairOf_ret a0 w hs0) (Lib.hid fun w => pairOfI_ret a0 w hs0) w hz0
end Go.Proofs.Ytlgiamgjimffnaa
