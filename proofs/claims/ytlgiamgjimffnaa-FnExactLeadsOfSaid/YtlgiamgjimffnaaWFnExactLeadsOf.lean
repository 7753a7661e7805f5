/- FnExactLeadsOf for every argument. -/
import Derived.Test.YtlgiamgjimffnaaLFnExactLeadsOf
import Derived.Test.YtlgiamgjimffnaaLeadsOf
namespace Go.Proofs.Ytlgiamgjimffnaa
open Go.RowKit
set_option linter.unusedVariables false
theorem wFnExactLeadsOf (a0 : ByteArray) (w : World) (hs0 : a0.size ≤ maxLen) :
    Calls Try.prog 9 #[.string a0] w fun e w' => e = .returned (.bool true) ∧ Below w.heap.size w w' := by
  by_cases hz : 1048576 < a0.size
  · exact wFnExactLeadsOf_big a0 w hz
  · have hz0 : ¬ 1048576 < a0.size := by omega
    exact wFnExactLeadsOf_main a0 (pathB a0) (aboveV a0) (belowV a0) (Lib.hid fun w => specLeadsOf_ret a0 w hs0) (Lib.hid fun w => leadsOf_ret a0 w hs0) w hz0
end Go.Proofs.Ytlgiamgjimffnaa
