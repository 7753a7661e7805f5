/- FnExactLastAt for every argument. -/
import Derived.Test.YtlgiamgjimffnaaLFnExactLastAt
import Derived.Test.YtlgiamgjimffnaaLastI
namespace Go.Proofs.Ytlgiamgjimffnaa
open Go.RowKit
set_option linter.unusedVariables false
theorem wFnExactLastAt (a0 : ByteArray) (a1 : Int) (w : World) (hs0 : a0.size ≤ maxLen) (hs1 : (Lit.int .i64 a1).wf = true) :
    Calls Try.prog 11 #[.string a0, .int .i64 a1] w fun e w' => e = .returned (.bool true) ∧ Below w.heap.size w w' := by
  by_cases hz : 1048576 < a0.size
  · exact wFnExactLastAt_big a0 a1 w hz
  · have hz0 : ¬ 1048576 < a0.size := by omega
    exact wFnExactLastAt_main a0 a1 (laOk a0 a1) (laV a0 a1) (Lib.hid fun w => specLastAt_ret a0 a1 w hs0) (Lib.hid fun w => lastAt_ret a0 a1 w hs0) w hz0
end Go.Proofs.Ytlgiamgjimffnaa
