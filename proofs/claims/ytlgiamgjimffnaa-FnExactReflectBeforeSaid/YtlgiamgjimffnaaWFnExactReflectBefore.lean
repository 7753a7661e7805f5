/- FnExactReflectBefore for every argument. -/
import Derived.Test.YtlgiamgjimffnaaLFnExactReflectBefore
import Derived.Test.YtlgiamgjimffnaaReflI
namespace Go.Proofs.Ytlgiamgjimffnaa
open Go.RowKit
set_option linter.unusedVariables false
theorem wFnExactReflectBefore (a0 : ByteArray) (a1 : Int) (w : World) (hs0 : a0.size ≤ maxLen) (hs1 : (Lit.int .i64 a1).wf = true) :
    Calls Try.prog 12 #[.string a0, .int .i64 a1] w fun e w' => e = .returned (.bool true) ∧ Below w.heap.size w w' := by
  by_cases hz : 1048576 < a0.size
  · exact wFnExactReflectBefore_big a0 a1 w hz
  · have hz0 : ¬ 1048576 < a0.size := by omega
    exact wFnExactReflectBefore_main a0 a1 (faOk a0 a1) (rbV a0 a1) (Lib.hid fun w => specReflectBefore_ret a0 a1 w hs0) (Lib.hid fun w => reflectBefore_ret a0 a1 w hs0) w hz0
end Go.Proofs.Ytlgiamgjimffnaa
