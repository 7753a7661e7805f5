/- FnExactTouchText for every argument. -/
import Derived.Test.YtlgiamgjimffnaaLFnExactTouchText
import Derived.Test.YtlgiamgjimffnaaTxtI
namespace Go.Proofs.Ytlgiamgjimffnaa
open Go.RowKit
set_option linter.unusedVariables false
theorem wFnExactTouchText (a0 : ByteArray) (a1 : Int) (a2 : Int) (w : World) (hs0 : a0.size ≤ maxLen) (hs1 : (Lit.int .i64 a1).wf = true) (hs2 : (Lit.int .i64 a2).wf = true) :
    Calls Try.prog 21 #[.string a0, .int .i64 a1, .int .i64 a2] w fun e w' => e = .returned (.bool true) ∧ Below w.heap.size w w' := by
  by_cases hz : 1048576 < a0.size
  · exact wFnExactTouchText_big a0 a1 a2 w hz
  · have hz0 : ¬ 1048576 < a0.size := by omega
    exact wFnExactTouchText_main a0 a1 a2 (txOk a0 a1 a2) (txV a0 a1 a2) (Lib.hid fun w => specTouchText_ret a0 a1 a2 w hs0) (Lib.hid fun w => touchText_ret a0 a1 a2 w hs0) w hz0
end Go.Proofs.Ytlgiamgjimffnaa
