/- FnExactCountTouching for every argument. -/
import Derived.Test.YtlgiamgjimffnaaLFnExactCountTouching
import Derived.Test.YtlgiamgjimffnaaTchI
namespace Go.Proofs.Ytlgiamgjimffnaa
open Go.RowKit
set_option linter.unusedVariables false
theorem wFnExactCountTouching (a0 : Int) (a1 : Int) (a2 : Int) (w : World) (hs0 : (Lit.int .i64 a0).wf = true) (hs1 : (Lit.int .i64 a1).wf = true) (hs2 : (Lit.int .i64 a2).wf = true) :
    Calls Try.prog 14 #[.int .i64 a0, .int .i64 a1, .int .i64 a2] w fun e w' => e = .returned (.bool true) ∧ Below w.heap.size w w' := by
  exact wFnExactCountTouching_main a0 a1 a2 (ctoOk a0 a1 a2) (ctoV a0 a1 a2) (Lib.hid fun w => specCountTouching_ret a0 a1 a2 w) (Lib.hid fun w => countTouchingI_ret a0 a1 a2 w) w 
end Go.Proofs.Ytlgiamgjimffnaa
