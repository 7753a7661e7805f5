/- FnExactCountAbove for every argument. -/
import Derived.Test.YtlgiamgjimffnaaLFnExactCountAbove
import Derived.Test.YtlgiamgjimffnaaTchI
namespace Go.Proofs.Ytlgiamgjimffnaa
open Go.RowKit
set_option linter.unusedVariables false
theorem wFnExactCountAbove (a0 : Int) (a1 : Int) (a2 : Int) (w : World) (hs0 : (Lit.int .i64 a0).wf = true) (hs1 : (Lit.int .i64 a1).wf = true) (hs2 : (Lit.int .i64 a2).wf = true) :
    Calls Try.prog 15 #[.int .i64 a0, .int .i64 a1, .int .i64 a2] w fun e w' => e = .returned (.bool true) ∧ Below w.heap.size w w' := by
  exact wFnExactCountAbove_main a0 a1 a2 (cabOk a0 a1 a2) (cabV a0 a1 a2) (Lib.hid fun w => specCountAbove_ret a0 a1 a2 w) (Lib.hid fun w => countAboveI_ret a0 a1 a2 w) w 
end Go.Proofs.Ytlgiamgjimffnaa
