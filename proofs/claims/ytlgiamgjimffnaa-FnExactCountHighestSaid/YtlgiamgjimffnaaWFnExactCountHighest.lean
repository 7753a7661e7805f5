/- FnExactCountHighest for every argument. -/
import Derived.Test.YtlgiamgjimffnaaLFnExactCountHighest
import Derived.Test.YtlgiamgjimffnaaTchI
namespace Go.Proofs.Ytlgiamgjimffnaa
open Go.RowKit
set_option linter.unusedVariables false
theorem wFnExactCountHighest (a0 : Int) (a1 : Int) (a2 : Int) (w : World) (hs0 : (Lit.int .i64 a0).wf = true) (hs1 : (Lit.int .i64 a1).wf = true) (hs2 : (Lit.int .i64 a2).wf = true) :
    Calls Try.prog 16 #[.int .i64 a0, .int .i64 a1, .int .i64 a2] w fun e w' => e = .returned (.bool true) ∧ Below w.heap.size w w' := by
  exact wFnExactCountHighest_main a0 a1 a2 (chiOk a0 a1 a2) (chiV a0 a1 a2) (Lib.hid fun w => specCountHighest_ret a0 a1 a2 w) (Lib.hid fun w => countHighestI_ret a0 a1 a2 w) w 
end Go.Proofs.Ytlgiamgjimffnaa
