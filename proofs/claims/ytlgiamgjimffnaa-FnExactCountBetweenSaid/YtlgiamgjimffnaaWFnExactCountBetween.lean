/- FnExactCountBetween for every argument. -/
import Derived.Test.YtlgiamgjimffnaaLFnExactCountBetween
import Derived.Test.YtlgiamgjimffnaaBtwI
namespace Go.Proofs.Ytlgiamgjimffnaa
open Go.RowKit
set_option linter.unusedVariables false
theorem wFnExactCountBetween (a0 : Int) (a1 : Int) (a2 : Int) (a3 : Int) (w : World) (hs0 : (Lit.int .i64 a0).wf = true) (hs1 : (Lit.int .i64 a1).wf = true) (hs2 : (Lit.int .i64 a2).wf = true) (hs3 : (Lit.int .i64 a3).wf = true) :
    Calls Try.prog 18 #[.int .i64 a0, .int .i64 a1, .int .i64 a2, .int .i64 a3] w fun e w' => e = .returned (.bool true) ∧ Below w.heap.size w w' := by
  exact wFnExactCountBetween_main a0 a1 a2 a3 (cbOk a0 a1 a2 a3) (cbV a0 a1 a2 a3) (Lib.hid fun w => specCountBetween_ret a0 a1 a2 a3 w) (Lib.hid fun w => countBetweenI_ret a0 a1 a2 a3 w) w 
end Go.Proofs.Ytlgiamgjimffnaa
