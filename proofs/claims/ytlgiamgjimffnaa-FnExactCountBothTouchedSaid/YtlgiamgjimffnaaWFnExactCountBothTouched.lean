/- FnExactCountBothTouched for every argument. -/
import Derived.Test.YtlgiamgjimffnaaLFnExactCountBothTouched
import Derived.Test.YtlgiamgjimffnaaBtwI
namespace Go.Proofs.Ytlgiamgjimffnaa
open Go.RowKit
set_option linter.unusedVariables false
theorem wFnExactCountBothTouched (a0 : Int) (a1 : Int) (a2 : Int) (a3 : Int) (w : World) (hs0 : (Lit.int .i64 a0).wf = true) (hs1 : (Lit.int .i64 a1).wf = true) (hs2 : (Lit.int .i64 a2).wf = true) (hs3 : (Lit.int .i64 a3).wf = true) :
    Calls Try.prog 20 #[.int .i64 a0, .int .i64 a1, .int .i64 a2, .int .i64 a3] w fun e w' => e = .returned (.bool true) ∧ Below w.heap.size w w' := by
  exact wFnExactCountBothTouched_main a0 a1 a2 a3 (cbOk a0 a1 a2 a3) (btoV a0 a1 a2 a3) (Lib.hid fun w => specCountBothTouched_ret a0 a1 a2 a3 w) (Lib.hid fun w => bothTouchedI_ret a0 a1 a2 a3 w) w 
end Go.Proofs.Ytlgiamgjimffnaa
