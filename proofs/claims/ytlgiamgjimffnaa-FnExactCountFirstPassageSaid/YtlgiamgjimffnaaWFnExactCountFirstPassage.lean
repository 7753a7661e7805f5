/- FnExactCountFirstPassage for every argument. -/
import Derived.Test.YtlgiamgjimffnaaLFnExactCountFirstPassage
import Derived.Test.YtlgiamgjimffnaaTchI
namespace Go.Proofs.Ytlgiamgjimffnaa
open Go.RowKit
set_option linter.unusedVariables false
theorem wFnExactCountFirstPassage (a0 : Int) (a1 : Int) (w : World) (hs0 : (Lit.int .i64 a0).wf = true) (hs1 : (Lit.int .i64 a1).wf = true) :
    Calls Try.prog 22 #[.int .i64 a0, .int .i64 a1] w fun e w' => e = .returned (.bool true) ∧ Below w.heap.size w w' := by
  exact wFnExactCountFirstPassage_main a0 a1 (fpOk a0 a1) (fpV a0 a1) (Lib.hid fun w => specCountFirstPassage_ret a0 a1 w) (Lib.hid fun w => firstPassageI_ret a0 a1 w) w 
end Go.Proofs.Ytlgiamgjimffnaa
