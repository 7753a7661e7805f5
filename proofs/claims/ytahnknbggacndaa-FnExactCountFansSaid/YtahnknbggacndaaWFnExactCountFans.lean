/- FnExactCountFans for every argument. -/
import Derived.Test.YtahnknbggacndaaLFnExactCountFans
import Derived.Test.YtahnknbggacndaaFcI
import Derived.Test.YtahnknbggacndaaFcS
namespace Go.Proofs.Ytahnknbggacndaa
open Go.RowKit
set_option linter.unusedVariables false
theorem wFnExactCountFans (a0 : Int) (a1 : Int) (w : World) (hs0 : (Lit.int .i64 a0).wf = true) (hs1 : (Lit.int .i64 a1).wf = true) :
    Calls Try.prog 18 #[.int .i64 a0, .int .i64 a1] w fun e w' => e = .returned (.bool true) ∧ Below w.heap.size w w' := by
  exact wFnExactCountFans_main a0 a1 (fanOk a0 a1) (fanV a0 a1) (Lib.hid fun w => specCountFans_ret a0 a1 w) (Lib.hid fun w => countFansI_ret a0 a1 w) w 
end Go.Proofs.Ytahnknbggacndaa
