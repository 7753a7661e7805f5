/- FnExactCountCubes for every argument. -/
import Derived.Test.YtahnknbggacndaaLFnExactCountCubes
import Derived.Test.YtahnknbggacndaaFcI
import Derived.Test.YtahnknbggacndaaFcS
namespace Go.Proofs.Ytahnknbggacndaa
open Go.RowKit
set_option linter.unusedVariables false
theorem wFnExactCountCubes (a0 : Int) (a1 : Int) (a2 : Int) (w : World) (hs0 : (Lit.int .i64 a0).wf = true) (hs1 : (Lit.int .i64 a1).wf = true) (hs2 : (Lit.int .i64 a2).wf = true) :
    Calls Try.prog 19 #[.int .i64 a0, .int .i64 a1, .int .i64 a2] w fun e w' => e = .returned (.bool true) ∧ Below w.heap.size w w' := by
  exact wFnExactCountCubes_main a0 a1 a2 (cubOk a0 a1 a2) (cubV a0 a1 a2) (Lib.hid fun w => specCountCubes_ret a0 a1 a2 w) (Lib.hid fun w => countCubesI_ret a0 a1 a2 w) w 
end Go.Proofs.Ytahnknbggacndaa
