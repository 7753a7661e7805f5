/- FnExactCountColors for every argument. -/
import Derived.Test.YtnmmgpmhpjjehaaLFnExactCountColors
import Derived.Test.YtnmmgpmhpjjehaaKmI
namespace Go.Proofs.Ytnmmgpmhpjjehaa
open Go.RowKit
set_option linter.unusedVariables false
theorem wFnExactCountColors (a0 : Int) (a1 : Int) (a2 : Int) (a3 : Int) (w : World) (hs0 : (Lit.int .i64 a0).wf = true) (hs1 : (Lit.int .i64 a1).wf = true) (hs2 : (Lit.int .i64 a2).wf = true) (hs3 : (Lit.int .i64 a3).wf = true) :
    Calls Try.prog 8 #[.int .i64 a0, .int .i64 a1, .int .i64 a2, .int .i64 a3] w fun e w' => e = .returned (.bool true) ∧ Below w.heap.size w w' := by
  exact wFnExactCountColors_main a0 a1 a2 a3 (ccOk a0 a1 a2 a3) (ccV a0 a1 a2 a3) (Lib.hid fun w => specCountColors_ret a0 a1 a2 a3 w) (Lib.hid fun w => countColors_ret a0 a1 a2 a3 w) w 
end Go.Proofs.Ytnmmgpmhpjjehaa
