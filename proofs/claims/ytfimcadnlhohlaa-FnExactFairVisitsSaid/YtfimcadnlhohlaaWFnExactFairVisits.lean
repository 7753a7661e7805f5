/- FnExactFairVisits for every argument. -/
import Derived.Test.YtfimcadnlhohlaaLFnExactFairVisits
import Derived.Test.YtfimcadnlhohlaaEvI
namespace Go.Proofs.Ytfimcadnlhohlaa
open Go.RowKit
set_option linter.unusedVariables false
theorem wFnExactFairVisits (a0 : Int) (a1 : Int) (a2 : Int) (w : World) (hs0 : (Lit.int .i64 a0).wf = true) (hs1 : (Lit.int .i64 a1).wf = true) (hs2 : (Lit.int .i64 a2).wf = true) :
    Calls Try.prog 14 #[.int .i64 a0, .int .i64 a1, .int .i64 a2] w fun e w' => e = .returned (.bool true) ∧ Below w.heap.size w w' := by
  exact wFnExactFairVisits_main a0 a1 a2 (fvOk a0 a1 a2) (fvP a0 a1 a2) (fvQ a0 a1 a2) (Lib.hid fun w => specFair_ret a0 a1 a2 w) (Lib.hid fun w => fairI_ret a0 a1 a2 w) w 
end Go.Proofs.Ytfimcadnlhohlaa
