/- FnExactHeldAfter for every argument. -/
import Derived.Test.YtfimcadnlhohlaaLFnExactHeldAfter
import Derived.Test.YtfimcadnlhohlaaHaI
import Derived.Test.YtfimcadnlhohlaaHaS
namespace Go.Proofs.Ytfimcadnlhohlaa
open Go.RowKit
set_option linter.unusedVariables false
theorem wFnExactHeldAfter (a0 : Int) (a1 : Int) (n d : Int) (a3 : Int) (w : World) (hs0 : (Lit.int .i64 a0).wf = true) (hs1 : (Lit.int .i64 a1).wf = true) (hs2 : True) (hs3 : (Lit.int .i64 a3).wf = true) :
    Calls Try.prog 12 #[.int .i64 a0, .int .i64 a1, .agg #[.int .i64 n, .int .i64 d], .int .i64 a3] w fun e w' => e = .returned (.bool true) ∧ Below w.heap.size w w' :=
  wFnExactHeldAfter_main a0 a1 n d a3 (timB a0 a1 n d a3) (haN a0 a1 n d a3) (haX a0 a1 n d a3) (haN_le a0 a1 n d a3) (Lib.hid fun w => specHeld_ret a0 a1 n d a3 w) (Lib.hid fun w => heldI_ret a0 a1 n d a3 w) w
end Go.Proofs.Ytfimcadnlhohlaa
