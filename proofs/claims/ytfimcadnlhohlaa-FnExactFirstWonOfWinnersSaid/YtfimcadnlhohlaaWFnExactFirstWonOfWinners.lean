/- FnExactFirstWonOfWinners for every argument. -/
import Derived.Test.YtfimcadnlhohlaaLFnExactFirstWonOfWinners
import Derived.Test.YtfimcadnlhohlaaFwI
import Derived.Test.YtfimcadnlhohlaaFwS
namespace Go.Proofs.Ytfimcadnlhohlaa
open Go.RowKit
set_option linter.unusedVariables false
theorem wFnExactFirstWonOfWinners (a0 : Int) (a1 : Int) (n d : Int) (w : World) (hs0 : (Lit.int .i64 a0).wf = true) (hs1 : (Lit.int .i64 a1).wf = true) (hs2 : True) :
    Calls Try.prog 13 #[.int .i64 a0, .int .i64 a1, .agg #[.int .i64 n, .int .i64 d]] w fun e w' => e = .returned (.bool true) ∧ Below w.heap.size w w' :=
  wFnExactFirstWonOfWinners_main a0 a1 n d (fwOk a0 a1 n d) (fwP a0 a1 n d) (fwQ a0 a1 n d) (Lib.hid fun w => specFirst_ret a0 a1 n d w) (Lib.hid fun w => firstI_ret a0 a1 n d w) w
end Go.Proofs.Ytfimcadnlhohlaa
