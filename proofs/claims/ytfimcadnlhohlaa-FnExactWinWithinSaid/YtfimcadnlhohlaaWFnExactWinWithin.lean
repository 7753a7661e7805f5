/- FnExactWinWithin for every argument. -/
import Derived.Test.YtfimcadnlhohlaaLFnExactWinWithin
import Derived.Test.YtfimcadnlhohlaaChaI
import Derived.Test.YtfimcadnlhohlaaWwS
namespace Go.Proofs.Ytfimcadnlhohlaa
open Go.RowKit
set_option linter.unusedVariables false
theorem wFnExactWinWithin (a0 : Int) (a1 : Int) (n d : Int) (a3 : Int) (w : World) (hs0 : (Lit.int .i64 a0).wf = true) (hs1 : (Lit.int .i64 a1).wf = true) (hs2 : True) (hs3 : (Lit.int .i64 a3).wf = true) :
    Calls Try.prog 9 #[.int .i64 a0, .int .i64 a1, .agg #[.int .i64 n, .int .i64 d], .int .i64 a3] w fun e w' => e = .returned (.bool true) ∧ Below w.heap.size w w' :=
  wFnExactWinWithin_main a0 a1 n d a3 (timB a0 a1 n d a3) (wwP a0 a1 n d a3) (wwQ a0 a1 n d a3) (Lib.hid fun w => specWinWithin_ret a0 a1 n d a3 w) (Lib.hid fun w => winWithinI_ret a0 a1 n d a3 w) w
end Go.Proofs.Ytfimcadnlhohlaa
