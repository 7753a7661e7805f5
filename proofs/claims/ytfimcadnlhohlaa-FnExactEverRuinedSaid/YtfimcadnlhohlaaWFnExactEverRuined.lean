/- FnExactEverRuined for every argument. -/
import Derived.Test.YtfimcadnlhohlaaLFnExactEverRuined
import Derived.Test.YtfimcadnlhohlaaEvI
namespace Go.Proofs.Ytfimcadnlhohlaa
open Go.RowKit
set_option linter.unusedVariables false
theorem wFnExactEverRuined (a0 : Int) (n d : Int) (w : World) (hs0 : (Lit.int .i64 a0).wf = true) (hs1 : True) :
    Calls Try.prog 8 #[.int .i64 a0, .agg #[.int .i64 n, .int .i64 d]] w fun e w' => e = .returned (.bool true) ∧ Below w.heap.size w w' :=
  wFnExactEverRuined_main a0 n d (erOk a0 n d) (erP a0 n d) (erQ a0 n d) (Lib.hid fun w => specEver_ret a0 n d w) (Lib.hid fun w => everI_ret a0 n d w) w
end Go.Proofs.Ytfimcadnlhohlaa
