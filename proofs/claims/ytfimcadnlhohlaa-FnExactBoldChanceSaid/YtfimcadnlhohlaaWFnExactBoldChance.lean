/- FnExactBoldChance for every argument. -/
import Derived.Test.YtfimcadnlhohlaaLFnExactBoldChance
import Derived.Test.YtfimcadnlhohlaaBoI
namespace Go.Proofs.Ytfimcadnlhohlaa
open Go.RowKit
set_option linter.unusedVariables false
theorem wFnExactBoldChance (a0 : Int) (a1 : Int) (n d : Int) (w : World) (hs0 : (Lit.int .i64 a0).wf = true) (hs1 : (Lit.int .i64 a1).wf = true) (hs2 : True) :
    Calls Try.prog 15 #[.int .i64 a0, .int .i64 a1, .agg #[.int .i64 n, .int .i64 d]] w fun e w' => e = .returned (.bool true) ∧ Below w.heap.size w w' :=
  wFnExactBoldChance_main a0 a1 n d (bcOk a0 a1 n d) (bcP a0 a1 n d) (bcQ a0 a1 n d) (Lib.hid fun w => specBold_ret a0 a1 n d w) (Lib.hid fun w => boldI_ret a0 a1 n d w) w
end Go.Proofs.Ytfimcadnlhohlaa
