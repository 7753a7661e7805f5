/- FnExactCompareChances for every argument. -/
import Derived.Test.YtfimcadnlhohlaaLFnExactCompareChances
import Derived.Test.YtfimcadnlhohlaaCpI
import Derived.Test.YtfimcadnlhohlaaCmpS
namespace Go.Proofs.Ytfimcadnlhohlaa
open Go.RowKit
set_option linter.unusedVariables false
theorem wFnExactCompareChances (n d m e : Int) (w : World) (hs0 : True) (hs1 : True) :
    Calls Try.prog 17 #[.agg #[.int .i64 n, .int .i64 d], .agg #[.int .i64 m, .int .i64 e]] w fun e w' => e = .returned (.bool true) ∧ Below w.heap.size w w' :=
  wFnExactCompareChances_main n d m e (ccmOk n d m e) (ccmV n d m e) (Lib.hid fun w => specCompare_ret n d m e w) (Lib.hid fun w => compareI_ret n d m e w) w
end Go.Proofs.Ytfimcadnlhohlaa
