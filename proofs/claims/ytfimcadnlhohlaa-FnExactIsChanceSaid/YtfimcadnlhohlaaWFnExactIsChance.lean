/- FnExactIsChance for every argument. -/
import Derived.Test.YtfimcadnlhohlaaLFnExactIsChance
import Derived.Test.YtfimcadnlhohlaaPlayI
import Derived.Test.YtfimcadnlhohlaaCmpS
namespace Go.Proofs.Ytfimcadnlhohlaa
open Go.RowKit
set_option linter.unusedVariables false
theorem wFnExactIsChance (n d : Int) (w : World) (hs0 : True) :
    Calls Try.prog 3 #[.agg #[.int .i64 n, .int .i64 d]] w fun e w' => e = .returned (.bool true) ∧ Below w.heap.size w w' :=
  wFnExactIsChance_main n d (ruB n d) (Lib.hid fun w => specIsChance_ret n d w) (Lib.hid fun w => isChanceI_ret n d w) w
end Go.Proofs.Ytfimcadnlhohlaa
