/- FnExactCountWays for every argument. -/
import Derived.Test.YtahnknbggacndaaLFnExactCountWays
import Derived.Test.YtahnknbggacndaaCwyI
import Derived.Test.YtahnknbggacndaaNcN
namespace Go.Proofs.Ytahnknbggacndaa
open Go.RowKit
set_option linter.unusedVariables false
theorem wFnExactCountWays (n d m e : Int) (w : World) (hs0 : True) (hs1 : True) :
    Calls Try.prog 7 #[.agg #[.int .i64 n, .int .i64 d], .agg #[.int .i64 m, .int .i64 e]] w fun e w' => e = .returned (.bool true) ∧ Below w.heap.size w w' :=
  wFnExactCountWays_main n d m e (cyOk n d m e) (cyV n d m e) (Lib.hid fun w => specCountWays_ret n d m e w) (Lib.hid fun w => countWaysI_ret n d m e w) w
end Go.Proofs.Ytahnknbggacndaa
