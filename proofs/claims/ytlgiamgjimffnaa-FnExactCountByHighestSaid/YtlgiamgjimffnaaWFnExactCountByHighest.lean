/- FnExactCountByHighest for every argument. -/
import Derived.Test.YtlgiamgjimffnaaLFnExactCountByHighest
import Derived.Test.YtlgiamgjimffnaaCbhI
namespace Go.Proofs.Ytlgiamgjimffnaa
open Go.RowKit
set_option linter.unusedVariables false
theorem wFnExactCountByHighest (a0 : Int) (w : World) (hs0 : (Lit.int .i64 a0).wf = true) :
    Calls Try.prog 24 #[.int .i64 a0] w fun e w' => e = .returned (.bool true) ∧ Below w.heap.size w w' := by
  exact wFnExactCountByHighest_main a0 (chOk a0) (chV a0) (chV_len a0) (Lib.hid fun w => specCountByHighest_ret a0 w) (Lib.hid fun w => countByHighest_ret a0 w) w 
end Go.Proofs.Ytlgiamgjimffnaa
