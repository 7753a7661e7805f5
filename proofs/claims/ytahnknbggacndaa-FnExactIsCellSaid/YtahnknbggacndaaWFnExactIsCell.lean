/- FnExactIsCell for every argument. -/
import Derived.Test.YtahnknbggacndaaLFnExactIsCell
import Derived.Test.YtahnknbggacndaaPlI
import Derived.Test.YtahnknbggacndaaNcE
namespace Go.Proofs.Ytahnknbggacndaa
open Go.RowKit
set_option linter.unusedVariables false
theorem wFnExactIsCell (n d : Int) (w : World) (hs0 : True) :
    Calls Try.prog 3 #[.agg #[.int .i64 n, .int .i64 d]] w fun e w' => e = .returned (.bool true) ∧ Below w.heap.size w w' :=
  wFnExactIsCell_main n d (cellB n d) (Lib.hid fun w => specIsCell_ret n d w) (Lib.hid fun w => isCellI_ret n d w) w
end Go.Proofs.Ytahnknbggacndaa
