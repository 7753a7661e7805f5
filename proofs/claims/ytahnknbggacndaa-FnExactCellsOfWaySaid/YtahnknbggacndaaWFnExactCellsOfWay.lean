/- FnExactCellsOfWay for every argument. -/
import Derived.Test.YtahnknbggacndaaLFnExactCellsOfWay
import Derived.Test.YtahnknbggacndaaEwI
import Derived.Test.YtahnknbggacndaaNcE
import Derived.Test.YtahnknbggacndaaMtS
namespace Go.Proofs.Ytahnknbggacndaa
open Go.RowKit
set_option linter.unusedVariables false
theorem wFnExactCellsOfWay (x y : Int) (s : ByteArray) (w : World) (hs0 : s.size ≤ maxLen) :
    Calls Try.prog 5 #[wayV x y s] w fun e w' => e = .returned (.bool true) ∧ Below w.heap.size w w' :=
  wFnExactCellsOfWay_main x y s hs0 (wayB x y s) (ncN x y s) (ncX x y s) (ncN_le x y s) (Lib.hid fun w => specCells_ret x y s w hs0) (Lib.hid fun w => cellsI_ret x y s w hs0) w
end Go.Proofs.Ytahnknbggacndaa
