/- FnExactEndOfWay for every argument. -/
import Derived.Test.YtahnknbggacndaaLFnExactEndOfWay
import Derived.Test.YtahnknbggacndaaEwI
import Derived.Test.YtahnknbggacndaaNcE
namespace Go.Proofs.Ytahnknbggacndaa
open Go.RowKit
set_option linter.unusedVariables false
theorem wFnExactEndOfWay (x y : Int) (s : ByteArray) (w : World) (hs0 : s.size ≤ maxLen) :
    Calls Try.prog 6 #[wayV x y s] w fun e w' => e = .returned (.bool true) ∧ Below w.heap.size w w' :=
  wFnExactEndOfWay_main x y s hs0 (wayB x y s) (ewX x y s) (ewY x y s) (Lib.hid fun w => specEndW_ret x y s w hs0) (Lib.hid fun w => endWI_ret x y s w hs0) w
end Go.Proofs.Ytahnknbggacndaa
