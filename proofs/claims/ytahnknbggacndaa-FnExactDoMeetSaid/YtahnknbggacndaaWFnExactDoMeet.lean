/- FnExactDoMeet for every argument. -/
import Derived.Test.YtahnknbggacndaaLFnExactDoMeet
import Derived.Test.YtahnknbggacndaaDmI
import Derived.Test.YtahnknbggacndaaDmS
namespace Go.Proofs.Ytahnknbggacndaa
open Go.RowKit
set_option linter.unusedVariables false
theorem wFnExactDoMeet (x y : Int) (s : ByteArray) (u v : Int) (t : ByteArray) (w : World) (hs0 : s.size ≤ maxLen) (hs1 : t.size ≤ maxLen) :
    Calls Try.prog 9 #[wayV x y s, wayV u v t] w fun e w' => e = .returned (.bool true) ∧ Below w.heap.size w w' :=
  wFnExactDoMeet_main x y s hs0 u v t hs1 (dmOk x y s u v t) (dmV x y s u v t) (Lib.hid fun w => specDoMeet_ret x y u v s t w hs0 hs1) (Lib.hid fun w => doMeetI_ret x y u v s t w hs0 hs1) w
end Go.Proofs.Ytahnknbggacndaa
