/- FnExactSwapTails for every argument. -/
import Derived.Test.YtahnknbggacndaaLFnExactSwapTails
import Derived.Test.YtahnknbggacndaaSwI
import Derived.Test.YtahnknbggacndaaSwS
namespace Go.Proofs.Ytahnknbggacndaa
open Go.RowKit
set_option linter.unusedVariables false
theorem wFnExactSwapTails (x y : Int) (s : ByteArray) (u v : Int) (t : ByteArray) (w : World) (hs0 : s.size ≤ maxLen) (hs1 : t.size ≤ maxLen) :
    Calls Try.prog 11 #[wayV x y s, wayV u v t] w fun e w' => e = .returned (.bool true) ∧ Below w.heap.size w w' :=
  wFnExactSwapTails_main x y s hs0 u v t hs1 (dmV x y s u v t) (stR x y s u v t).1.1 (stR x y s u v t).1.2.1 (stR x y s u v t).2.1 (stR x y s u v t).2.2.1 (stR x y s u v t).1.2.2 (stR x y s u v t).2.2.2 (Lib.hid fun w => specSwap_ret x y u v s t w hs0 hs1) (Lib.hid fun w => swapI_ret x y u v s t w hs0 hs1) w
end Go.Proofs.Ytahnknbggacndaa
