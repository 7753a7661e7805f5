/- FnExactCountApart for every argument. -/
import Derived.Test.YtahnknbggacndaaLFnExactCountApart
import Derived.Test.YtahnknbggacndaaLdI
import Derived.Test.YtahnknbggacndaaAskS
import Derived.Test.YtahnknbggacndaaRcIn
namespace Go.Proofs.Ytahnknbggacndaa
open Go.RowKit
set_option linter.unusedVariables false
theorem wFnExactCountApart (v1 : Value) (n : Nat) (xs : List Int) (v2 : Value) (m : Nat) (ys : List Int) (w : World) (h1 : RCels w v1 n xs) (h2 : RCels w v2 m ys) :
    Calls Try.prog 15 #[v1, v2] w fun e w' => e = .returned (.bool true) ∧ Below w.heap.size w w' :=
  wFnExactCountApart_main v1 n xs v2 m ys w h1 h2 fun hn hm left2 hl2 left hl HZ1 HZ2 =>
    wFnExactCountApart_core v1 n xs v2 m ys (askC n xs m ys) (cpV n xs m ys)
      (Lib.hid fun u1 u2 w a b => specCountApart_ret u1 u2 n m xs ys w a b hn hm) (Lib.hid fun u1 u2 w a b => countApartI_ret u1 u2 n m xs ys w a b hn hm) left2 hl2 left hl w h1 h2 hn hm HZ1 HZ2
end Go.Proofs.Ytahnknbggacndaa
