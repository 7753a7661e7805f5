/- Pack 35 of what FnBoldPlay needs: WFnBoldPlay. -/
import Derived.Test.YthgblfldncidnaaKFnBoldPlay34
/- FnBoldPlay for every argument. -/
namespace Go.Proofs.Ythgblfldncidnaa
open Go.RowKit
theorem wFnBoldPlay (a0 : Option Addr) (l0 c0 : Nat) (a1 : Option Addr) (l1 c1 : Nat) (w : World) (h0 : IsCode w a0 l0 c0) (h1 : IsCode w a1 l1 c1) :
    Calls Try.prog 3 #[.slice a0 l0 c0, .slice a1 l1 c1] w fun e w' => e = .returned (.bool true) ∧ Below w.heap.size w w' :=
  wBold (Lib.hid boldI_ret) (Lib.hid winI_ret) (Lib.hid fairI_ret) (Lib.hid meanGamesI_ret) a0 l0 c0 a1 l1 c1 w h0 h1
end Go.Proofs.Ythgblfldncidnaa
