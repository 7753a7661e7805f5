/- FnGridsCounted for every argument. -/
import Derived.Test.YtnmmgpmhpjjehaaGridL
import Derived.Test.YtnmmgpmhpjjehaaBothI
namespace Go.Proofs.Ytnmmgpmhpjjehaa
open Go.RowKit
theorem wFnGridsCounted (a0 : Option Addr) (l0 c0 : Nat) (a1 : Option Addr) (l1 c1 : Nat) (w : World) (h0 : IsCode w a0 l0 c0) (h1 : IsCode w a1 l1 c1) :
    Calls Try.prog 3 #[.slice a0 l0 c0, .slice a1 l1 c1] w fun e w' => e = .returned (.bool true) ∧ Below w.heap.size w w' :=
  wGrids (Lib.hid countDelannoy_ret) (Lib.hid countSchroder_ret) a0 l0 c0 a1 l1 c1 w h0 h1
end Go.Proofs.Ytnmmgpmhpjjehaa
