/- Pack 35 of what FnFansAndCubes needs: WFnFansAndCubes. -/
import Derived.Test.YtmfcknlpbliehabKFnFansAndCubes34
/- FnFansAndCubes for every argument. -/
namespace Go.Proofs.Ytmfcknlpbliehab
open Go.RowKit
theorem wFnFansAndCubes (a0 : Option Addr) (l0 c0 : Nat) (a1 : Option Addr) (l1 c1 : Nat) (w : World) (h0 : IsCode w a0 l0 c0) (h1 : IsCode w a1 l1 c1) :
    Calls Try.prog 4 #[.slice a0 l0 c0, .slice a1 l1 c1] w fun e w' => e = .returned (.bool true) ∧ Below w.heap.size w w' :=
  wFans (Lib.hid countFansI_ret) (Lib.hid countCubesI_ret) (Lib.hid fun m h1 h7 w => allTrees_yes m h1 h7 w) (Lib.hid countApartI_ret) a0 l0 c0 a1 l1 c1 w h0 h1
end Go.Proofs.Ytmfcknlpbliehab
