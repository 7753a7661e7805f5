/- l1All, cyGood, IsDegrees, cyExcess, cyForest. -/
import Derived.Test.YtnlcainfkchieaaDoorInList
import Derived.Test.YtnlcainfkchieaaDoorInB
import Derived.Test.YtnlcainfkchieaaDoorDegMath
namespace Go.Proofs.YtnlcainfkchieaaDoor
open Go.RowKit
set_option linter.unusedVariables false
def excV (xs : List Int) : Int := if degB xs then exc xs else 0
def forV (xs : List Int) : Bool := degB xs && forB xs
end Go.Proofs.YtnlcainfkchieaaDoor
