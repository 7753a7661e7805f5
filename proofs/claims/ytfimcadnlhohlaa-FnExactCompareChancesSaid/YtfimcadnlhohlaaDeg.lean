/- l1All, cyGood, IsDegrees, cyExcess, cyForest. -/
import Derived.Test.YtfimcadnlhohlaaInList
import Derived.Test.YtfimcadnlhohlaaInB
import Derived.Test.YtfimcadnlhohlaaDegMath
namespace Go.Proofs.Ytfimcadnlhohlaa
open Go.RowKit
set_option linter.unusedVariables false
def excV (xs : List Int) : Int := if degB xs then exc xs else 0
def forV (xs : List Int) : Bool := degB xs && forB xs
end Go.Proofs.Ytfimcadnlhohlaa
