/- The model's kiCount. -/
import Derived.Test.YtahnknbggacndaaKcMath
import Derived.Test.YtahnknbggacndaaOwn
namespace Go.Proofs.Ytahnknbggacndaa
open Go.RowKit
set_option linter.unusedVariables false
end Go.Proofs.Ytahnknbggacndaa
