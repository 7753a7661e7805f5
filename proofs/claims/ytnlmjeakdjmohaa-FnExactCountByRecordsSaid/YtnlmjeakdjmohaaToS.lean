/- The model's counts by reflections: l1Abs, miTo, miTouching, CountTouching, CountAbove, CountHighest. -/
import Derived.Test.YtnlmjeakdjmohaaTchMath
import Derived.Test.YtnlmjeakdjmohaaLeastMost
import Derived.Test.YtnlmjeakdjmohaaChoose
namespace Go.Proofs.Ytnlmjeakdjmohaa
open Go.RowKit
set_option linter.unusedVariables false
end Go.Proofs.Ytnlmjeakdjmohaa
