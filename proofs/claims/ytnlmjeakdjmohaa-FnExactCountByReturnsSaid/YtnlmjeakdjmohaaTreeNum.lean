/- cyNumber. -/
import Derived.Test.YtnlmjeakdjmohaaChoose
namespace Go.Proofs.Ytnlmjeakdjmohaa
open Go.RowKit
set_option linter.unusedVariables false
/-- how many lists of n degrees make t trees -/
def numN (n t : Nat) : Nat := if n = 0 ∨ t = 0 then (if n = t then 1 else 0) else if n < t then 0 else chs (2 * n - t) n * t / (2 * n - t)
end Go.Proofs.Ytnlmjeakdjmohaa
