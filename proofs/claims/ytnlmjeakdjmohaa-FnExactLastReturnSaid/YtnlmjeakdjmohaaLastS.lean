/- The model's LastAt. -/
import Derived.Test.YtnlmjeakdjmohaaTchS
namespace Go.Proofs.Ytnlmjeakdjmohaa
open Go.RowKit
set_option linter.unusedVariables false
def laOk (s : ByteArray) (h : Int) : Bool := pathB s && inB h (-40) 40 && decide (0 ≤ laZ s h)
def laV (s : ByteArray) (h : Int) : Int := if laOk s h = true then laZ s h else 0
end Go.Proofs.Ytnlmjeakdjmohaa
