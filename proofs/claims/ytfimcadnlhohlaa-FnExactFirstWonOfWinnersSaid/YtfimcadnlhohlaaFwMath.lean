/- The first game won, of those who win: what is asked and what is told. -/
import Derived.Test.YtfimcadnlhohlaaRpMath
namespace Go.Proofs.Ytfimcadnlhohlaa
open Go.RowKit
set_option linter.unusedVariables false
def fwOk (i g n d : Int) : Bool := askB i g n d && inBd 1 (g - 1) i
def fwP (i g n d : Int) : Int := if fwOk i g n d = true then numZ (fxA i g n d * winQ i g n d) (fxB i g n d * winP i g n d) else 0
def fwQ (i g n d : Int) : Int := if fwOk i g n d = true then denZ (fxA i g n d * winQ i g n d) (fxB i g n d * winP i g n d) else 0
end Go.Proofs.Ytfimcadnlhohlaa
