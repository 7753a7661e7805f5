/- The model's chapter 4: heights that are touched. -/
import Derived.Test.YtnlmjeakdjmohaaTchMath
import Derived.Test.YtnlmjeakdjmohaaScalars
import Derived.Test.YtnlmjeakdjmohaaTurn
import Derived.Test.YtnlmjeakdjmohaaLeastMost
import Derived.Test.YtnlmjeakdjmohaaChoose
import Derived.Deep.RegionLaw
namespace Go.Proofs.Ytnlmjeakdjmohaa
open Go.RowKit
set_option linter.unusedVariables false
def faOk (s : ByteArray) (h : Int) : Bool := pathB s && inB h (-40) 40 && decide (0 ≤ faZ s h)
def faV (s : ByteArray) (h : Int) : Int := if faOk s h = true then faZ s h else 0
def rbV (s : ByteArray) (h : Int) : ByteArray := if faOk s h = true then turnS (s.extract 0 (faZ s h).toNat) ++ s.extract (faZ s h).toNat s.size else ⟨#[]⟩
def rhV (s : ByteArray) (h : Int) : ByteArray := if faOk s h = true then s.extract 0 (faZ s h).toNat ++ turnS (s.extract (faZ s h).toNat s.size) else ⟨#[]⟩
end Go.Proofs.Ytnlmjeakdjmohaa
