/- The model's CountBothTouched, PairOf. -/
import Derived.Test.YtnlmjeakdjmohaaSumS
import Derived.Deep.RegionLaw
namespace Go.Proofs.Ytnlmjeakdjmohaa
open Go.RowKit
set_option linter.unusedVariables false
def bbV (n e lo hi : Int) : Int := if lo = 0 ∧ hi = 0 then toZ n e else toZ n e - (toZ n e - tchZ n e hi) - (toZ n e - tchZ n e lo) + (if lo < 0 ∧ 0 < hi then btZ n e (lo + 1) (hi - 1) else 0)
def btoV (a b lo hi : Int) : Int := if cbOk a b lo hi = true then bbV (a + b) (a - b) lo hi else 0
end Go.Proofs.Ytnlmjeakdjmohaa
