/- The model's IsBetween, miCount, CountBetween, CountFirstPassage. -/
import Derived.Test.YtnlmjeakdjmohaaCntS
namespace Go.Proofs.Ytnlmjeakdjmohaa
open Go.RowKit
set_option linter.unusedVariables false
def beGo (s : ByteArray) (lo hi : Int) : Nat → Nat → Bool
  | 0, _ => true
  | n + 1, k => inB (hAt s k) lo hi && beGo s lo hi n (k + 1)
def beB (s : ByteArray) (lo hi : Int) : Bool := beGo s lo hi (s.size + 1) 0
def ibOk (s : ByteArray) (lo hi : Int) : Bool := pathB s && walB lo hi
def ibV (s : ByteArray) (lo hi : Int) : Bool := ibOk s lo hi && beB s lo hi
/-! ### CountFirstPassage -/
def fpOk (n h : Int) : Bool := inB n 1 40 && inB h (-40) 40 && decide (h ≠ 0)
def fpV (n h : Int) : Int := if fpOk n h = true then (toZ n h * (if h < -h then -h else h)).tdiv n else 0
end Go.Proofs.Ytnlmjeakdjmohaa
