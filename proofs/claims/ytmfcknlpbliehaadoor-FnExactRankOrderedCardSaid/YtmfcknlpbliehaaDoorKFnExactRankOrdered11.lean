/- Pack 11 of what FnExactRankOrdered needs: HeightsR, Deg. -/
import Derived.Test.YtmfcknlpbliehaaDoorKFnExactRankOrdered10
/- spec.HeightsOf; both in one form. -/
namespace Go.Proofs.YtmfcknlpbliehaaDoor
open Go.RowKit
def htsV (s : ByteArray) : List Int := if pathB s then hts s else []
theorem htsV_len (s : ByteArray) (h : ¬ 1048576 < s.size) : (htsV s).length ≤ 1048577 := by
  unfold htsV; split
  · rw [hts_length]; omega
  · simp
end Go.Proofs.YtmfcknlpbliehaaDoor

/- l1All, cyGood, IsDegrees, cyExcess, cyForest. -/
namespace Go.Proofs.YtmfcknlpbliehaaDoor
open Go.RowKit
set_option linter.unusedVariables false
def excV (xs : List Int) : Int := if degB xs then exc xs else 0
def forV (xs : List Int) : Bool := degB xs && forB xs
end Go.Proofs.YtmfcknlpbliehaaDoor
